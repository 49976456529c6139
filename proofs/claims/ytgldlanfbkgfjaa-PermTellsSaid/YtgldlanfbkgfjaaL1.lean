/- The law PermGroup (layer 3): its walk. -/
import Derived.Test.YtgldlanfbkgfjaaPI
namespace Go.Proofs.Ytgldlanfbkgfjaa
open Go.RowKit

section
variable {n : Nat} {p q r : List Nat}
theorem comp_inv (h : Perm n p) : compP p (invP p) = List.range n := by
  refine gn_ext (by rw [compP_length, h.len, List.length_range]) (fun i hi => ?_)
  rw [compP_length] at hi
  have hi' : i < n := by rw [← h.len]; exact hi
  rw [gn_comp hi, gn_inv h hi', gn_range hi']
theorem inv_comp (h : Perm n p) : compP (invP p) p = List.range n := by
  refine gn_ext (by rw [compP_length, invP_length, h.len, List.length_range]) (fun i hi => ?_)
  rw [compP_length, invP_length, h.len] at hi
  rw [gn_comp (by rw [invP_length, h.len]; exact hi), (gn_inv2 h hi).1, gn_range hi]
theorem comp_id (h : Perm n p) : compP p (List.range n) = p := by
  refine gn_ext (compP_length _ _) (fun i hi => ?_)
  rw [compP_length, h.len] at hi
  rw [gn_comp (by rw [h.len]; exact hi), gn_range (h.gn_lt hi)]
theorem id_comp (h : Perm n p) : compP (List.range n) p = p := by
  refine gn_ext (by rw [compP_length, List.length_range, h.len]) (fun i hi => ?_)
  rw [compP_length, List.length_range] at hi
  rw [gn_comp (by rw [List.length_range]; exact hi), gn_range hi]
theorem comp_assoc (h : Perm n p) (k : Perm n q) : compP (compP p q) r = compP p (compP q r) := by
  refine gn_ext (by simp [compP_length]) (fun i hi => ?_)
  rw [compP_length, compP_length] at hi
  have hi' : i < n := by rw [← h.len]; exact hi
  rw [gn_comp (by rw [compP_length]; exact hi), gn_comp hi, gn_comp hi, gn_comp (by rw [k.len]; exact h.gn_lt hi')]
theorem inv_of_comp (h : Perm n p) (k : Perm n q) : invP (compP p q) = compP (invP q) (invP p) := by
  have hc := h.comp k
  refine gn_ext (by rw [invP_length, compP_length, compP_length, invP_length, h.len, k.len]) (fun v hv => ?_)
  rw [invP_length, hc.len] at hv
  have e1 := (gn_inv2 hc hv)
  have e2 := (gn_inv2 k hv)
  have e3 := (gn_inv2 h e2.2)
  rw [gn_comp (by rw [invP_length, k.len]; exact hv)]
  refine hc.inj e1.2 e3.2 ?_
  rw [e1.1, gn_comp (by rw [h.len]; exact e3.2), e3.1, e2.1]
end

set_option maxRecDepth 100000 in
set_option maxHeartbeats 8000000 in
theorem group_main (A B C : Option Addr) (c d f n : Nat) (p q r : List Nat) (w : World) (hA : RdZ w A (iz p)) (hB : RdZ w B (iz q)) (hC : RdZ w C (iz r)) (hp : Perm n p) (hq : Perm n q) (hr : Perm n r) (hn : n ≤ 200) :
    Calls Try.prog 4 #[.slice A n c, .slice B n d, .slice C n f] w fun e w' => e = .returned (.bool true) ∧ Below w.heap.size w w' := by
  have RP := Lib.hid hA
  have RQ := Lib.hid hB
  have RR := Lib.hid hC
  have HP := Lib.hid hp
  have HQ := Lib.hid hq
  have HR := Lib.hid hr
  have HP1 := Lib.hid (perm_right hp hn)
  have HQ1 := Lib.hid (perm_right hq hn)
  have HR1 := Lib.hid (perm_right hr hn)
  have g1 : ((n : Int) != (n : Int)) = false := by simp
  clear hA hB hC hp hq hr
  go_enter Try.func4, Try.ntmps4
  go_wp2_with fail
  refine (rightP_any A c n (iz p) w RP.out (izl HP.out) (by omega)).mono ?_
  rintro e w1 ⟨rfl, hb⟩
  rw [HP1.out]
  have RP := Lib.hid (RP.out.below hb)
  have RQ := Lib.hid (RQ.out.below hb)
  have RR := Lib.hid (RR.out.below hb)
  have HB := Lib.hid hb
  clear  hb
  go_wp2_with fail
  refine (rightP_any B d n (iz q) w1 RQ.out (izl HQ.out) (by omega)).mono ?_
  rintro e w2 ⟨rfl, hb⟩
  rw [HQ1.out]
  have RP := Lib.hid (RP.out.below hb)
  have RQ := Lib.hid (RQ.out.below hb)
  have RR := Lib.hid (RR.out.below hb)
  have HB := Lib.hid (next_below HB.out hb)
  clear  hb
  go_wp2_with fail
  refine (rightP_any C f n (iz r) w2 RR.out (izl HR.out) (by omega)).mono ?_
  rintro e w3 ⟨rfl, hb⟩
  rw [HR1.out]
  have RP := Lib.hid (RP.out.below hb)
  have RQ := Lib.hid (RQ.out.below hb)
  have RR := Lib.hid (RR.out.below hb)
  have HB := Lib.hid (next_below HB.out hb)
  clear  hb
  go_wp2_with fail
  refine (ident_yes n w3 hn).mono ?_
  rintro e w4 ⟨KI, rfl, hz, _, hb⟩
  have RP := Lib.hid (RP.out.below hb)
  have RQ := Lib.hid (RQ.out.below hb)
  have RR := Lib.hid (RR.out.below hb)
  have HB := Lib.hid (next_below HB.out hb)
  have ZN := Lib.hid hz
  clear hz hb
  go_wp2_with fail
  refine (invert_yes A c n p w4 RP.out HP.out hn).mono ?_
  rintro e w5 ⟨KB, rfl, hz, _, hb⟩
  have RP := Lib.hid (RP.out.below hb)
  have RQ := Lib.hid (RQ.out.below hb)
  have RR := Lib.hid (RR.out.below hb)
  have ZN := Lib.hid (ZN.out.below hb)
  have HB := Lib.hid (next_below HB.out hb)
  have ZB := Lib.hid hz
  clear hz hb
  go_wp2_with fail
  refine (both_yes A (some ⟨KB, 0, none⟩) c n n p (invP p) w5 RP.out ZB.out.rd HP.out HP.out.inv hn).mono ?_
  rintro e w6 ⟨K1, rfl, hz, _, hb⟩
  have RP := Lib.hid (RP.out.below hb)
  have RQ := Lib.hid (RQ.out.below hb)
  have RR := Lib.hid (RR.out.below hb)
  have ZN := Lib.hid (ZN.out.below hb)
  have ZB := Lib.hid (ZB.out.below hb)
  have HB := Lib.hid (next_below HB.out hb)
  have Z1 := Lib.hid hz
  clear hz hb
  go_wp2_with fail
  refine (both_yes (some ⟨KB, 0, none⟩) A n c n (invP p) p w6 ZB.out.rd RP.out HP.out.inv HP.out hn).mono ?_
  rintro e w7 ⟨K2, rfl, hz, _, hb⟩
  have RP := Lib.hid (RP.out.below hb)
  have RQ := Lib.hid (RQ.out.below hb)
  have RR := Lib.hid (RR.out.below hb)
  have ZN := Lib.hid (ZN.out.below hb)
  have ZB := Lib.hid (ZB.out.below hb)
  have Z1 := Lib.hid (Z1.out.below hb)
  have HB := Lib.hid (next_below HB.out hb)
  have Z2 := Lib.hid hz
  clear hz hb
  go_wp2_with fail
  refine (both_yes A (some ⟨KI, 0, none⟩) c n n p (List.range n) w7 RP.out ZN.out.rd HP.out (perm_range n) hn).mono ?_
  rintro e w8 ⟨K3, rfl, hz, _, hb⟩
  have RP := Lib.hid (RP.out.below hb)
  have RQ := Lib.hid (RQ.out.below hb)
  have RR := Lib.hid (RR.out.below hb)
  have ZN := Lib.hid (ZN.out.below hb)
  have ZB := Lib.hid (ZB.out.below hb)
  have Z1 := Lib.hid (Z1.out.below hb)
  have Z2 := Lib.hid (Z2.out.below hb)
  have HB := Lib.hid (next_below HB.out hb)
  have Z3 := Lib.hid hz
  clear hz hb
  go_wp2_with fail
  refine (both_yes (some ⟨KI, 0, none⟩) A n c n (List.range n) p w8 ZN.out.rd RP.out (perm_range n) HP.out hn).mono ?_
  rintro e w9 ⟨K4, rfl, hz, _, hb⟩
  have RP := Lib.hid (RP.out.below hb)
  have RQ := Lib.hid (RQ.out.below hb)
  have RR := Lib.hid (RR.out.below hb)
  have ZN := Lib.hid (ZN.out.below hb)
  have ZB := Lib.hid (ZB.out.below hb)
  have Z1 := Lib.hid (Z1.out.below hb)
  have Z2 := Lib.hid (Z2.out.below hb)
  have Z3 := Lib.hid (Z3.out.below hb)
  have HB := Lib.hid (next_below HB.out hb)
  have Z4 := Lib.hid hz
  clear hz hb
  have hsz := sameZ_any (some ⟨K1, 0, none⟩) (some ⟨KI, 0, none⟩) n n n n (iz (compP p (invP p))) (iz (List.range n)) w9 Z1.out.rd ZN.out.rd (by omega) (by omega) (izl (HP.out.comp HP.out.inv)) (izl (perm_range n))
  rw [decide_eq_true (congrArg iz (comp_inv HP.out))] at hsz
  have HSZ := Lib.hid hsz
  clear hsz
  go_wp2_with fail
  refine (HSZ.out).mono ?_
  rintro e w10 ⟨rfl, hb⟩
  have RP := Lib.hid (RP.out.below hb)
  have RQ := Lib.hid (RQ.out.below hb)
  have RR := Lib.hid (RR.out.below hb)
  have ZN := Lib.hid (ZN.out.below hb)
  have ZB := Lib.hid (ZB.out.below hb)
  have Z2 := Lib.hid (Z2.out.below hb)
  have Z3 := Lib.hid (Z3.out.below hb)
  have Z4 := Lib.hid (Z4.out.below hb)
  have HB := Lib.hid (next_below HB.out hb)
  clear  hb
  have hsz := sameZ_any (some ⟨K2, 0, none⟩) (some ⟨KI, 0, none⟩) n n n n (iz (compP (invP p) p)) (iz (List.range n)) w10 Z2.out.rd ZN.out.rd (by omega) (by omega) (izl (HP.out.inv.comp HP.out)) (izl (perm_range n))
  rw [decide_eq_true (congrArg iz (inv_comp HP.out))] at hsz
  have HSZ := Lib.hid hsz
  clear hsz
  go_wp2_with fail
  refine (HSZ.out).mono ?_
  rintro e w11 ⟨rfl, hb⟩
  have RP := Lib.hid (RP.out.below hb)
  have RQ := Lib.hid (RQ.out.below hb)
  have RR := Lib.hid (RR.out.below hb)
  have ZN := Lib.hid (ZN.out.below hb)
  have ZB := Lib.hid (ZB.out.below hb)
  have Z3 := Lib.hid (Z3.out.below hb)
  have Z4 := Lib.hid (Z4.out.below hb)
  have HB := Lib.hid (next_below HB.out hb)
  clear  hb
  have hsz := sameZ_any (some ⟨K3, 0, none⟩) A n c n n (iz (compP p (List.range n))) (iz p) w11 Z3.out.rd RP.out (by omega) (by omega) (izl (HP.out.comp (perm_range n))) (izl HP.out)
  rw [decide_eq_true (congrArg iz (comp_id HP.out))] at hsz
  have HSZ := Lib.hid hsz
  clear hsz
  go_wp2_with fail
  refine (HSZ.out).mono ?_
  rintro e w12 ⟨rfl, hb⟩
  have RP := Lib.hid (RP.out.below hb)
  have RQ := Lib.hid (RQ.out.below hb)
  have RR := Lib.hid (RR.out.below hb)
  have ZN := Lib.hid (ZN.out.below hb)
  have ZB := Lib.hid (ZB.out.below hb)
  have Z4 := Lib.hid (Z4.out.below hb)
  have HB := Lib.hid (next_below HB.out hb)
  clear  hb
  have hsz := sameZ_any (some ⟨K4, 0, none⟩) A n c n n (iz (compP (List.range n) p)) (iz p) w12 Z4.out.rd RP.out (by omega) (by omega) (izl ((perm_range n).comp HP.out)) (izl HP.out)
  rw [decide_eq_true (congrArg iz (id_comp HP.out))] at hsz
  have HSZ := Lib.hid hsz
  clear hsz
  go_wp2_with fail
  refine (HSZ.out).mono ?_
  rintro e w13 ⟨rfl, hb⟩
  have RP := Lib.hid (RP.out.below hb)
  have RQ := Lib.hid (RQ.out.below hb)
  have RR := Lib.hid (RR.out.below hb)
  have ZB := Lib.hid (ZB.out.below hb)
  have HB := Lib.hid (next_below HB.out hb)
  clear  hb
  go_wp2_with fail
  refine (both_yes A B c d n p q w13 RP.out RQ.out HP.out HQ.out hn).mono ?_
  rintro e w14 ⟨K5, rfl, hz, _, hb⟩
  have RP := Lib.hid (RP.out.below hb)
  have RQ := Lib.hid (RQ.out.below hb)
  have RR := Lib.hid (RR.out.below hb)
  have ZB := Lib.hid (ZB.out.below hb)
  have HB := Lib.hid (next_below HB.out hb)
  have Z5 := Lib.hid hz
  clear hz hb
  go_wp2_with fail
  refine (both_yes B C d f n q r w14 RQ.out RR.out HQ.out HR.out hn).mono ?_
  rintro e w15 ⟨K6, rfl, hz, _, hb⟩
  have RP := Lib.hid (RP.out.below hb)
  have RQ := Lib.hid (RQ.out.below hb)
  have RR := Lib.hid (RR.out.below hb)
  have ZB := Lib.hid (ZB.out.below hb)
  have Z5 := Lib.hid (Z5.out.below hb)
  have HB := Lib.hid (next_below HB.out hb)
  have Z6 := Lib.hid hz
  clear hz hb
  go_wp2_with fail
  refine (both_yes (some ⟨K5, 0, none⟩) C n f n (compP p q) r w15 Z5.out.rd RR.out (HP.out.comp HQ.out) HR.out hn).mono ?_
  rintro e w16 ⟨K7, rfl, hz, _, hb⟩
  have RP := Lib.hid (RP.out.below hb)
  have RQ := Lib.hid (RQ.out.below hb)
  have RR := Lib.hid (RR.out.below hb)
  have ZB := Lib.hid (ZB.out.below hb)
  have Z5 := Lib.hid (Z5.out.below hb)
  have Z6 := Lib.hid (Z6.out.below hb)
  have HB := Lib.hid (next_below HB.out hb)
  have Z7 := Lib.hid hz
  clear hz hb
  go_wp2_with fail
  refine (both_yes A (some ⟨K6, 0, none⟩) c n n p (compP q r) w16 RP.out Z6.out.rd HP.out (HQ.out.comp HR.out) hn).mono ?_
  rintro e w17 ⟨K8, rfl, hz, _, hb⟩
  have RP := Lib.hid (RP.out.below hb)
  have RQ := Lib.hid (RQ.out.below hb)
  have RR := Lib.hid (RR.out.below hb)
  have ZB := Lib.hid (ZB.out.below hb)
  have Z5 := Lib.hid (Z5.out.below hb)
  have Z6 := Lib.hid (Z6.out.below hb)
  have Z7 := Lib.hid (Z7.out.below hb)
  have HB := Lib.hid (next_below HB.out hb)
  have Z8 := Lib.hid hz
  clear hz hb
  have hsz := sameZ_any (some ⟨K7, 0, none⟩) (some ⟨K8, 0, none⟩) n n n n (iz (compP (compP p q) r)) (iz (compP p (compP q r))) w17 Z7.out.rd Z8.out.rd (by omega) (by omega) (izl ((HP.out.comp HQ.out).comp HR.out)) (izl (HP.out.comp (HQ.out.comp HR.out)))
  rw [decide_eq_true (congrArg iz (comp_assoc HP.out HQ.out))] at hsz
  have HSZ := Lib.hid hsz
  clear hsz
  go_wp2_with fail
  refine (HSZ.out).mono ?_
  rintro e w18 ⟨rfl, hb⟩
  have RP := Lib.hid (RP.out.below hb)
  have RQ := Lib.hid (RQ.out.below hb)
  have RR := Lib.hid (RR.out.below hb)
  have ZB := Lib.hid (ZB.out.below hb)
  have Z5 := Lib.hid (Z5.out.below hb)
  have HB := Lib.hid (next_below HB.out hb)
  clear  hb
  go_wp2_with fail
  refine (invert_yes (some ⟨K5, 0, none⟩) n n (compP p q) w18 Z5.out.rd (HP.out.comp HQ.out) hn).mono ?_
  rintro e w19 ⟨K9, rfl, hz, _, hb⟩
  have RP := Lib.hid (RP.out.below hb)
  have RQ := Lib.hid (RQ.out.below hb)
  have RR := Lib.hid (RR.out.below hb)
  have ZB := Lib.hid (ZB.out.below hb)
  have Z5 := Lib.hid (Z5.out.below hb)
  have HB := Lib.hid (next_below HB.out hb)
  have Z9 := Lib.hid hz
  clear hz hb
  go_wp2_with fail
  refine (invert_yes B d n q w19 RQ.out HQ.out hn).mono ?_
  rintro e w20 ⟨K10, rfl, hz, _, hb⟩
  have RP := Lib.hid (RP.out.below hb)
  have RQ := Lib.hid (RQ.out.below hb)
  have RR := Lib.hid (RR.out.below hb)
  have ZB := Lib.hid (ZB.out.below hb)
  have Z5 := Lib.hid (Z5.out.below hb)
  have Z9 := Lib.hid (Z9.out.below hb)
  have HB := Lib.hid (next_below HB.out hb)
  have Z10 := Lib.hid hz
  clear hz hb
  go_wp2_with fail
  refine (both_yes (some ⟨K10, 0, none⟩) (some ⟨KB, 0, none⟩) n n n (invP q) (invP p) w20 Z10.out.rd ZB.out.rd HQ.out.inv HP.out.inv hn).mono ?_
  rintro e w21 ⟨K11, rfl, hz, _, hb⟩
  have RP := Lib.hid (RP.out.below hb)
  have RQ := Lib.hid (RQ.out.below hb)
  have RR := Lib.hid (RR.out.below hb)
  have ZB := Lib.hid (ZB.out.below hb)
  have Z5 := Lib.hid (Z5.out.below hb)
  have Z9 := Lib.hid (Z9.out.below hb)
  have Z10 := Lib.hid (Z10.out.below hb)
  have HB := Lib.hid (next_below HB.out hb)
  have Z11 := Lib.hid hz
  clear hz hb
  have hsz := sameZ_any (some ⟨K9, 0, none⟩) (some ⟨K11, 0, none⟩) n n n n (iz (invP (compP p q))) (iz (compP (invP q) (invP p))) w21 Z9.out.rd Z11.out.rd (by omega) (by omega) (izl (HP.out.comp HQ.out).inv) (izl (HQ.out.inv.comp HP.out.inv))
  rw [decide_eq_true (congrArg iz (inv_of_comp HP.out HQ.out))] at hsz
  have HSZ := Lib.hid hsz
  clear hsz
  go_wp2_with fail
  refine (HSZ.out).mono ?_
  rintro e w22 ⟨rfl, hb⟩
  have RP := Lib.hid (RP.out.below hb)
  have RQ := Lib.hid (RQ.out.below hb)
  have RR := Lib.hid (RR.out.below hb)
  have ZB := Lib.hid (ZB.out.below hb)
  have Z5 := Lib.hid (Z5.out.below hb)
  have Z9 := Lib.hid (Z9.out.below hb)
  have Z10 := Lib.hid (Z10.out.below hb)
  have Z11 := Lib.hid (Z11.out.below hb)
  have HB := Lib.hid (next_below HB.out hb)
  clear  hb
  go_wp2_with fail
  refine (awake_any w22).mono ?_
  rintro e w99 ⟨rfl, hb⟩
  go_wp2_with fail
  go_ret
  exact ⟨rfl, next_below HB.out hb⟩
end Go.Proofs.Ytgldlanfbkgfjaa
