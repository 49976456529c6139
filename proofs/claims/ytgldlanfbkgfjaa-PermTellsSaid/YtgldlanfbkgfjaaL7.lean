/- The law PermApply (layer 3): its walk. -/
import Derived.Test.YtgldlanfbkgfjaaPI
import Derived.Test.YtgldlanfbkgfjaaL1
import Derived.Test.YtgldlanfbkgfjaaW24
import Derived.Deep.RegionHeld
namespace Go.Proofs.Ytgldlanfbkgfjaa
open Go.RowKit

theorem rightG_pw {n : Int} {E : List (Int × Int)} (h : rightG n E = true) : E.Pairwise (fun a b => cmpP a b < 0) := by
  have ho := rightG_ord h
  rw [List.pairwise_iff_getElem]
  intro i j hi hj hij
  have := ho i j hij hj
  have e1 : E.getD i (0, 0) = E[i] := by simp [List.getD, hi]
  have e2 : E.getD j (0, 0) = E[j] := by simp [List.getD, hj]
  rwa [e1, e2] at this
theorem cmpP_neg3 (x y : Int × Int) : cmpP x y < 0 ↔ x.1 < y.1 ∨ (x.1 = y.1 ∧ x.2 < y.2) := by
  have h := cmpP_lt x y
  unfold Go.Proofs.ltOf at h
  constructor
  · intro h1
    rw [decide_eq_true h1] at h
    exact of_decide_eq_true h.symm
  · intro h1
    rw [decide_eq_true h1] at h
    exact of_decide_eq_true h
/-- Right graphs with the same edges are one. -/
theorem rightG_one {n : Int} {E F : List (Int × Int)} (hE : rightG n E = true) (hF : rightG n F = true) (hp : E.Perm F) : E = F := by
  refine List.Perm.eq_of_pairwise (le := fun a b => cmpP a b < 0) (fun a b _ _ h1 h2 => ?_) (rightG_pw hE) (rightG_pw hF) hp
  rw [cmpP_neg3] at h1 h2
  omega
theorem nrm_min (a b : Int) : nrm (a, b) = (min a b, max a b) := by
  unfold nrm
  simp only
  split
  · rw [Int.min_eq_right (by omega), Int.max_eq_left (by omega)]
  · rw [Int.min_eq_left (by omega), Int.max_eq_right (by omega)]
theorem edP_nrm (q : List Nat) (e : Int × Int) : nrm (edP q (nrm e)) = nrm (edP q e) := by
  obtain ⟨a, b⟩ := e
  by_cases h : b < a
  · have e1 : nrm (a, b) = (b, a) := by simp [nrm, h]
    rw [e1]
    simp only [edP, nrm_min]
    rw [Int.min_comm, Int.max_comm]
  · have e1 : nrm (a, b) = (a, b) := by simp [nrm, h]
    rw [e1]
section
variable {n : Nat} {p q : List Nat} {E F G : List (Int × Int)}
theorem edge_in (hg : rightG (n : Nat) E = true) {e : Int × Int} (he : e ∈ E) : 0 ≤ e.1 ∧ e.1 < e.2 ∧ e.2 < n := by
  obtain ⟨k, hk⟩ := List.getElem?_of_mem he
  exact rightG_edge hg hk
theorem apply_two (hp : Perm n p) (hg : rightG (n : Nat) E = true) (hF : F.Perm ((E.map (edP p)).map nrm)) (hG : G.Perm ((F.map (edP q)).map nrm)) : G.Perm ((E.map (edP (compP p q))).map nrm) := by
  refine hG.trans (((hF.map (edP q)).map nrm).trans ?_)
  rw [List.map_map, List.map_map, List.map_map, List.map_map]
  have e : E.map ((nrm ∘ edP q) ∘ nrm ∘ edP p) = E.map (nrm ∘ edP (compP p q)) := by
    refine List.map_congr_left (fun e he => ?_)
    obtain ⟨h1, h2, h3⟩ := edge_in hg he
    show nrm (edP q (nrm (edP p e))) = nrm (edP (compP p q) e)
    rw [edP_nrm]
    congr 1
    unfold edP
    rw [gn_comp (by rw [hp.len]; omega), gn_comp (by rw [hp.len]; omega)]
    simp
  rw [show E.map (((nrm ∘ edP q) ∘ nrm) ∘ edP p) = E.map (nrm ∘ edP (compP p q)) from e]
theorem apply_back (hp : Perm n p) (hg : rightG (n : Nat) E = true) (hF : F.Perm ((E.map (edP p)).map nrm)) (hG : G.Perm ((F.map (edP (invP p))).map nrm)) : G.Perm E := by
  refine (apply_two hp hg hF hG).trans ?_
  have e : (E.map (edP (compP p (invP p)))).map nrm = E := by
    rw [comp_inv hp, List.map_map]
    have e2 : E.map (nrm ∘ edP (List.range n)) = E.map id := by
      refine List.map_congr_left (fun e he => ?_)
      obtain ⟨h1, h2, h3⟩ := edge_in hg he
      obtain ⟨a, b⟩ := e
      simp only at h1 h2 h3
      show nrm (edP (List.range n) (a, b)) = (a, b)
      unfold edP
      rw [gn_range (by simp only; omega), gn_range (by simp only; omega)]
      simp only
      rw [show ((a.toNat : Nat) : Int) = a by omega, show ((b.toNat : Nat) : Int) = b by omega, nrm_min, Int.min_eq_left (by omega), Int.max_eq_right (by omega)]
    rw [e2, List.map_id]
  rw [e]
theorem has_moved (hp : Perm n p) (hg : rightG (n : Nat) E = true) (hF : F.Perm ((E.map (edP p)).map nrm)) {a b : Nat} (ha : a < n) (hb : b < n) : hasG F ((gn p a : Nat) : Int) ((gn p b : Nat) : Int) = hasG E (a : Int) (b : Int) := by
  unfold hasG
  rw [decide_eq_decide, ← nrm_min, ← nrm_min, hF.mem_iff, List.map_map, List.mem_map]
  constructor
  · rintro ⟨e, he, h⟩
    obtain ⟨h1, h2, h3⟩ := edge_in hg he
    have inj := fun (u v : Nat) hu hv => hp.inj (i := u) (j := v) hu hv
    have hne : nrm e = e := by
      obtain ⟨x, y⟩ := e
      simp only at h2
      rw [nrm_min, Int.min_eq_left (by omega), Int.max_eq_right (by omega)]
    have key : nrm ((a : Int), (b : Int)) = e := by
      rcases nrm_two (show nrm (edP p e) = nrm (((gn p a : Nat) : Int), ((gn p b : Nat) : Int)) from h) with ⟨h4, h5⟩ | ⟨h4, h5⟩
      · have i1 := inj _ _ (by omega) ha h4
        have i2 := inj _ _ (by omega) hb h5
        rw [← hne]
        congr 1
        exact Prod.ext (by simp only; omega) (by simp only; omega)
      · have i1 := inj _ _ (by omega) hb h4
        have i2 := inj _ _ (by omega) ha h5
        rw [← hne, nrm_min]
        obtain ⟨x, y⟩ := e
        simp only at i1 i2 h1 h2 h3
        rw [nrm_min, show (a : Int) = y by omega, show (b : Int) = x by omega, Int.min_comm, Int.max_comm]
    rw [key]
    exact he
  · intro h
    refine ⟨_, h, ?_⟩
    show nrm (edP p (nrm ((a : Int), (b : Int)))) = _
    rw [edP_nrm]
    simp [edP]
end
/-- A graph in a box. -/
def BoxG (w : World) (b n : Nat) (A : Option Addr) (m c : Nat) : Prop := w.heap[b]? = some (.cells #[.int .i64 (n : Nat), .slice A m c] 25 (0, 0))
theorem BoxG.below {w w' : World} {b n m c : Nat} {A : Option Addr} (h : BoxG w b n A m c) (hb : Below w.heap.size w w') : BoxG w' b n A m c := blk_below h hb
theorem BoxG.two {w : World} {b n m c : Nat} {A : Option Addr} (h : BoxG w b n A m c) : w.cell? ⟨b, 0, none⟩ = some (.int .i64 (n : Nat)) ∧ w.cell? ⟨b, 1, none⟩ = some (.slice A m c) := by
  obtain ⟨h1, h2, _, _⟩ := cells_two (w := w) h
  exact ⟨h1, h2⟩

set_option maxRecDepth 100000 in
set_option maxHeartbeats 8000000 in
theorem apply_main (A B C : Option Addr) (c d f m n : Nat) (E : List (Int × Int)) (p q : List Nat) (w : World) (hA : RdP w A E) (hB : RdZ w B (iz p)) (hC : RdZ w C (iz q)) (hm : m = E.length) (hg : rightG (n : Nat) E = true) (hp : Perm n p) (hq : Perm n q) (hn : n ≤ 40) :
    Calls Try.prog 7 #[.agg #[.int .i64 (n : Nat), .slice A m c], .slice B n d, .slice C n f] w fun e w' => e = .returned (.bool true) ∧ Below w.heap.size w w' := by
  have hm2 : m ≤ 594 := by have := (rightG_bounds hg).2.2; omega
  obtain ⟨w0, hw0⟩ : ∃ w0, w0 = w.alloc (.cells #[.int .i64 (n : Nat), .slice A m c] 25) := ⟨_, rfl⟩
  have hb0 : Below w.heap.size w w0 := by rw [hw0]; exact (Below.refl _ _).alloc (Nat.le_refl _) _
  have BG : Hid (BoxG w0 w.heap.size n A m c) := by show _ = _; rw [hw0]; exact heap_alloc_new w _
  have RA := Lib.hid (hA.below hb0)
  have RP := Lib.hid (hB.below hb0)
  have RQ := Lib.hid (hC.below hb0)
  have HM := Lib.hid hm
  have HG := Lib.hid hg
  have HP := Lib.hid hp
  have HQ := Lib.hid hq
  have HP1 := Lib.hid (perm_right hp (by omega))
  have HQ1 := Lib.hid (perm_right hq (by omega))
  have HB := Lib.hid hb0
  have HW0 := Lib.hid hw0
  have g1 : decide ((40 : Int) < (n : Int)) = false := by rw [decide_eq_false_iff_not]; omega
  have g2 : decide (40 < n) = false := by rw [decide_eq_false_iff_not]; omega
  have g3 : ((n : Int) != (n : Int)) = false := by simp
  have g4 : ((m : Int) != (m : Int)) = false := by simp
  obtain ⟨j0, j1⟩ := BG.out.two
  clear hA hB hC hm hg hp hq hb0 hw0
  go_enter Try.func7, Try.ntmps7
  go_wp2_with fail
  rw [← HW0.out]
  refine (right_any A c m (n : Nat) E w0 RA.out HM.out).mono ?_
  rintro e w1 ⟨rfl, hb⟩
  rw [HG.out]
  clear j0 j1
  have BG := Lib.hid (BG.out.below hb)
  have RA := Lib.hid (RA.out.below hb)
  have RP := Lib.hid (RP.out.below hb)
  have RQ := Lib.hid (RQ.out.below hb)
  have HB := Lib.hid (next_below HB.out hb)
  clear  hb
  obtain ⟨jBG0, jBG1⟩ := BG.out.two
  go_wp2_with fail
  refine (rightP_any B d n (iz p) w1 RP.out (izl HP.out) (by omega)).mono ?_
  rintro e w2 ⟨rfl, hb⟩
  rw [HP1.out]
  clear jBG0 jBG1
  have BG := Lib.hid (BG.out.below hb)
  have RA := Lib.hid (RA.out.below hb)
  have RP := Lib.hid (RP.out.below hb)
  have RQ := Lib.hid (RQ.out.below hb)
  have HB := Lib.hid (next_below HB.out hb)
  clear  hb
  obtain ⟨jBG0, jBG1⟩ := BG.out.two
  go_wp2_with fail
  refine (rightP_any C f n (iz q) w2 RQ.out (izl HQ.out) (by omega)).mono ?_
  rintro e w3 ⟨rfl, hb⟩
  rw [HQ1.out]
  clear jBG0 jBG1
  have BG := Lib.hid (BG.out.below hb)
  have RA := Lib.hid (RA.out.below hb)
  have RP := Lib.hid (RP.out.below hb)
  have RQ := Lib.hid (RQ.out.below hb)
  have HB := Lib.hid (next_below HB.out hb)
  clear  hb
  obtain ⟨jBG0, jBG1⟩ := BG.out.two
  go_wp2_with fail
  refine (apply_yes A B c d m n E p w3 RA.out RP.out HM.out HG.out HP.out).mono ?_
  rintro e w4 ⟨B1, c1, F1, rfl, hf1, hf2, hf3, hf4, hb⟩
  have hml1 : m = F1.length := by rw [hf1.length_eq, List.length_map, List.length_map]; exact HM.out
  have HL1 := Lib.hid hml1
  clear hml1 hf4
  clear jBG0 jBG1
  have BG := Lib.hid (BG.out.below hb)
  have RA := Lib.hid (RA.out.below hb)
  have RP := Lib.hid (RP.out.below hb)
  have RQ := Lib.hid (RQ.out.below hb)
  have HB := Lib.hid (next_below HB.out hb)
  have HF1 := Lib.hid hf1
  have HG1 := Lib.hid hf2
  have RF1 := Lib.hid hf3
  clear hf1 hf2 hf3 hb
  obtain ⟨jBG0, jBG1⟩ := BG.out.two
  obtain ⟨v1, hw⟩ : ∃ v1, v1 = w4.alloc (.cells #[.int .i64 (n : Nat), .slice B1 m c1] 25) := ⟨_, rfl⟩
  have hb : Below w4.heap.size w4 v1 := by rw [hw]; exact (Below.refl _ _).alloc (Nat.le_refl _) _
  have BH : Hid (BoxG v1 w4.heap.size n B1 m c1) := by show _ = _; rw [hw]; exact heap_alloc_new w4 _
  have HW1 := Lib.hid hw
  clear jBG0 jBG1
  have BG := Lib.hid (BG.out.below hb)
  have RA := Lib.hid (RA.out.below hb)
  have RP := Lib.hid (RP.out.below hb)
  have RQ := Lib.hid (RQ.out.below hb)
  have RF1 := Lib.hid (RF1.out.below hb)
  have HB := Lib.hid (next_below HB.out hb)
  clear hb hw
  obtain ⟨jBG0, jBG1⟩ := BG.out.two
  obtain ⟨jBH0, jBH1⟩ := BH.out.two
  rw [HW1.out] at jBG0 jBG1 jBH0 jBH1
  go_wp2_with fail
  rw [← HW1.out]
  refine (apply_yes B1 C c1 f m n F1 q v1 RF1.out RQ.out HL1.out HG1.out HQ.out).mono ?_
  rintro e w5 ⟨B2, c2, F2, rfl, hf1, hf2, hf3, hf4, hb⟩
  have hml2 : m = F2.length := by rw [hf1.length_eq, List.length_map, List.length_map]; exact HL1.out
  have HL2 := Lib.hid hml2
  clear hml2 hf4
  clear jBG0 jBG1 jBH0 jBH1
  have BG := Lib.hid (BG.out.below hb)
  have RA := Lib.hid (RA.out.below hb)
  have RP := Lib.hid (RP.out.below hb)
  have RQ := Lib.hid (RQ.out.below hb)
  have RF1 := Lib.hid (RF1.out.below hb)
  have BH := Lib.hid (BH.out.below hb)
  have HB := Lib.hid (next_below HB.out hb)
  have HF2 := Lib.hid hf1
  have HG2 := Lib.hid hf2
  have RF2 := Lib.hid hf3
  clear hf1 hf2 hf3 hb
  obtain ⟨jBG0, jBG1⟩ := BG.out.two
  obtain ⟨jBH0, jBH1⟩ := BH.out.two
  obtain ⟨v2, hw⟩ : ∃ v2, v2 = w5.alloc (.cells #[.int .i64 (n : Nat), .slice B2 m c2] 25) := ⟨_, rfl⟩
  have hb : Below w5.heap.size w5 v2 := by rw [hw]; exact (Below.refl _ _).alloc (Nat.le_refl _) _
  have BI : Hid (BoxG v2 w5.heap.size n B2 m c2) := by show _ = _; rw [hw]; exact heap_alloc_new w5 _
  have HW2 := Lib.hid hw
  clear jBG0 jBG1 jBH0 jBH1
  have BG := Lib.hid (BG.out.below hb)
  have RA := Lib.hid (RA.out.below hb)
  have RP := Lib.hid (RP.out.below hb)
  have RQ := Lib.hid (RQ.out.below hb)
  have RF1 := Lib.hid (RF1.out.below hb)
  have BH := Lib.hid (BH.out.below hb)
  have RF2 := Lib.hid (RF2.out.below hb)
  have HB := Lib.hid (next_below HB.out hb)
  clear hb hw
  obtain ⟨jBG0, jBG1⟩ := BG.out.two
  obtain ⟨jBH0, jBH1⟩ := BH.out.two
  obtain ⟨jBI0, jBI1⟩ := BI.out.two
  rw [HW2.out] at jBG0 jBG1 jBH0 jBH1 jBI0 jBI1
  go_wp2_with fail
  rw [← HW2.out]
  refine (both_yes B C d f n p q v2 RP.out RQ.out HP.out HQ.out (by omega)).mono ?_
  rintro e w6 ⟨K1, rfl, hz, _, hb⟩
  clear jBG0 jBG1 jBH0 jBH1 jBI0 jBI1
  have BG := Lib.hid (BG.out.below hb)
  have RA := Lib.hid (RA.out.below hb)
  have RP := Lib.hid (RP.out.below hb)
  have RQ := Lib.hid (RQ.out.below hb)
  have RF1 := Lib.hid (RF1.out.below hb)
  have BH := Lib.hid (BH.out.below hb)
  have RF2 := Lib.hid (RF2.out.below hb)
  have BI := Lib.hid (BI.out.below hb)
  have HB := Lib.hid (next_below HB.out hb)
  have Z1 := Lib.hid hz
  clear hz hb
  obtain ⟨jBG0, jBG1⟩ := BG.out.two
  obtain ⟨jBH0, jBH1⟩ := BH.out.two
  obtain ⟨jBI0, jBI1⟩ := BI.out.two
  go_wp2_with fail
  refine (apply_yes A (some ⟨K1, 0, none⟩) c n m n E (compP p q) w6 RA.out Z1.out.rd HM.out HG.out (HP.out.comp HQ.out)).mono ?_
  rintro e w7 ⟨B3, c3, F3, rfl, hf1, hf2, hf3, hf4, hb⟩
  have hml3 : m = F3.length := by rw [hf1.length_eq, List.length_map, List.length_map]; exact HM.out
  have HL3 := Lib.hid hml3
  clear hml3 hf4
  clear jBG0 jBG1 jBH0 jBH1 jBI0 jBI1
  have BG := Lib.hid (BG.out.below hb)
  have RA := Lib.hid (RA.out.below hb)
  have RP := Lib.hid (RP.out.below hb)
  have RQ := Lib.hid (RQ.out.below hb)
  have RF1 := Lib.hid (RF1.out.below hb)
  have BH := Lib.hid (BH.out.below hb)
  have RF2 := Lib.hid (RF2.out.below hb)
  have BI := Lib.hid (BI.out.below hb)
  have Z1 := Lib.hid (Z1.out.below hb)
  have HB := Lib.hid (next_below HB.out hb)
  have HF3 := Lib.hid hf1
  have HG3 := Lib.hid hf2
  have RF3 := Lib.hid hf3
  clear hf1 hf2 hf3 hb
  obtain ⟨jBG0, jBG1⟩ := BG.out.two
  obtain ⟨jBH0, jBH1⟩ := BH.out.two
  obtain ⟨jBI0, jBI1⟩ := BI.out.two
  obtain ⟨v3, hw⟩ : ∃ v3, v3 = w7.alloc (.cells #[.int .i64 (n : Nat), .slice B3 m c3] 25) := ⟨_, rfl⟩
  have hb : Below w7.heap.size w7 v3 := by rw [hw]; exact (Below.refl _ _).alloc (Nat.le_refl _) _
  have BJ : Hid (BoxG v3 w7.heap.size n B3 m c3) := by show _ = _; rw [hw]; exact heap_alloc_new w7 _
  have HW3 := Lib.hid hw
  clear jBG0 jBG1 jBH0 jBH1 jBI0 jBI1
  have BG := Lib.hid (BG.out.below hb)
  have RA := Lib.hid (RA.out.below hb)
  have RP := Lib.hid (RP.out.below hb)
  have RQ := Lib.hid (RQ.out.below hb)
  have RF1 := Lib.hid (RF1.out.below hb)
  have BH := Lib.hid (BH.out.below hb)
  have RF2 := Lib.hid (RF2.out.below hb)
  have BI := Lib.hid (BI.out.below hb)
  have Z1 := Lib.hid (Z1.out.below hb)
  have RF3 := Lib.hid (RF3.out.below hb)
  have HB := Lib.hid (next_below HB.out hb)
  clear hb hw
  obtain ⟨jBG0, jBG1⟩ := BG.out.two
  obtain ⟨jBH0, jBH1⟩ := BH.out.two
  obtain ⟨jBI0, jBI1⟩ := BI.out.two
  obtain ⟨jBJ0, jBJ1⟩ := BJ.out.two
  rw [HW3.out] at jBG0 jBG1 jBH0 jBH1 jBI0 jBI1 jBJ0 jBJ1
  go_wp2_with fail
  rw [← HW3.out]
  refine (invert_yes B d n p v3 RP.out HP.out (by omega)).mono ?_
  rintro e w8 ⟨K2, rfl, hz, _, hb⟩
  clear jBG0 jBG1 jBH0 jBH1 jBI0 jBI1 jBJ0 jBJ1
  have BG := Lib.hid (BG.out.below hb)
  have RA := Lib.hid (RA.out.below hb)
  have RP := Lib.hid (RP.out.below hb)
  have RQ := Lib.hid (RQ.out.below hb)
  have RF1 := Lib.hid (RF1.out.below hb)
  have BH := Lib.hid (BH.out.below hb)
  have RF2 := Lib.hid (RF2.out.below hb)
  have BI := Lib.hid (BI.out.below hb)
  have Z1 := Lib.hid (Z1.out.below hb)
  have RF3 := Lib.hid (RF3.out.below hb)
  have BJ := Lib.hid (BJ.out.below hb)
  have HB := Lib.hid (next_below HB.out hb)
  have Z2 := Lib.hid hz
  clear hz hb
  obtain ⟨jBG0, jBG1⟩ := BG.out.two
  obtain ⟨jBH0, jBH1⟩ := BH.out.two
  obtain ⟨jBI0, jBI1⟩ := BI.out.two
  obtain ⟨jBJ0, jBJ1⟩ := BJ.out.two
  go_wp2_with fail
  refine (apply_yes B1 (some ⟨K2, 0, none⟩) c1 n m n F1 (invP p) w8 RF1.out Z2.out.rd HL1.out HG1.out HP.out.inv).mono ?_
  rintro e w9 ⟨B4, c4, F4, rfl, hf1, hf2, hf3, hf4, hb⟩
  have hml4 : m = F4.length := by rw [hf1.length_eq, List.length_map, List.length_map]; exact HL1.out
  have HL4 := Lib.hid hml4
  clear hml4 hf4
  clear jBG0 jBG1 jBH0 jBH1 jBI0 jBI1 jBJ0 jBJ1
  have BG := Lib.hid (BG.out.below hb)
  have RA := Lib.hid (RA.out.below hb)
  have RP := Lib.hid (RP.out.below hb)
  have RQ := Lib.hid (RQ.out.below hb)
  have RF1 := Lib.hid (RF1.out.below hb)
  have BH := Lib.hid (BH.out.below hb)
  have RF2 := Lib.hid (RF2.out.below hb)
  have BI := Lib.hid (BI.out.below hb)
  have Z1 := Lib.hid (Z1.out.below hb)
  have RF3 := Lib.hid (RF3.out.below hb)
  have BJ := Lib.hid (BJ.out.below hb)
  have Z2 := Lib.hid (Z2.out.below hb)
  have HB := Lib.hid (next_below HB.out hb)
  have HF4 := Lib.hid hf1
  have HG4 := Lib.hid hf2
  have RF4 := Lib.hid hf3
  clear hf1 hf2 hf3 hb
  obtain ⟨jBG0, jBG1⟩ := BG.out.two
  obtain ⟨jBH0, jBH1⟩ := BH.out.two
  obtain ⟨jBI0, jBI1⟩ := BI.out.two
  obtain ⟨jBJ0, jBJ1⟩ := BJ.out.two
  obtain ⟨v4, hw⟩ : ∃ v4, v4 = w9.alloc (.cells #[.int .i64 (n : Nat), .slice B4 m c4] 25) := ⟨_, rfl⟩
  have hb : Below w9.heap.size w9 v4 := by rw [hw]; exact (Below.refl _ _).alloc (Nat.le_refl _) _
  have BO : Hid (BoxG v4 w9.heap.size n B4 m c4) := by show _ = _; rw [hw]; exact heap_alloc_new w9 _
  have HW4 := Lib.hid hw
  clear jBG0 jBG1 jBH0 jBH1 jBI0 jBI1 jBJ0 jBJ1
  have BG := Lib.hid (BG.out.below hb)
  have RA := Lib.hid (RA.out.below hb)
  have RP := Lib.hid (RP.out.below hb)
  have RQ := Lib.hid (RQ.out.below hb)
  have RF1 := Lib.hid (RF1.out.below hb)
  have BH := Lib.hid (BH.out.below hb)
  have RF2 := Lib.hid (RF2.out.below hb)
  have BI := Lib.hid (BI.out.below hb)
  have RF3 := Lib.hid (RF3.out.below hb)
  have BJ := Lib.hid (BJ.out.below hb)
  have RF4 := Lib.hid (RF4.out.below hb)
  have HB := Lib.hid (next_below HB.out hb)
  clear hb hw
  obtain ⟨jBG0, jBG1⟩ := BG.out.two
  obtain ⟨jBH0, jBH1⟩ := BH.out.two
  obtain ⟨jBI0, jBI1⟩ := BI.out.two
  obtain ⟨jBJ0, jBJ1⟩ := BJ.out.two
  obtain ⟨jBO0, jBO1⟩ := BO.out.two
  rw [HW4.out] at jBG0 jBG1 jBH0 jBH1 jBI0 jBI1 jBJ0 jBJ1 jBO0 jBO1
  go_wp2_with fail
  rw [← HW4.out]
  refine (right_any B1 c1 m (n : Nat) F1 v4 RF1.out HL1.out).mono ?_
  rintro e w10 ⟨rfl, hb⟩
  rw [HG1.out]
  clear jBG0 jBG1 jBH0 jBH1 jBI0 jBI1 jBJ0 jBJ1 jBO0 jBO1
  have BG := Lib.hid (BG.out.below hb)
  have RA := Lib.hid (RA.out.below hb)
  have RP := Lib.hid (RP.out.below hb)
  have RQ := Lib.hid (RQ.out.below hb)
  have RF1 := Lib.hid (RF1.out.below hb)
  have BH := Lib.hid (BH.out.below hb)
  have RF2 := Lib.hid (RF2.out.below hb)
  have BI := Lib.hid (BI.out.below hb)
  have RF3 := Lib.hid (RF3.out.below hb)
  have BJ := Lib.hid (BJ.out.below hb)
  have RF4 := Lib.hid (RF4.out.below hb)
  have BO := Lib.hid (BO.out.below hb)
  have HB := Lib.hid (next_below HB.out hb)
  clear  hb
  obtain ⟨jBG0, jBG1⟩ := BG.out.two
  obtain ⟨jBH0, jBH1⟩ := BH.out.two
  obtain ⟨jBI0, jBI1⟩ := BI.out.two
  obtain ⟨jBJ0, jBJ1⟩ := BJ.out.two
  obtain ⟨jBO0, jBO1⟩ := BO.out.two
  have hFF : F2 = F3 := rightG_one HG2.out HG3.out ((apply_two HP.out HG.out HF1.out HF2.out).trans HF3.out.symm)
  have hFE : F4 = E := rightG_one HG4.out HG.out (apply_back HP.out HG.out HF1.out HF4.out)
  have hs1 := sameG_any B2 B3 c2 c3 m m (n : Nat) (n : Nat) F2 F3 w10 RF2.out RF3.out (by omega) (by omega) HL2.out HL3.out
  rw [show (((n : Nat) : Int) == ((n : Nat) : Int) && decide (F2 = F3)) = true by simp [hFF]] at hs1
  have HS1 := Lib.hid hs1
  have HFE := Lib.hid hFE
  clear hs1 hFF hFE
  go_wp2_with fail
  refine (HS1.out).mono ?_
  rintro e w11 ⟨rfl, hb⟩
  clear jBG0 jBG1 jBH0 jBH1 jBI0 jBI1 jBJ0 jBJ1 jBO0 jBO1
  have BG := Lib.hid (BG.out.below hb)
  have RA := Lib.hid (RA.out.below hb)
  have RP := Lib.hid (RP.out.below hb)
  have RQ := Lib.hid (RQ.out.below hb)
  have RF1 := Lib.hid (RF1.out.below hb)
  have BH := Lib.hid (BH.out.below hb)
  have RF2 := Lib.hid (RF2.out.below hb)
  have BI := Lib.hid (BI.out.below hb)
  have RF3 := Lib.hid (RF3.out.below hb)
  have BJ := Lib.hid (BJ.out.below hb)
  have RF4 := Lib.hid (RF4.out.below hb)
  have BO := Lib.hid (BO.out.below hb)
  have HB := Lib.hid (next_below HB.out hb)
  clear  hb
  obtain ⟨jBG0, jBG1⟩ := BG.out.two
  obtain ⟨jBH0, jBH1⟩ := BH.out.two
  obtain ⟨jBI0, jBI1⟩ := BI.out.two
  obtain ⟨jBJ0, jBJ1⟩ := BJ.out.two
  obtain ⟨jBO0, jBO1⟩ := BO.out.two
  have hs2 := sameG_any B4 A c4 c m m (n : Nat) (n : Nat) F4 E w11 RF4.out RA.out (by omega) (by omega) HL4.out HM.out
  rw [show (((n : Nat) : Int) == ((n : Nat) : Int) && decide (F4 = E)) = true by simp [HFE.out]] at hs2
  have HS2 := Lib.hid hs2
  clear hs2
  go_wp2_with fail
  refine (HS2.out).mono ?_
  rintro e w12 ⟨rfl, hb⟩
  clear jBG0 jBG1 jBH0 jBH1 jBI0 jBI1 jBJ0 jBJ1 jBO0 jBO1
  have BG := Lib.hid (BG.out.below hb)
  have RA := Lib.hid (RA.out.below hb)
  have RP := Lib.hid (RP.out.below hb)
  have RQ := Lib.hid (RQ.out.below hb)
  have RF1 := Lib.hid (RF1.out.below hb)
  have BH := Lib.hid (BH.out.below hb)
  have RF2 := Lib.hid (RF2.out.below hb)
  have BI := Lib.hid (BI.out.below hb)
  have RF3 := Lib.hid (RF3.out.below hb)
  have BJ := Lib.hid (BJ.out.below hb)
  have RF4 := Lib.hid (RF4.out.below hb)
  have BO := Lib.hid (BO.out.below hb)
  have HB := Lib.hid (next_below HB.out hb)
  clear  hb
  obtain ⟨jBG0, jBG1⟩ := BG.out.two
  obtain ⟨jBH0, jBH1⟩ := BH.out.two
  obtain ⟨jBI0, jBI1⟩ := BI.out.two
  obtain ⟨jBJ0, jBJ1⟩ := BJ.out.two
  obtain ⟨jBO0, jBO1⟩ := BO.out.two
  have HB0 := Lib.hid (Below.refl w12.heap.size w12)
  go_wp2_with fail
  clear jBG0 jBG1 jBH0 jBH1 jBI0 jBI1 jBJ0 jBJ1 jBO0 jBO1
  go_loopw [131] (fun s wr => ∃ a : Nat, a ≤ n ∧ s = .int .i64 a ∧ Hid (Below w12.heap.size w12 wr)) (fun s _ => n - (intOf s).toNat)
  case atStart => exact ⟨0, Nat.zero_le _, rfl, HB0⟩
  case round =>
    obtain ⟨a, ha, rfl, hBa⟩ := hrel
    by_cases h1 : a < n
    · have t1 : decide ((a : Int) < (n : Int)) = true := by simp; omega
      have ha0 : (0 : Int) ≤ (a : Int) := by omega
      have ha1 : (a : Int) < (n : Nat) := by omega
      obtain ⟨wo, rfl⟩ : ∃ wo, wo = wr := ⟨_, rfl⟩
      go_wp2_with fail
      go_loopw [135] (fun s wr => ∃ b : Nat, b ≤ a ∧ s = .int .i64 b ∧ Hid (Below w12.heap.size w12 wr)) (fun s _ => a - (intOf s).toNat)
      case atStart => exact ⟨0, Nat.zero_le _, rfl, hBa⟩
      case round =>
        obtain ⟨b, hb, rfl, hBb⟩ := hrel
        by_cases h2 : b < a
        · have t2 : decide ((b : Int) < (a : Int)) = true := by simp; omega
          have hb0 : (0 : Int) ≤ (b : Int) := by omega
          have hb1 : (b : Int) < (n : Nat) := by omega
          have hbn : b < n := by omega
          obtain ⟨x, hx⟩ : ∃ x, x = gn p a := ⟨_, rfl⟩
          obtain ⟨y, hy⟩ : ∃ y, y = gn p b := ⟨_, rfl⟩
          obtain ⟨ad, rfl, _, k1⟩ := (RP.out.below hBb.out) a _ (iz_at (by rw [HP.out.len]; exact h1))
          obtain ⟨ad', ead, _, k2⟩ := (RP.out.below hBb.out) b _ (iz_at (by rw [HP.out.len]; exact hbn))
          injection ead with ead
          subst ead
          rw [← hx] at k1
          rw [← hy] at k2
          have hhas := has_moved HP.out HG.out HF1.out h1 hbn
          rw [← hx, ← hy] at hhas
          obtain ⟨bb, hbb⟩ : ∃ bb, bb = hasG E (a : Int) (b : Int) := ⟨_, rfl⟩
          rw [← hbb] at hhas
          have HH1 : Hid (∀ W : World, Below wr.heap.size wr W → Calls Try.prog 33 #[.agg #[.int .i64 (n : Nat), .slice A m c], .int .i64 (a : Nat), .int .i64 (b : Nat)] W fun e w' => e = .returned (.bool bb) ∧ Below W.heap.size W w') := fun W hW => by
            have h := has_any A c m n E (a : Int) (b : Int) W (RA.out.below (next_below hBb.out hW)) HM.out HG.out
            rw [← hbb] at h
            exact h
          have HH2 : Hid (∀ W : World, Below wr.heap.size wr W → Calls Try.prog 33 #[.agg #[.int .i64 (n : Nat), .slice B1 m c1], .int .i64 (x : Nat), .int .i64 (y : Nat)] W fun e w' => e = .returned (.bool bb) ∧ Below W.heap.size W w') := fun W hW => by
            have h := has_any B1 c1 m n F1 (x : Int) (y : Int) W (RF1.out.below (next_below hBb.out hW)) HL1.out HG1.out
            rw [hhas] at h
            exact h
          have HQ6 : Hid (∀ wz, Below wr.heap.size wr wz → wz.cell? ⟨w.heap.size, 0, none⟩ = some (.int .i64 (n : Nat)) ∧ wz.cell? ⟨w.heap.size, 1, none⟩ = some (.slice A m c) ∧ wz.cell? ⟨w4.heap.size, 0, none⟩ = some (.int .i64 (n : Nat)) ∧ wz.cell? ⟨w4.heap.size, 1, none⟩ = some (.slice B1 m c1) ∧ wz.cell? (ad.add a) = some (.int .i64 (x : Nat)) ∧ wz.cell? (ad.add b) = some (.int .i64 (y : Nat))) := fun wz hz => by
            have hcz := next_below hBb.out hz
            obtain ⟨z1, z2⟩ := (BG.out.below hcz).two
            obtain ⟨z3, z4⟩ := (BH.out.below hcz).two
            have l1 := World.block_lt_of_cell? _ _ k1
            have l2 := World.block_lt_of_cell? _ _ k2
            exact ⟨z1, z2, z3, z4, (hz.cell l1).trans k1, (hz.cell l2).trans k2⟩
          have u1 : (bb != bb) = false := by simp
          clear hx hy hhas hbb k1 k2
          go_wp2_with fail
          refine wp_region_held_drew (S := fun wz => Below wr.heap.size wr wz) (by kernel_rfl) ⟨rfl, rfl, rfl, Nat.le_refl _, fun _ _ => rfl⟩ (fun hS => ?_)
          refine wpAnyH_take (i := 0) (v := ?_) rfl (by kernel_rfl) (by kernel_rfl) (by kernel_rfl) (fun _ _ _ h => h) (Or.inl ⟨by rfl, ?_⟩) hS ?_
          rotate_left
          · intro wz hSw; (try dsimp only at hSw); obtain ⟨q1, q2, q3, q4, q5, q6⟩ := HQ6.out wz hSw; go_simp; (try with_reducible rfl)
          try simp only [List.getElem_toArray, List.getElem_cons_zero, List.getElem_cons_succ, Act.put, List.setIfInBounds_toArray, List.set_cons_zero, List.set_cons_succ]
          refine wpAnyH_take (i := 1) (v := ?_) rfl (by kernel_rfl) (by kernel_rfl) (by kernel_rfl) (fun _ _ _ h => h) (Or.inl ⟨by rfl, ?_⟩) hS ?_
          rotate_left
          · intro wz hSw; (try dsimp only at hSw); go_simp; (try with_reducible rfl)
          try simp only [List.getElem_toArray, List.getElem_cons_zero, List.getElem_cons_succ, Act.put, List.setIfInBounds_toArray, List.set_cons_zero, List.set_cons_succ]
          refine wpAnyH_take (i := 2) (v := ?_) rfl (by kernel_rfl) (by kernel_rfl) (by kernel_rfl) (fun _ _ _ h => h) (Or.inl ⟨by rfl, ?_⟩) hS ?_
          rotate_left
          · intro wz hSw; (try dsimp only at hSw); go_simp; (try with_reducible rfl)
          try simp only [List.getElem_toArray, List.getElem_cons_zero, List.getElem_cons_succ, Act.put, List.setIfInBounds_toArray, List.set_cons_zero, List.set_cons_succ]
          refine wpAnyH_take (i := 4) (v := ?_) rfl (by kernel_rfl) (by kernel_rfl) (by kernel_rfl) (fun _ _ _ h => h) (Or.inl ⟨by rfl, ?_⟩) hS ?_
          rotate_left
          · intro wz hSw; (try dsimp only at hSw); obtain ⟨q1, q2, q3, q4, q5, q6⟩ := HQ6.out wz hSw; go_simp; (try with_reducible rfl)
          try simp only [List.getElem_toArray, List.getElem_cons_zero, List.getElem_cons_succ, Act.put, List.setIfInBounds_toArray, List.set_cons_zero, List.set_cons_succ]
          refine wpAnyH_take (i := 5) (v := ?_) rfl (by kernel_rfl) (by kernel_rfl) (by kernel_rfl) (fun _ _ _ h => h) (Or.inl ⟨by rfl, ?_⟩) hS ?_
          rotate_left
          · intro wz hSw; (try dsimp only at hSw); go_simp; (try with_reducible rfl)
          try simp only [List.getElem_toArray, List.getElem_cons_zero, List.getElem_cons_succ, Act.put, List.setIfInBounds_toArray, List.set_cons_zero, List.set_cons_succ]
          refine wpAnyH_take (i := 6) (v := ?_) rfl (by kernel_rfl) (by kernel_rfl) (by kernel_rfl) (fun _ _ _ h => h) (Or.inl ⟨by rfl, ?_⟩) hS ?_
          rotate_left
          · intro wz hSw; (try dsimp only at hSw); go_simp; (try with_reducible rfl)
          try simp only [List.getElem_toArray, List.getElem_cons_zero, List.getElem_cons_succ, Act.put, List.setIfInBounds_toArray, List.set_cons_zero, List.set_cons_succ]
          refine wpAnyH_take (i := 7) (v := ?_) rfl (by kernel_rfl) (by kernel_rfl) (by kernel_rfl) (fun _ _ _ h => h) (Or.inl ⟨by rfl, ?_⟩) hS ?_
          rotate_left
          · intro wz hSw; (try dsimp only at hSw); go_simp; (try with_reducible rfl)
          try simp only [List.getElem_toArray, List.getElem_cons_zero, List.getElem_cons_succ, Act.put, List.setIfInBounds_toArray, List.set_cons_zero, List.set_cons_succ]
          refine wpAnyH_take (i := 8) (v := ?_) rfl (by kernel_rfl) (by kernel_rfl) (by kernel_rfl) (fun _ _ _ h => h) (Or.inl ⟨by rfl, ?_⟩) hS ?_
          rotate_left
          · intro wz hSw; (try dsimp only at hSw); obtain ⟨q1, q2, q3, q4, q5, q6⟩ := HQ6.out wz hSw; go_simp; (try with_reducible rfl)
          try simp only [List.getElem_toArray, List.getElem_cons_zero, List.getElem_cons_succ, Act.put, List.setIfInBounds_toArray, List.set_cons_zero, List.set_cons_succ]
          refine wpAnyH_take (i := 9) (v := ?_) rfl (by kernel_rfl) (by kernel_rfl) (by kernel_rfl) (fun _ _ _ h => h) (Or.inl ⟨by rfl, ?_⟩) hS ?_
          rotate_left
          · intro wz hSw; (try dsimp only at hSw); go_simp; (try with_reducible rfl)
          try simp only [List.getElem_toArray, List.getElem_cons_zero, List.getElem_cons_succ, Act.put, List.setIfInBounds_toArray, List.set_cons_zero, List.set_cons_succ]
          refine wpAnyH_take (i := 10) (v := ?_) rfl (by kernel_rfl) (by kernel_rfl) (by kernel_rfl) (fun _ _ _ h => h) (Or.inl ⟨by rfl, ?_⟩) hS ?_
          rotate_left
          · intro wz hSw; (try dsimp only at hSw); go_simp; (try with_reducible rfl)
          try simp only [List.getElem_toArray, List.getElem_cons_zero, List.getElem_cons_succ, Act.put, List.setIfInBounds_toArray, List.set_cons_zero, List.set_cons_succ]
          refine wpAnyH_take (i := 11) (v := ?_) rfl (by kernel_rfl) (by kernel_rfl) (by kernel_rfl) (fun _ _ _ h => h) (Or.inl ⟨by rfl, ?_⟩) hS ?_
          rotate_left
          · intro wz hSw; (try dsimp only at hSw); go_simp; (try with_reducible rfl)
          try simp only [List.getElem_toArray, List.getElem_cons_zero, List.getElem_cons_succ, Act.put, List.setIfInBounds_toArray, List.set_cons_zero, List.set_cons_succ]
          refine wpAnyH_take (i := 12) (v := ?_) rfl (by kernel_rfl) (by kernel_rfl) (by kernel_rfl) (fun _ _ _ h => h) (Or.inl ⟨by rfl, ?_⟩) hS ?_
          rotate_left
          · intro wz hSw; (try dsimp only at hSw); obtain ⟨q1, q2, q3, q4, q5, q6⟩ := HQ6.out wz hSw; go_simp; (try with_reducible rfl)
          try simp only [List.getElem_toArray, List.getElem_cons_zero, List.getElem_cons_succ, Act.put, List.setIfInBounds_toArray, List.set_cons_zero, List.set_cons_succ]
          refine wpAnyH_ready (rs := [3]) (by kernel_rfl) (by simp) (AllReadyH.cons rfl (fun K hK => ?_) AllReadyH.nil)
          go_simp
          go_at_call 33
          refine (HH1.out _ hS).mono ?_
          rintro e w30 ⟨rfl, hb30⟩
          go_wp2_with fail
          have hS := next_below hS hb30
          refine hK.out _ _ hS (fun _ => ?_)
          clear hK K
          try simp only [List.getElem_toArray, List.getElem_cons_zero, List.getElem_cons_succ, Act.put, List.setIfInBounds_toArray, List.set_cons_zero, List.set_cons_succ]
          refine wpAnyH_ready (rs := [13]) (by kernel_rfl) (by simp) (AllReadyH.cons rfl (fun K hK => ?_) AllReadyH.nil)
          go_simp
          go_at_call 33
          refine (HH2.out _ hS).mono ?_
          rintro e w31 ⟨rfl, hb31⟩
          go_wp2_with fail
          have hS := next_below hS hb31
          refine hK.out _ _ hS (fun _ => ?_)
          clear hK K
          try simp only [List.getElem_toArray, List.getElem_cons_zero, List.getElem_cons_succ, Act.put, List.setIfInBounds_toArray, List.set_cons_zero, List.set_cons_succ]
          refine wpAnyH_take (i := 14) (v := ?_) rfl (by kernel_rfl) (by kernel_rfl) (by kernel_rfl) (fun _ _ _ h => h) (Or.inl ⟨by rfl, ?_⟩) hS ?_
          rotate_left
          · intro wz hSw; (try dsimp only at hSw); go_simp; (try with_reducible rfl)
          try simp only [List.getElem_toArray, List.getElem_cons_zero, List.getElem_cons_succ, Act.put, List.setIfInBounds_toArray, List.set_cons_zero, List.set_cons_succ]
          refine wpAnyH_done (by kernel_rfl) ?_ _
          have HBZ := Lib.hid (next_below hBb.out hS)
          go_wp2_with fail
          go_roundw
          case rel => exact ⟨b + 1, by omega, by go_num, HBZ⟩
          case measure => simp [intOf]; omega
        · obtain rfl : b = a := by omega
          have t2 : decide ((b : Int) < (b : Int)) = false := by simp
          go_wp2_with fail
          go_roundw
          case rel => exact ⟨b + 1, by omega, by go_num, hBb⟩
          case measure => simp [intOf]; omega
    · obtain rfl : a = n := by omega
      have t1 : decide ((a : Int) < (a : Int)) = false := by simp
      have HAW := Lib.hid (awake_any wr)
      have HBR := Lib.hid (next_below HB.out hBa.out)
      go_wp2_with fail
      refine HAW.out.mono ?_
      rintro e w99 ⟨rfl, hb⟩
      go_wp2_with fail
      go_ret
      exact ⟨rfl, next_below HBR.out hb⟩
end Go.Proofs.Ytgldlanfbkgfjaa
