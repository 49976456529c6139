/- The law PermOwn (layer 3): its walk. -/
import Derived.Test.YtgldlanfbkgfjaaL3
namespace Go.Proofs.Ytgldlanfbkgfjaa
open Go.RowKit

theorem ownZ_row {w : World} {B n base : Nat} {ds : List Int} (h : OwnZ w B ds) (hn : ds.length = n) (hm : n ≤ 1000) (hb : base ≤ B) : RowAt w base (.slice (some ⟨B, 0, none⟩) n n) :=
  rowAt_block h (by simp [zs, hn]) (by omega) hb
/-- What lies below B lies as it lay in the world a. -/
def SB (B : Nat) (a w : World) : Prop := Below B a w ∧ B ≤ w.heap.size
theorem SB.below {B : Nat} {a w w' : World} (h : SB B a w) (hb : Below w.heap.size w w') : SB B a w' := ⟨h.1.trans (hb.mono h.2), Nat.le_trans h.2 hb.size⟩
theorem ownZ_lt {w : World} {B : Nat} {ds : List Int} (h : OwnZ w B ds) : B < w.heap.size := lt_of_block h
theorem PRows.us_lt {w : World} {base : Nat} {V : Value} {us : List Value} {T : List (List Int)} (h : PRows w base V us T) : ∀ u ∈ us, ∀ g, u.ownBlock = some g → g < w.heap.size := fun u hu g e => by
  obtain ⟨j, hj⟩ := List.getElem?_of_mem hu
  obtain ⟨t, ht⟩ : ∃ t, T[j]? = some t := ⟨_, List.getElem?_eq_getElem (by have := (List.getElem?_eq_some_iff.1 hj).1; rw [h.2.1] at this; exact this)⟩
  exact ((h.2.2.1 j u t hj ht).lt g e).2
theorem cycs_pos {n : Nat} {p : List Nat} : ∀ t ∈ (cycs p n).map iz, 0 < t.length := fun t ht => by
  obtain ⟨c, hc, rfl⟩ := List.mem_map.1 ht
  obtain ⟨v, _, _, rfl⟩ := mem_cycs.1 hc
  rw [iz_length, orb_length]
  exact per_pos p v
/-- The rows of the list, and five more: all apart. -/
theorem own_rows {W6 w7 : World} {b6 base k1 k2 k3 k4 k5 n : Nat} {V : Value} {us : List Value} {T : List (List Int)} {ds1 ds2 ds3 ds4 ds5 : List Int}
    (hP : PRows W6 b6 V us T) (hT : ∀ t ∈ T, 0 < t.length) (h1 : OwnZ W6 k1 ds1) (h2 : OwnZ W6 k2 ds2) (h3 : OwnZ W6 k3 ds3) (h4 : OwnZ W6 k4 ds4) (h5 : OwnZ W6 k5 ds5)
    (l1 : ds1.length = n) (l2 : ds2.length = n) (l3 : ds3.length = n) (l4 : ds4.length = n) (l5 : ds5.length = n) (hn : n ≤ 200) (b1 : base ≤ k1) (b2 : k1 < k2) (b3 : k2 < k3) (b4 : k3 < b6) (b5 : ∀ u ∈ us, ∀ g, u.ownBlock = some g → g < k4) (b6' : k4 < k5) (bb : base ≤ b6) (b34 : k3 < k4)
    (hg : (W6.alloc (.cells #[Value.slice (some ⟨k1, 0, none⟩) n n, Value.slice (some ⟨k2, 0, none⟩) n n, Value.slice (some ⟨k3, 0, none⟩) n n, Value.slice (some ⟨k4, 0, none⟩) n n, Value.slice (some ⟨k5, 0, none⟩) n n] 22)).grownBy w7 V.ownBlock) :
    (∀ u ∈ us ++ [Value.slice (some ⟨k1, 0, none⟩) n n, Value.slice (some ⟨k2, 0, none⟩) n n, Value.slice (some ⟨k3, 0, none⟩) n n, Value.slice (some ⟨k4, 0, none⟩) n n, Value.slice (some ⟨k5, 0, none⟩) n n], RowAt w7 base u) ∧
      (us ++ [Value.slice (some ⟨k1, 0, none⟩) n n, Value.slice (some ⟨k2, 0, none⟩) n n, Value.slice (some ⟨k3, 0, none⟩) n n, Value.slice (some ⟨k4, 0, none⟩) n n, Value.slice (some ⟨k5, 0, none⟩) n n]).Pairwise fun u v => vG u ≠ vG v := by
  have hb : Below W6.heap.size W6 (W6.alloc (.cells #[Value.slice (some ⟨k1, 0, none⟩) n n, Value.slice (some ⟨k2, 0, none⟩) n n, Value.slice (some ⟨k3, 0, none⟩) n n, Value.slice (some ⟨k4, 0, none⟩) n n, Value.slice (some ⟨k5, 0, none⟩) n n] 22)) := (Below.refl _ _).alloc (Nat.le_refl _) _
  have hus : ∀ u ∈ us, RowAt W6 b6 u ∧ (V.ownBlock = none ∨ V.ownBlock ≠ u.ownBlock) := fun u hu => by
    obtain ⟨j, hj⟩ := List.getElem?_of_mem hu
    obtain ⟨t, ht⟩ : ∃ t, T[j]? = some t := ⟨_, List.getElem?_eq_getElem (by have := (List.getElem?_eq_some_iff.1 hj).1; rw [hP.2.1] at this; exact this)⟩
    have ho := hP.2.2.1 j u t hj ht
    exact ⟨rowAt_owns ho (hT t (List.mem_of_getElem? ht)), row_apart hP.1 ho (by decide)⟩
  have hK : ∀ (k : Nat) (ds : List Int), OwnZ W6 k ds → V.ownBlock ≠ some k := fun k ds h => own_ne hP.1 h (by decide)
  have each5 : ∀ (k : Nat) (ds : List Int), OwnZ W6 k ds → ds.length = n → base ≤ k → RowAt w7 base (Value.slice (some ⟨k, 0, none⟩) n n) := fun k ds h hl hk =>
    ((ownZ_row h hl (by omega) hk).below hb).grown hg (fun e => hK k ds h (by rw [← e]; rfl))
  refine ⟨fun u hu => ?_, ?_⟩
  · rcases List.mem_append.1 hu with h | h
    · obtain ⟨ha, hd⟩ := hus u h
      refine ((ha.less bb).below hb).grown hg (fun e => ?_)
      rcases hd with hd | hd
      · rw [hd, ha.own] at e; cases e
      · exact hd e.symm
    · simp only [List.mem_cons, List.not_mem_nil, or_false] at h
      rcases h with rfl | rfl | rfl | rfl | rfl
      · exact each5 _ _ h1 l1 (by omega)
      · exact each5 _ _ h2 l2 (by omega)
      · exact each5 _ _ h3 l3 (by omega)
      · exact each5 _ _ h4 l4 (by omega)
      · exact each5 _ _ h5 l5 (by omega)
  · rw [List.pairwise_append]
    refine ⟨?_, ?_, ?_⟩
    · rw [List.pairwise_iff_getElem]
      intro i j hi hj hij e
      have e1 : us[i]? = some us[i] := List.getElem?_eq_getElem hi
      have e2 : us[j]? = some us[j] := List.getElem?_eq_getElem hj
      have r1 := (hus _ (List.getElem_mem hi)).1.own
      have r2 := (hus _ (List.getElem_mem hj)).1.own
      rw [← e] at r2
      exact hP.2.2.2 i j _ _ _ (by omega) e1 e2 r1 r2
    · simp only [List.pairwise_cons, List.mem_cons, List.not_mem_nil, or_false, forall_eq_or_imp, forall_eq, vG]
      refine ⟨⟨by omega, by omega, by omega, by omega⟩, ⟨by omega, by omega, by omega⟩, ⟨by omega, by omega⟩, by omega, by simp⟩
    · intro u hu v hv e
      obtain ⟨ha, _⟩ := hus u hu
      have c1 := ha.at_.1
      have c2 := b5 u hu _ ha.own
      simp only [List.mem_cons, List.not_mem_nil, or_false] at hv
      rcases hv with rfl | rfl | rfl | rfl | rfl
      · have e' : vG u = k1 := e
        omega
      · have e' : vG u = k2 := e
        omega
      · have e' : vG u = k3 := e
        omega
      · have e' : vG u = k4 := e
        omega
      · have e' : vG u = k5 := e
        omega

set_option maxRecDepth 100000 in
set_option maxHeartbeats 8000000 in
theorem own_main (A : Option Addr) (c n : Nat) (p : List Nat) (w : World) (hA : RdZ w A (iz p)) (hp : Perm n p) (hn : n ≤ 200) (hc : A = none → c = 0) :
    Calls Try.prog 8 #[.slice A n c] w fun e w' => e = .returned (.bool true) ∧ Below w.heap.size w w' := by
  have RP := Lib.hid hA
  have R0 := Lib.hid hA
  have HP := Lib.hid hp
  have HP1 := Lib.hid (perm_right hp hn)
  have HC0 := Lib.hid hc
  obtain ⟨i0, hi0, hz0, hz1, hz2⟩ := info_partsI rowinfo
  clear hA hp hc
  go_enter Try.func8, Try.ntmps8
  go_wp2_with fail
  refine (rightP_any A c n (iz p) w RP.out (izl HP.out) (by omega)).mono ?_
  rintro e w1 ⟨rfl, hb⟩
  rw [HP1.out]
  have RP := Lib.hid (RP.out.below hb)
  have HB := Lib.hid hb
  clear  hb
  go_wp2_with fail
  refine (copyZ_any A c n (iz p) w1 RP.out (izl HP.out) (by omega) HC0.out).mono ?_
  rintro e w2 ⟨B0, c0, rfl, hz, hb0, hb1, hb⟩
  have RP := Lib.hid (RP.out.below hb)
  have HB := Lib.hid (next_below HB.out hb)
  have RC := Lib.hid hz
  have HB2 := Lib.hid HB.out
  have RC0 := Lib.hid RC.out
  have HSB : Hid (SB w2.heap.size w2 w2) := ⟨Below.refl _ _, Nat.le_refl _⟩
  clear hz hb hb0 hb1
  go_wp2_with fail
  refine (ident_yes n w2 hn).mono ?_
  rintro e w3 ⟨KI, rfl, hz, _, hb⟩
  have sz3 := hb.size
  have RP := Lib.hid (RP.out.below hb)
  have RC := Lib.hid (RC.out.below hb)
  have HSB := Lib.hid (HSB.out.below hb)
  have HB := Lib.hid (next_below HB.out hb)
  have ZI := Lib.hid hz
  clear hz hb
  go_wp2_with fail
  refine (compose_yes (some ⟨B0, 0, none⟩) (some ⟨KI, 0, none⟩) c0 n n p (List.range n) w3 RC.out ZI.out.rd HP.out (perm_range n) hn).mono ?_
  rintro e w4 ⟨K1, rfl, hz, hk1, hb⟩
  have lt1 := ownZ_lt hz
  have RP := Lib.hid (RP.out.below hb)
  have RC := Lib.hid (RC.out.below hb)
  have HSB := Lib.hid (HSB.out.below hb)
  have ZI := Lib.hid (ZI.out.below hb)
  have HB := Lib.hid (next_below HB.out hb)
  have Z1 := Lib.hid hz
  clear hz hb
  go_wp2_with fail
  refine (invert_yes (some ⟨B0, 0, none⟩) c0 n p w4 RC.out HP.out hn).mono ?_
  rintro e w5 ⟨K2, rfl, hz, hk2, hb⟩
  have lt2 := ownZ_lt hz
  have RP := Lib.hid (RP.out.below hb)
  have RC := Lib.hid (RC.out.below hb)
  have HSB := Lib.hid (HSB.out.below hb)
  have ZI := Lib.hid (ZI.out.below hb)
  have Z1 := Lib.hid (Z1.out.below hb)
  have HB := Lib.hid (next_below HB.out hb)
  have Z2 := Lib.hid hz
  clear hz hb
  go_wp2_with fail
  refine (power_yes (some ⟨B0, 0, none⟩) c0 n p 1 w5 RC.out HP.out hn (by omega) (by omega)).mono ?_
  rintro e w6 ⟨K3, rfl, hz, hk3, hb⟩
  have lt3 := ownZ_lt hz
  have RP := Lib.hid (RP.out.below hb)
  have RC := Lib.hid (RC.out.below hb)
  have HSB := Lib.hid (HSB.out.below hb)
  have ZI := Lib.hid (ZI.out.below hb)
  have Z1 := Lib.hid (Z1.out.below hb)
  have Z2 := Lib.hid (Z2.out.below hb)
  have HB := Lib.hid (next_below HB.out hb)
  have Z3 := Lib.hid hz
  clear hz hb
  go_wp2_with fail
  refine (cyclesAll_yes (some ⟨B0, 0, none⟩) c0 n p w6 RC.out HP.out hn).mono ?_
  rintro e w7 ⟨V, us, rfl, hz, hb⟩
  have lt4 := hz.us_lt
  have sz7 := hb.size
  have RP := Lib.hid (RP.out.below hb)
  have RC := Lib.hid (RC.out.below hb)
  have HSB := Lib.hid (HSB.out.below hb)
  have ZI := Lib.hid (ZI.out.below hb)
  have Z1 := Lib.hid (Z1.out.below hb)
  have Z2 := Lib.hid (Z2.out.below hb)
  have Z3 := Lib.hid (Z3.out.below hb)
  have HB := Lib.hid (next_below HB.out hb)
  have PR := Lib.hid hz
  clear hz hb
  go_wp2_with fail
  refine (ident_yes n w7 hn).mono ?_
  rintro e w8 ⟨K4, rfl, hz, hk4, hb⟩
  have lt5 := ownZ_lt hz
  have RP := Lib.hid (RP.out.below hb)
  have RC := Lib.hid (RC.out.below hb)
  have HSB := Lib.hid (HSB.out.below hb)
  have ZI := Lib.hid (ZI.out.below hb)
  have Z1 := Lib.hid (Z1.out.below hb)
  have Z2 := Lib.hid (Z2.out.below hb)
  have Z3 := Lib.hid (Z3.out.below hb)
  have PR := Lib.hid (PR.out.below hb)
  have HB := Lib.hid (next_below HB.out hb)
  have Z4 := Lib.hid hz
  clear hz hb
  go_wp2_with fail
  refine (ident_yes n w8 hn).mono ?_
  rintro e w9 ⟨K5, rfl, hz, hk5, hb⟩
  have RP := Lib.hid (RP.out.below hb)
  have RC := Lib.hid (RC.out.below hb)
  have HSB := Lib.hid (HSB.out.below hb)
  have ZI := Lib.hid (ZI.out.below hb)
  have Z1 := Lib.hid (Z1.out.below hb)
  have Z2 := Lib.hid (Z2.out.below hb)
  have Z3 := Lib.hid (Z3.out.below hb)
  have PR := Lib.hid (PR.out.below hb)
  have Z4 := Lib.hid (Z4.out.below hb)
  have HB := Lib.hid (next_below HB.out hb)
  have Z5 := Lib.hid hz
  clear hz hb
  have hws6 : w6.heap.size ≤ w9.heap.size := by have := ownZ_lt Z5.out; omega
  have hws : w2.heap.size ≤ w9.heap.size := by have := ownZ_lt Z5.out; omega
  have hlen1 : (iz (compP p (List.range n))).length = n := by rw [iz_length, compP_length, HP.out.len]
  have hlen2 : (iz (invP p)).length = n := by rw [iz_length, invP_length, HP.out.len]
  have hlen3 : (iz (powP n p 1)).length = n := by rw [iz_length]; simp [powP]
  have hlen4 : (iz (List.range n)).length = n := by rw [iz_length, List.length_range]
  have HROWS := Lib.hid (fun (w7' : World) hg => own_rows (w7 := w7') (base := w2.heap.size) PR.out cycs_pos Z1.out Z2.out Z3.out Z4.out Z5.out hlen1 hlen2 hlen3 hlen4 hlen4 hn (by omega) (by omega) (by omega) (by omega) (fun u hu g e => by have := lt4 u hu g e; omega) (by omega) (by omega) (by omega) hg)
  have hml : ((cycs p n).map iz).length ≤ 200 := by rw [List.length_map]; have := cycs_len p n; omega
  obtain ⟨m, hm⟩ : ∃ m, m = ((cycs p n).map iz).length := ⟨_, rfl⟩
  have hrow0 := PR.out.1
  rw [← hm] at hml hrow0
  have HROW := Lib.hid (hrow0.alloc (.cells #[.slice (some ⟨K1, 0, none⟩) n n, .slice (some ⟨K2, 0, none⟩) n n, .slice (some ⟨K3, 0, none⟩) n n, .slice (some ⟨K4, 0, none⟩) n n, .slice (some ⟨K5, 0, none⟩) n n] 22))
  have HNEWS : Hid (∀ (j : Nat) (u : Value), ([.slice (some ⟨K1, 0, none⟩) n n, .slice (some ⟨K2, 0, none⟩) n n, .slice (some ⟨K3, 0, none⟩) n n, .slice (some ⟨K4, 0, none⟩) n n, .slice (some ⟨K5, 0, none⟩) n n] : List Value)[j]? = some u → (w9.alloc (.cells #[.slice (some ⟨K1, 0, none⟩) n n, .slice (some ⟨K2, 0, none⟩) n n, .slice (some ⟨K3, 0, none⟩) n n, .slice (some ⟨K4, 0, none⟩) n n, .slice (some ⟨K5, 0, none⟩) n n] 22)).cell? ((⟨w9.heap.size, 0, none⟩ : Addr).add j) = some u) := fun j u hj => by
    rw [← hj, add_off, World.cell?_alloc_at _ _ _ _ rfl]
    simp
  have hba : Below w9.heap.size w9 (w9.alloc (.cells #[.slice (some ⟨K1, 0, none⟩) n n, .slice (some ⟨K2, 0, none⟩) n n, .slice (some ⟨K3, 0, none⟩) n n, .slice (some ⟨K4, 0, none⟩) n n, .slice (some ⟨K5, 0, none⟩) n n] 22)) := (Below.refl _ _).alloc (Nat.le_refl _) _
  have HBA := Lib.hid (next_below HB.out hba)
  have HSBA := Lib.hid (HSB.out.below hba)
  have hvlt : ∀ k, V.ownBlock = some k → w6.heap.size ≤ k := fun k e => (PR.out.1.lt k e).1
  have HVLT := Lib.hid hvlt
  clear hm hrow0 hba hvlt lt4
  go_wp2_with (at_builtin; refine wpList_append_lies _ rfl (.tmp 49) (.tmp 59) 37 rfl w6.heap.size 22 i0 (.slice none 0 0) 1 24 Try.underlying37 hi0 hz0 hz1 hz2 rfl (by decide) V m us rfl HROW.out ⟨w9.heap.size, 0, none⟩ 5 5 [.slice (some ⟨K1, 0, none⟩) n n, .slice (some ⟨K2, 0, none⟩) n n, .slice (some ⟨K3, 0, none⟩) n n, .slice (some ⟨K4, 0, none⟩) n n, .slice (some ⟨K5, 0, none⟩) n n] (by simp [Act.eval]) rfl HNEWS.out (by simp [Value.oneCell']) (by omega) (by simp [maxLen]; omega) (by omega) (by simp; omega) (w9.heap.size + 1) (by simp) ?_; intro g7 c7 w20 hr20 hg20 _ _)
  have hw2 := HB2.out.size
  have hb20 : Below w.heap.size w w20 := HBA.out.grown hg20 HBA.out.size (fun k e => by have := HVLT.out k e; omega)
  have hs20 : Below w2.heap.size w2 w20 := HSBA.out.1.grown hg20 HSBA.out.2 (fun k e => by have := HVLT.out k e; omega)
  obtain ⟨q1, q2⟩ := HROWS.out w20 hg20
  have HAP := Lib.hid (apart_rows w20 w6.heap.size w2.heap.size (m + 5) c7 g7 _ (by omega) hr20 q1 q2)
  have HB20 := Lib.hid hb20
  have HS20 := Lib.hid hs20
  clear q1 q2 hb20 hs20 hr20 hg20
  go_wp2_with fail
  refine HAP.out.mono ?_
  rintro e w21 ⟨rfl, hb⟩
  have hB21 := HB20.out.trans (hb.mono hw2)
  have hS21 := HS20.out.trans hb
  have RP := Lib.hid (R0.out.below hB21)
  have RC := Lib.hid (RC0.out.below hS21)
  have HB21 := Lib.hid hB21
  clear hb hB21 hS21
  have hsm := sameZ_any (some ⟨B0, 0, none⟩) A c0 c n n (iz p) (iz p) w21 RC.out RP.out (by omega) (by omega) (izl HP.out) (izl HP.out)
  rw [decide_eq_true rfl] at hsm
  have HSM := Lib.hid hsm
  clear hsm
  go_wp2_with fail
  refine HSM.out.mono ?_
  rintro e w22 ⟨rfl, hb⟩
  have HB22 := Lib.hid (next_below HB21.out hb)
  clear hb
  go_wp2_with fail
  refine (awake_any w22).mono ?_
  rintro e w99 ⟨rfl, hb⟩
  go_wp2_with fail
  go_ret
  exact ⟨rfl, next_below HB22.out hb⟩

set_option maxRecDepth 100000 in
set_option maxHeartbeats 8000000 in
theorem own_walk (v0 : Value) (w : World) (o0 : OkInts w v0) :
    Calls Try.prog 8 #[v0] w fun e w' => e = .returned (.bool true) ∧ Below w.heap.size w w' := by
  obtain ⟨A0, c0, x0, rfl, _, r0, l0, m0, hc⟩ := o0
  have R0 := Lib.hid r0
  clear r0
  by_cases h0 : rightP x0 = false
  · have H0 := Lib.hid h0
    clear h0 hc
    go_enter Try.func8, Try.ntmps8
    go_wp2_with fail
    refine (rightP_any A0 c0 x0.length x0 w R0.out rfl (by omega)).mono ?_
    rintro e w1 ⟨rfl, hb⟩
    rw [show rightP x0 = false from H0.out]
    have HB := Lib.hid hb
    clear hb
    go_wp2_with fail
    refine (awake_any w1).mono ?_
    rintro e w99 ⟨rfl, hb⟩
    go_wp2_with fail
    go_ret
    exact ⟨rfl, next_below HB.out hb⟩
  · obtain ⟨p, rfl, hp, hpl⟩ := rightP_iff.1 (by simpa using h0)
    have e1 : (iz p).length = p.length := iz_length p
    rw [e1]
    exact own_main A0 c0 p.length p w R0.out hp hpl hc
end Go.Proofs.Ytgldlanfbkgfjaa
