/- The chapter's examples (layer 3). -/
import Derived.Test.YtgldlanfbkgfjaaPY
import Derived.Test.YtgldlanfbkgfjaaP8
import Derived.Test.YtgldlanfbkgfjaaP9
namespace Go.Proofs.Ytgldlanfbkgfjaa
open Go.RowKit

theorem pA : Perm 3 [1, 2, 0] := ⟨rfl, by decide, by decide⟩
theorem pB : Perm 3 [1, 0, 2] := ⟨rfl, by decide, by decide⟩
theorem pD4 : Perm 4 [1, 2, 0, 3] := ⟨rfl, by decide, by decide⟩
theorem pN : Perm 0 [] := ⟨rfl, by decide, by decide⟩
theorem wC1 : compP [1, 2, 0] [1, 0, 2] = [0, 2, 1] := by decide
theorem wI1 : invP [1, 2, 0] = [2, 0, 1] := by decide
theorem wP1 : powP 3 [1, 2, 0] 2 = [2, 0, 1] := by decide
theorem wY1 : cycs [1, 2, 0, 3] 4 = [[0, 1, 2], [3]] := by decide
theorem wO1 : ord 4 [1, 2, 0, 3] = 3 := by decide
theorem wO2 : ord 0 [] = 1 := by decide
theorem wE1 : rightG ((3 : Nat) : Int) [(0, 1), (1, 2)] = true := by decide
theorem wF1 {F : List (Int × Int)} (h : F.Perm (([((0 : Int), (1 : Int)), (1, 2)].map (edP [1, 2, 0])).map nrm)) (hg : rightG ((3 : Nat) : Int) F = true) : F = [(0, 2), (1, 2)] := by
  have e : (([((0 : Int), (1 : Int)), (1, 2)].map (edP [1, 2, 0])).map nrm) = [(1, 2), (0, 2)] := by decide
  rw [e] at h
  have hl := h.length_eq
  match F, hl with
  | [a, b], _ =>
    have ha := h.mem_iff.1 (List.mem_cons_self (a := a))
    have hb := h.mem_iff.1 (show b ∈ [a, b] by simp)
    simp only [List.mem_cons, List.not_mem_nil, or_false] at ha hb
    rcases ha with rfl | rfl <;> rcases hb with rfl | rfl
    · exact absurd hg (by decide)
    · exact absurd hg (by decide)
    · rfl
    · exact absurd hg (by decide)

set_option maxRecDepth 100000 in
set_option maxHeartbeats 8000000 in
theorem awake_any (w : World) : Calls Try.prog 9 #[] w fun e w' => e = .returned (.bool true) ∧ Below w.heap.size w w' := by
  obtain ⟨W, hW⟩ : ∃ W, W = (w.alloc (.cells #[.int .i64 1, .int .i64 2, .int .i64 0] 3)).alloc (.cells #[.int .i64 1, .int .i64 0, .int .i64 2] 3) := ⟨_, rfl⟩
  have hbW : Below w.heap.size w W := by rw [hW]; exact ((Below.refl _ _).alloc (Nat.le_refl _) _).alloc (by simp) _
  have hp : RdZ W (some ⟨w.heap.size, 0, none⟩) (iz [1, 2, 0]) := by
    rw [hW]
    exact (lit_rd w (iz [1, 2, 0])).below ((Below.refl _ _).alloc (Nat.le_refl _) _)
  have hq : RdZ W (some ⟨w.heap.size + 1, 0, none⟩) (iz [1, 0, 2]) := by
    have h := lit_rd (w.alloc (.cells #[.int .i64 1, .int .i64 2, .int .i64 0] 3)) (iz [1, 0, 2])
    rw [World.size_alloc] at h
    rw [hW]
    exact h
  have HC := Lib.hid (compose_yes (some ⟨w.heap.size, 0, none⟩) (some ⟨w.heap.size + 1, 0, none⟩) 3 3 3 [1, 2, 0] [1, 0, 2] W hp hq pA pB (by omega))
  rw [wC1] at HC
  have HW := Lib.hid hW
  have HBW := Lib.hid hbW
  have HP := Lib.hid hp
  clear hW hbW hp hq
  go_enter Try.func9, Try.ntmps9
  go_wp2_with fail
  rw [← HW.out]
  refine HC.out.mono ?_
  rintro e w1 ⟨K1, rfl, hz1, _, hb1⟩
  have HP1 := Lib.hid (HP.out.below hb1)
  have HZ1 := Lib.hid hz1
  have HB1 := Lib.hid (next_below HBW.out hb1)
  clear hz1 hb1
  go_wp2_with fail
  refine (invert_yes (some ⟨w.heap.size, 0, none⟩) 3 3 [1, 2, 0] w1 HP1.out pA (by omega)).mono ?_
  rintro e w2 ⟨K2, rfl, hz2, _, hb2⟩
  rw [wI1] at hz2
  have HP2 := Lib.hid (HP1.out.below hb2)
  have HZ1 := Lib.hid (HZ1.out.below hb2)
  have HZ2 := Lib.hid hz2
  have HB2 := Lib.hid (next_below HB1.out hb2)
  clear hz2 hb2
  go_wp2_with fail
  refine (power_yes (some ⟨w.heap.size, 0, none⟩) 3 3 [1, 2, 0] 2 w2 HP2.out pA (by omega) (by omega) (by omega)).mono ?_
  rintro e w3 ⟨K3, rfl, hz3, _, hb3⟩
  rw [wP1] at hz3
  have HP3 := Lib.hid (HP2.out.below hb3)
  have HZ1 := Lib.hid (HZ1.out.below hb3)
  have HZ2 := Lib.hid (HZ2.out.below hb3)
  have HZ3 := Lib.hid hz3
  have HB3 := Lib.hid (next_below HB2.out hb3)
  clear hz3 hb3
  have hb4 : Below w3.heap.size w3 (w3.alloc (.cells #[.int .i64 1, .int .i64 2, .int .i64 0, .int .i64 3] 3)) := (Below.refl _ _).alloc (Nat.le_refl _) _
  have HC4 := Lib.hid (cyclesAll_yes (some ⟨w3.heap.size, 0, none⟩) 4 4 [1, 2, 0, 3] (w3.alloc (.cells #[.int .i64 1, .int .i64 2, .int .i64 0, .int .i64 3] 3)) (lit_rd w3 (iz [1, 2, 0, 3])) pD4 (by omega))
  have HB4 := Lib.hid hb4
  clear hb4
  go_wp2_with fail
  refine HC4.out.mono ?_
  rintro e w4 ⟨V, us, rfl, hpr, hb5⟩
  rw [wY1] at hpr
  obtain ⟨gV, cV, rfl⟩ := Joins.ownsRow_form hpr.1 (by decide)
  have hb5 := next_below HB4.out hb5
  have HP4 := Lib.hid (HP3.out.below hb5)
  have HZ1 := Lib.hid (HZ1.out.below hb5)
  have HZ2 := Lib.hid (HZ2.out.below hb5)
  have HZ3 := Lib.hid (HZ3.out.below hb5)
  have HB5 := Lib.hid (next_below HB3.out hb5)
  have HPR := Lib.hid hpr
  clear hpr hb5
  have hb6 : Below w4.heap.size w4 (w4.alloc (.cells #[.int .i64 1, .int .i64 2, .int .i64 0, .int .i64 3] 3)) := (Below.refl _ _).alloc (Nat.le_refl _) _
  have HC6 := Lib.hid (order_yes (some ⟨w4.heap.size, 0, none⟩) 4 4 [1, 2, 0, 3] (w4.alloc (.cells #[.int .i64 1, .int .i64 2, .int .i64 0, .int .i64 3] 3)) (lit_rd w4 (iz [1, 2, 0, 3])) pD4 (by omega))
  rw [wO1] at HC6
  have HB6 := Lib.hid hb6
  clear hb6
  go_wp2_with fail
  refine HC6.out.mono ?_
  rintro e w6 ⟨rfl, hb7⟩
  have hb7 := next_below HB6.out hb7
  have HP6 := Lib.hid (HP4.out.below hb7)
  have HZ1 := Lib.hid (HZ1.out.below hb7)
  have HZ2 := Lib.hid (HZ2.out.below hb7)
  have HZ3 := Lib.hid (HZ3.out.below hb7)
  have HPR := Lib.hid (HPR.out.below hb7)
  have HB7 := Lib.hid (next_below HB5.out hb7)
  clear hb7
  have HC7 := Lib.hid (order_yes none 0 0 [] w6 (fun q x hq => by simp [iz] at hq) pN (by omega))
  rw [wO2] at HC7
  go_wp2_with fail
  refine HC7.out.mono ?_
  rintro e w7 ⟨rfl, hb8⟩
  have HP7 := Lib.hid (HP6.out.below hb8)
  have HZ1 := Lib.hid (HZ1.out.below hb8)
  have HZ2 := Lib.hid (HZ2.out.below hb8)
  have HZ3 := Lib.hid (HZ3.out.below hb8)
  have HPR := Lib.hid (HPR.out.below hb8)
  have HB8 := Lib.hid (next_below HB7.out hb8)
  clear hb8
  have hb9 : Below w7.heap.size w7 (w7.alloc (.cells #[.int .i64 0, .int .i64 0] 3)) := (Below.refl _ _).alloc (Nat.le_refl _) _
  have HC9 := Lib.hid (invert_no (some ⟨w7.heap.size, 0, none⟩) 2 2 [0, 0] (w7.alloc (.cells #[.int .i64 0, .int .i64 0] 3)) (lit_rd w7 [0, 0]) rfl (by omega) (by decide))
  have HB9 := Lib.hid hb9
  clear hb9
  go_wp2_with fail
  refine HC9.out.mono ?_
  rintro e w8 ⟨rfl, hb10⟩
  have hb10 := next_below HB9.out hb10
  have HP8 := Lib.hid (HP7.out.below hb10)
  have HZ1 := Lib.hid (HZ1.out.below hb10)
  have HZ2 := Lib.hid (HZ2.out.below hb10)
  have HZ3 := Lib.hid (HZ3.out.below hb10)
  have HPR := Lib.hid (HPR.out.below hb10)
  have HB10 := Lib.hid (next_below HB8.out hb10)
  clear hb10
  have hb11 : Below w8.heap.size w8 (w8.alloc (.cells #[.int .i64 0, .int .i64 1, .int .i64 1, .int .i64 2] 56)) := (Below.refl _ _).alloc (Nat.le_refl _) _
  have hrow : RowP (w8.alloc (.cells #[.int .i64 0, .int .i64 1, .int .i64 1, .int .i64 2] 56)) w8.heap.size [(0, 1), (1, 2)] := heap_alloc_new w8 _
  have HC11 := Lib.hid (apply_yes (some ⟨w8.heap.size, 0, none⟩) (some ⟨w.heap.size, 0, none⟩) 2 3 2 3 [(0, 1), (1, 2)] [1, 2, 0] _ hrow.rd (HP8.out.below hb11) rfl wE1 pA)
  have HB11 := Lib.hid hb11
  clear hb11 hrow
  go_wp2_with fail
  refine HC11.out.mono ?_
  rintro e w9 ⟨B, cB, F, rfl, hf1, hf2, hf3, _, hb12⟩
  obtain rfl := wF1 hf1 hf2
  have hb12 := next_below HB11.out hb12
  have HZ1 := Lib.hid (HZ1.out.below hb12)
  have HZ2 := Lib.hid (HZ2.out.below hb12)
  have HZ3 := Lib.hid (HZ3.out.below hb12)
  have HPR := Lib.hid (HPR.out.below hb12)
  have HB12 := Lib.hid (next_below HB10.out hb12)
  have HF3 := Lib.hid hf3
  clear hb12 hf1 hf2 hf3
  -- SameInts(a, ..)
  obtain ⟨wa, hwa⟩ : ∃ wa, wa = (w9.alloc (.cells #[.int .i64 3, .slice B 2 cB] 25)).alloc (.cells #[.int .i64 0, .int .i64 2, .int .i64 1] 3) := ⟨_, rfl⟩
  have hba : Below w9.heap.size w9 wa := by rw [hwa]; exact ((Below.refl _ _).alloc (Nat.le_refl _) _).alloc (by simp) _
  have hra : RdZ wa (some ⟨w9.heap.size + 1, 0, none⟩) (iz [0, 2, 1]) := by
    have h := lit_rd (w9.alloc (.cells #[.int .i64 3, .slice B 2 cB] 25)) (iz [0, 2, 1])
    rw [World.size_alloc] at h
    rw [hwa]; exact h
  have HX : Hid (wa.heap[w9.heap.size]? = some (.cells #[.int .i64 3, .slice B 2 cB] 25 (0, 0))) := by show _ = _; rw [hwa]; exact two_first w9 _ _
  have HCA := Lib.hid (sameZ_any (some ⟨K1, 0, none⟩) (some ⟨w9.heap.size + 1, 0, none⟩) 3 3 3 3 (iz [0, 2, 1]) (iz [0, 2, 1]) wa (HZ1.out.below hba).rd hra (by omega) (by omega) rfl rfl)
  rw [decide_eq_true (rfl : iz [0, 2, 1] = iz [0, 2, 1])] at HCA
  have HZ2 := Lib.hid (HZ2.out.below hba)
  have HZ3 := Lib.hid (HZ3.out.below hba)
  have HPR := Lib.hid (HPR.out.below hba)
  have HF3 := Lib.hid (HF3.out.below hba)
  have HBA := Lib.hid (next_below HB12.out hba)
  have HWA := Lib.hid hwa
  clear hwa hba hra
  go_wp2_with fail
  rw [← HWA.out]
  refine HCA.out.mono ?_
  rintro e w10 ⟨rfl, hb⟩
  have HX := Lib.hid (blk_below HX.out hb)
  have HZ2 := Lib.hid (HZ2.out.below hb)
  have HZ3 := Lib.hid (HZ3.out.below hb)
  have HPR := Lib.hid (HPR.out.below hb)
  have HF3 := Lib.hid (HF3.out.below hb)
  have HBB := Lib.hid (next_below HBA.out hb)
  clear hb
  -- SameInts(b, ..)
  have hb : Below w10.heap.size w10 (w10.alloc (.cells #[.int .i64 2, .int .i64 0, .int .i64 1] 3)) := (Below.refl _ _).alloc (Nat.le_refl _) _
  have HCB := Lib.hid (sameZ_any (some ⟨K2, 0, none⟩) (some ⟨w10.heap.size, 0, none⟩) 3 3 3 3 (iz [2, 0, 1]) (iz [2, 0, 1]) (w10.alloc (.cells #[.int .i64 2, .int .i64 0, .int .i64 1] 3)) (HZ2.out.below hb).rd (lit_rd w10 (iz [2, 0, 1])) (by omega) (by omega) rfl rfl)
  rw [decide_eq_true (rfl : iz [2, 0, 1] = iz [2, 0, 1])] at HCB
  have HB0 := Lib.hid hb
  clear hb
  go_wp2_with fail
  refine HCB.out.mono ?_
  rintro e w11 ⟨rfl, hb⟩
  have hb := next_below HB0.out hb
  have HX := Lib.hid (blk_below HX.out hb)
  have HZ2 := Lib.hid (HZ2.out.below hb)
  have HZ3 := Lib.hid (HZ3.out.below hb)
  have HPR := Lib.hid (HPR.out.below hb)
  have HF3 := Lib.hid (HF3.out.below hb)
  have HBC := Lib.hid (next_below HBB.out hb)
  clear hb
  -- SameInts(c, b)
  have HCC := Lib.hid (sameZ_any (some ⟨K3, 0, none⟩) (some ⟨K2, 0, none⟩) 3 3 3 3 (iz [2, 0, 1]) (iz [2, 0, 1]) w11 HZ3.out.rd HZ2.out.rd (by omega) (by omega) rfl rfl)
  rw [decide_eq_true (rfl : iz [2, 0, 1] = iz [2, 0, 1])] at HCC
  go_wp2_with fail
  refine HCC.out.mono ?_
  rintro e w12 ⟨rfl, hb⟩
  have HX := Lib.hid (blk_below HX.out hb)
  have HPR := Lib.hid (HPR.out.below hb)
  have HF3 := Lib.hid (HF3.out.below hb)
  have HBD := Lib.hid (next_below HBC.out hb)
  clear hb
  -- SameIntLists(l, ..)
  obtain ⟨wl, hwl⟩ : ∃ wl, wl = ((w12.alloc (.cells #[.int .i64 0, .int .i64 1, .int .i64 2] 3)).alloc (.cells #[.int .i64 3] 3)).alloc (.cells #[.slice (some ⟨w12.heap.size, 0, none⟩) 3 3, .slice (some ⟨w12.heap.size + 1, 0, none⟩) 1 1] 22) := ⟨_, rfl⟩
  have hb : Below w12.heap.size w12 wl := by rw [hwl]; exact (((Below.refl _ _).alloc (Nat.le_refl _) _).alloc (by simp) _).alloc (by simp; omega) _
  have hl0 : RdZ wl (some ⟨w12.heap.size, 0, none⟩) (iz [0, 1, 2]) := by
    rw [hwl]
    exact ((lit_rd w12 (iz [0, 1, 2])).below ((Below.refl _ _).alloc (Nat.le_refl _) _)).below ((Below.refl _ _).alloc (Nat.le_refl _) _)
  have hl1 : RdZ wl (some ⟨w12.heap.size + 1, 0, none⟩) (iz [3]) := by
    rw [hwl]
    have h := lit_rd (w12.alloc (.cells #[.int .i64 0, .int .i64 1, .int .i64 2] 3)) (iz [3])
    rw [World.size_alloc] at h
    exact h.below ((Below.refl _ _).alloc (Nat.le_refl _) _)
  have hl2 : wl.heap[w12.heap.size + 2]? = some (.cells #[.slice (some ⟨w12.heap.size, 0, none⟩) 3 3, .slice (some ⟨w12.heap.size + 1, 0, none⟩) 1 1] 22 (0, 0)) := by
    have h := heap_alloc_new ((w12.alloc (.cells #[.int .i64 0, .int .i64 1, .int .i64 2] 3)).alloc (.cells #[.int .i64 3] 3)) (.cells #[.slice (some ⟨w12.heap.size, 0, none⟩) 3 3, .slice (some ⟨w12.heap.size + 1, 0, none⟩) 1 1] 22)
    rw [hwl]
    simpa using h
  have hlR : RdR wl (some ⟨w12.heap.size + 2, 0, none⟩) [iz [0, 1, 2], iz [3]] := fun j xs hj => by
    match j, hj with
    | 0, hj =>
      simp at hj
      subst hj
      exact ⟨_, _, 3, rfl, lt_of_block hl2, by rw [add_off, cell_of hl2]; rfl, hl0⟩
    | 1, hj =>
      simp at hj
      subst hj
      exact ⟨_, _, 1, rfl, lt_of_block hl2, by rw [add_off, cell_of hl2]; rfl, hl1⟩
  have HCL := Lib.hid (sameR_any (some ⟨gV, 0, none⟩) (some ⟨w12.heap.size + 2, 0, none⟩) cV 2 2 2 [iz [0, 1, 2], iz [3]] [iz [0, 1, 2], iz [3]] wl (HPR.out.below hb).rd hlR (by intro xs h; simp at h; rcases h with rfl | rfl <;> simp [iz]) (by intro xs h; simp at h; rcases h with rfl | rfl <;> simp [iz]) (by omega) (by omega) rfl rfl)
  rw [decide_eq_true (rfl : [iz [0, 1, 2], iz [3]] = [iz [0, 1, 2], iz [3]])] at HCL
  have HX := Lib.hid (blk_below HX.out hb)
  have HF3 := Lib.hid (HF3.out.below hb)
  have HBE := Lib.hid (next_below HBD.out hb)
  have HWL := Lib.hid hwl
  clear hwl hb hl0 hl1 hl2 hlR
  go_wp2_with fail
  rw [← HWL.out]
  refine HCL.out.mono ?_
  rintro e w13 ⟨rfl, hb⟩
  have HX := Lib.hid (blk_below HX.out hb)
  have HF3 := Lib.hid (HF3.out.below hb)
  have HBF := Lib.hid (next_below HBE.out hb)
  clear hb
  -- SamePairs(x.Edges, ..)
  obtain ⟨x0, x1, _, _⟩ := cells_two (w := w13) HX.out
  have hb : Below w13.heap.size w13 (w13.alloc (.cells #[.int .i64 0, .int .i64 2, .int .i64 1, .int .i64 2] 56)) := (Below.refl _ _).alloc (Nat.le_refl _) _
  have hrow : RowP (w13.alloc (.cells #[.int .i64 0, .int .i64 2, .int .i64 1, .int .i64 2] 56)) w13.heap.size [(0, 2), (1, 2)] := heap_alloc_new w13 _
  have HCP := Lib.hid (samePr_any B (some ⟨w13.heap.size, 0, none⟩) cB 2 2 2 [(0, 2), (1, 2)] [(0, 2), (1, 2)] _ (HF3.out.below hb) hrow.rd (by omega) (by omega) rfl rfl)
  rw [decide_eq_true (rfl : [((0 : Int), (2 : Int)), (1, 2)] = [(0, 2), (1, 2)])] at HCP
  have HB0 := Lib.hid (next_below HBF.out hb)
  clear hb hrow
  go_wp2_with fail
  refine HCP.out.mono ?_
  rintro e w14 ⟨rfl, hb⟩
  go_wp2_with fail
  go_ret
  exact ⟨rfl, next_below HB0.out hb⟩
end Go.Proofs.Ytgldlanfbkgfjaa
