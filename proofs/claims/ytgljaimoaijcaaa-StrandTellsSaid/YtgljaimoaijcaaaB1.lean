/- Walks: bytes are unpacked. -/
import Derived.Test.YtgljaimoaijcaaaA9
namespace Go.Proofs.Ytgljaimoaijcaaa
open Go.RowKit

theorem b8_last (a b c d e f g h : Bool) : ∀ r : Fin 8, [a,b,c,d,e,f,g,h].getD r.val false = true → (∀ j : Fin 8, r.val < j.val → [a,b,c,d,e,f,g,h].getD j.val false = false) →
    Lib.trailingZeros8 (b8 a b c d e f g h) = 7 - r.val ∧ b8 a b c d e f g h ≠ 0 := by
  revert a b c d e f g h; decide +kernel
theorem eight (l : List Bool) (q : Nat) : ∀ j : Fin 8, [l.getD (8*q) false, l.getD (8*q+1) false, l.getD (8*q+2) false, l.getD (8*q+3) false, l.getD (8*q+4) false, l.getD (8*q+5) false, l.getD (8*q+6) false, l.getD (8*q+7) false].getD j.val false = l.getD (8*q+j.val) false
  | ⟨0, _⟩ => rfl
  | ⟨1, _⟩ => rfl
  | ⟨2, _⟩ => rfl
  | ⟨3, _⟩ => rfl
  | ⟨4, _⟩ => rfl
  | ⟨5, _⟩ => rfl
  | ⟨6, _⟩ => rfl
  | ⟨7, _⟩ => rfl
theorem one_at (l : List Bool) : (l ++ [true]).getD l.length false = true := by simp [List.getD]
theorem tz_last (l : List Bool) : Lib.trailingZeros8 (byteOf (l ++ [true]) (l.length / 8)) = 7 - l.length % 8 ∧ byteOf (l ++ [true]) (l.length / 8) ≠ 0 := by
  unfold byteOf
  apply b8_last _ _ _ _ _ _ _ _ ⟨l.length % 8, by omega⟩
  · have h := eight (l ++ [true]) (l.length / 8) ⟨l.length % 8, by omega⟩
    rw [h]
    show (l ++ [true]).getD (8 * (l.length / 8) + l.length % 8) false = true
    rw [show 8 * (l.length / 8) + l.length % 8 = l.length by omega]
    exact one_at l
  · intro j hj
    rw [eight (l ++ [true]) (l.length / 8) j]
    apply getD_far
    have : l.length % 8 < j.val := hj
    simp; omega
theorem b8_clear (a b c d e f g h : Bool) : ∀ r : Fin 8, [a,b,c,d,e,f,g,h].getD r.val false = true → b8 a b c d e f g h - 2 ^ (7 - r.val) =
    b8 (a && !(r.val == 0)) (b && !(r.val == 1)) (c && !(r.val == 2)) (d && !(r.val == 3)) (e && !(r.val == 4)) (f && !(r.val == 5)) (g && !(r.val == 6)) (h && !(r.val == 7)) := by
  revert a b c d e f g h; decide +kernel
theorem andNot_u8 : ∀ (x : Fin 256) (k : Fin 8), x.val / 2 ^ k.val % 2 = 1 → bits .andNot .u8 ((x.val : Nat) : Int) (2 ^ k.val % 256) = ((x.val - 2 ^ k.val : Nat) : Int) := by decide +kernel
theorem getD_one (l : List Bool) (j : Nat) : (l ++ [true]).getD j false = (l.getD j false || j == l.length) := by
  rw [getD_append]
  split
  · rename_i h
    have : (j == l.length) = false := by simp; omega
    rw [this]; simp
  · rename_i h
    rw [getD_far (l := l) (by omega)]
    by_cases e : j = l.length
    · subst e; simp
    · have : (j == l.length) = false := by simpa using e
      rw [this, getD_far (by simp; omega)]; simp
theorem byteOf_clear (l : List Bool) : byteOf (l ++ [true]) (l.length / 8) - 2 ^ (7 - l.length % 8) = byteOf l (l.length / 8) := by
  have h1 : [(l ++ [true]).getD (8*(l.length/8)) false, (l ++ [true]).getD (8*(l.length/8)+1) false, (l ++ [true]).getD (8*(l.length/8)+2) false, (l ++ [true]).getD (8*(l.length/8)+3) false, (l ++ [true]).getD (8*(l.length/8)+4) false, (l ++ [true]).getD (8*(l.length/8)+5) false, (l ++ [true]).getD (8*(l.length/8)+6) false, (l ++ [true]).getD (8*(l.length/8)+7) false].getD (l.length % 8) false = true := by
    rw [eight (l ++ [true]) (l.length / 8) ⟨l.length % 8, by omega⟩]
    show (l ++ [true]).getD (8 * (l.length / 8) + l.length % 8) false = true
    rw [show 8 * (l.length / 8) + l.length % 8 = l.length by omega]
    exact one_at l
  have h2 := b8_clear _ _ _ _ _ _ _ _ ⟨l.length % 8, by omega⟩ h1
  unfold byteOf
  rw [h2]
  have e : ∀ r, r < 8 → ((l ++ [true]).getD (8 * (l.length/8) + r) false && !(l.length % 8 == r)) = l.getD (8 * (l.length/8) + r) false := by
    intro r hr
    rw [getD_one]
    by_cases e : l.length % 8 = r
    · have e1 : (8 * (l.length / 8) + r == l.length) = true := by simp; omega
      have e2 : (l.length % 8 == r) = true := by simpa using e
      rw [e1, e2, getD_far (by omega)]; rfl
    · have e1 : (8 * (l.length / 8) + r == l.length) = false := by simp; omega
      have e2 : (l.length % 8 == r) = false := by simpa using e
      rw [e1, e2]; simp
  have e0 := e 0 (by omega)
  rw [Nat.add_zero] at e0
  simp only [e0, e 1 (by omega), e 2 (by omega), e 3 (by omega), e 4 (by omega), e 5 (by omega), e 6 (by omega), e 7 (by omega)]
theorem byteOf_one (l : List Bool) (q : Nat) (h : q ≠ l.length / 8) : byteOf (l ++ [true]) q = byteOf l q := by
  apply byteOf_congr
  intro r hr
  rw [getD_one]
  have : (8 * q + r == l.length) = false := by simp; omega
  rw [this]; simp

theorem unpack_size (l : List Bool) : nB (l ++ [true]) = l.length / 8 + 1 := by unfold nB; simp; omega
theorem cells_even (l : List Bool) (h : l.length % 8 = 0) : (splice (madeCells #[.int .u8 0] (nB l)).toList 0 ((cellsOf (l ++ [true])).toList.take (nB l))).toArray = cellsOf l := by
  have hle : nB l ≤ nB (l ++ [true]) := by unfold nB; simp; omega
  apply Array.ext'
  apply List.ext_getElem
  · simp [splice, toList_madeCells_one, cellsOf_size]; omega
  · intro q h1 h2
    have hq : q < nB l := by simpa [cellsOf_size] using h2
    have hne : q ≠ l.length / 8 := by unfold nB at hq; omega
    simp only [splice, List.take_zero, List.nil_append, Nat.zero_add, toList_madeCells_one]
    rw [List.getElem_append_left (by simp [cellsOf_size]; omega)]
    simp [cellsOf, byteOf_one l q hne]
theorem cells_odd (l : List Bool) (h : l.length % 8 ≠ 0) : (splice (madeCells #[.int .u8 0] (nB l)).toList 0 ((cellsOf (l ++ [true])).toList.take (nB l))).toArray = cellsOf (l ++ [true]) := by
  have hle : nB l = nB (l ++ [true]) := by unfold nB; simp; omega
  apply Array.ext'
  apply List.ext_getElem
  · simp [splice, toList_madeCells_one, cellsOf_size]; omega
  · intro q h1 h2
    have hq : q < nB (l ++ [true]) := by simpa [cellsOf_size] using h2
    simp only [splice, List.take_zero, List.nil_append, Nat.zero_add, toList_madeCells_one]
    rw [List.getElem_append_left (by simp [cellsOf_size]; omega)]
    simp
theorem cells_cleared (l : List Bool) (h : l.length % 8 ≠ 0) : (cellsOf (l ++ [true])).setIfInBounds (l.length / 8) (by8 (byteOf (l ++ [true]) (l.length / 8) - 2 ^ (7 - l.length % 8))) = cellsOf l := by
  have hle : nB l = nB (l ++ [true]) := by unfold nB; simp; omega
  apply Array.ext
  · simp [cellsOf_size, hle]
  · intro q h1 h2
    rw [Array.getElem_setIfInBounds (by simpa using h1)]
    split
    · rename_i e; subst e
      simp [cellsOf, byteOf_clear]
    · rename_i e
      simp [cellsOf, byteOf_one l q (Ne.symm e)]

set_option maxRecDepth 100000 in
set_option maxHeartbeats 2000000 in
theorem unpack_any (A : Option Addr) (l : List Bool) (n c : Nat) (w : World) (hr : Rd w A (l ++ [true])) (hn : n = nB (l ++ [true])) (hm : l.length ≤ 4194304) :
    Calls Try.prog 24 #[.slice A n c] w (NewSt l w) := by
  obtain ⟨ad, rfl, hbl, hcell⟩ := hr (l.length / 8) (by rw [unpack_size]; omega)
  have HR := Lib.hid hr
  obtain ⟨htz, hz0⟩ := tz_last l
  have hz256 := byteOf_lt (l ++ [true]) (l.length / 8)
  unfold by8 at hcell
  generalize hz : byteOf (l ++ [true]) (l.length / 8) = z at *
  have HZ := Lib.hid hz
  clear hz hr
  rw [unpack_size] at hn
  obtain ⟨t, ht⟩ : ∃ t, t = 7 - l.length % 8 := ⟨_, rfl⟩
  rw [show l.length / 8 = n - 1 by omega] at hcell
  rw [← ht] at htz
  have ht7 : t ≤ 7 := by omega
  have hn1 : 1 ≤ n := by omega
  have hn2 : n ≤ 524289 := by omega
  have hLe : 8 * (n : Int) - t - 1 = (l.length : Nat) := by omega
  have HN := Lib.hid hn
  have HTt := Lib.hid ht
  clear ht hn
  have hT : ∀ w : World, Calls Try.prog 50 #[.int .u8 (z : Int)] w fun e w' => e = .returned (.int .i64 (t : Nat)) ∧ w' = w := by
    intro w
    have h := tz8 (z : Int) w (by omega) (by omega)
    rw [Int.toNat_natCast, htz] at h
    exact h
  have HT := Lib.hid hT
  clear hT htz
  have hc1 : ∀ o, (w.alloc o).cell? (ad.add (n - 1)) = some (.int .u8 z) := fun o => (World.cell?_alloc_lt w o _ (by rw [block_add]; exact hbl)).trans hcell
  clear hcell
  have d0 : ((z : Int) == 0) = false := by simp; omega
  have d1 : ((n : Int) == 0) = false := by simp; omega
  have d2 : decide ((524289 : Int) < (n : Int)) = false := by simp; omega
  go_enter Try.func24, Try.ntmps24
  go_wp2_with fail
  refine (HT.out _).mono ?_
  rintro e w1 ⟨rfl, rfl⟩
  go_wp2_with fail
  refine (size_any _ _ (by omega) (by omega)).mono ?_
  rintro e w1 ⟨rfl, rfl⟩
  have hS : ((l.length : Int) + 7) / 8 = (nB l : Nat) := by unfold nB; omega
  rw [hS]
  clear hS
  obtain ⟨i0, hi0, hz0, hz1, hz2⟩ := info_parts u8info
  have hmk : ∀ w' : World, (Instr.makeSlice 22 (.int .i64 ((nB l : Nat) : Int)) (.int .i64 ((nB l : Nat) : Int))).run Try.prog w' = .ok (.slice (some ⟨w'.heap.size, 0, none⟩) (nB l) (nB l)) (w'.alloc (.cells (madeCells #[.int .u8 0] (nB l)) 5)) := by
    intro w'
    have h : nB l ≤ 100000000000000 := by unfold nB; omega
    have hr := run_make (P := Try.prog) w' 22 5 i0 (.int .u8 0) Try.underlying22 hi0 hz0 .i64 .i64 (nB l) (nB l) (by omega) (by omega) (by rw [hz2]; omega) (by omega)
    simp only [Int.toNat_natCast, hz1, Nat.mul_one] at hr
    exact hr
  clear hi0 hz0 hz1 hz2
  have hNl : nB l ≤ n := by rw [HN.out]; unfold nB; omega
  have hNl2 : l.length ≤ 8 * nB l := by unfold nB; omega
  have hNl3 : Hid (nB l = (l.length + 7) / 8) := rfl
  generalize hM : nB l = M at *
  have HM := Lib.hid hM
  clear hM
  obtain ⟨C, hC⟩ : ∃ C, C = (cellsOf (l ++ [true])).toList.take M := ⟨_, rfl⟩
  obtain ⟨Z, hZ⟩ : ∃ Z, Z = (madeCells #[.int .u8 0] M).toList := ⟨_, rfl⟩
  have hNC : nB (l ++ [true]) = n := by rw [unpack_size, HN.out]
  have hlen : C.length = M := by rw [hC]; simp [cellsOf_size, hNC]; omega
  have hn1' : Hid (C.length = Nat.min n M) := by
    show C.length = min n M
    rw [hlen]; omega
  have hfit : Hid (C.length ≤ Z.length) := by
    show C.length ≤ Z.length
    rw [hlen, hZ]; simp [toList_madeCells_one]
  have HG : ∀ o : Obj, Hid ((((w.alloc (Obj.cells #[Value.slice none 0 0, Value.int IntKind.i64 0] 24)).alloc (Obj.cells (madeCells #[Value.int IntKind.u8 0] M) 5)).alloc o).heap[w.heap.size + 1]? = some (Obj.cells Z.toArray 5 (0, 0))) := by
    intro o
    rw [hZ]
    exact (Below.heap_alloc _ o _ (by simp only [World.size_alloc]; omega)).trans (two_second w _ _)
  have hpos : ∀ o : Obj, Hid (0 < C.length → ∃ ad', some ad = some ad' ∧ ∀ j v, C[j]? = some v → (((w.alloc (Obj.cells #[Value.slice none 0 0, Value.int IntKind.i64 0] 24)).alloc (Obj.cells (madeCells #[Value.int IntKind.u8 0] M) 5)).alloc o).cell? (ad'.add j) = some v) := by
    intro o _
    refine ⟨ad, rfl, fun j v hv => ?_⟩
    have hj : j < nB (l ++ [true]) := by
      have := (List.getElem?_eq_some_iff.1 hv).1
      omega
    obtain ⟨ad', e', hl', hc'⟩ := HR.out j hj
    injection e' with e'
    subst e'
    have hjM : j < M := by
      have := (List.getElem?_eq_some_iff.1 hv).1
      omega
    have hv' : some v = some (by8 (byteOf (l ++ [true]) j)) := by
      rw [← hv, hC, List.getElem?_take, if_pos hjM]; simpa using cellsOf_get (l ++ [true]) j hj
    rw [hv', ← hc', World.cell?_alloc_lt _ _ _ (by rw [block_add]; simp; omega), World.cell?_alloc_lt _ _ _ (by rw [block_add]; simp; omega), World.cell?_alloc_lt _ _ _ (by rw [block_add]; exact hbl)]
  have hone : Hid (∀ v ∈ C, v.oneCell' = true) := by
    show ∀ v ∈ C, v.oneCell' = true
    intro v hv
    rw [hC] at hv
    have hv := List.mem_of_mem_take hv
    simp [cellsOf] at hv
    obtain ⟨q, _, rfl⟩ := hv
    rfl
  have HC := Lib.hid hC
  have HZ' := Lib.hid hZ
  clear hC hZ hlen hNC
  have hD : Below w.heap.size w (((w.alloc (Obj.cells #[Value.slice none 0 0, Value.int IntKind.i64 0] 24)).alloc (Obj.cells (madeCells #[Value.int IntKind.u8 0] M) 5)).alloc (Obj.cells #[Value.slice (some { block := w.heap.size + 1, off := 0 }) M M, Value.int IntKind.i64 l.length] 24)) := (((Below.refl _ _).alloc (Nat.le_refl _) _).alloc (by simp) _).alloc (by simp; omega) _
  have hP : Hid ((((w.alloc (Obj.cells #[Value.slice none 0 0, Value.int IntKind.i64 0] 24)).alloc (Obj.cells (madeCells #[Value.int IntKind.u8 0] M) 5)).alloc (Obj.cells #[Value.slice (some { block := w.heap.size + 1, off := 0 }) M M, Value.int IntKind.i64 l.length] 24)).heap[w.heap.size + 2]? = some (.cells #[Value.slice (some { block := w.heap.size + 1, off := 0 }) M M, Value.int IntKind.i64 l.length] 24 (0, 0))) := by
    have h := heap_alloc_new ((w.alloc (Obj.cells #[Value.slice none 0 0, Value.int IntKind.i64 0] 24)).alloc (Obj.cells (madeCells #[Value.int IntKind.u8 0] M) 5)) (Obj.cells #[Value.slice (some { block := w.heap.size + 1, off := 0 }) M M, Value.int IntKind.i64 l.length] 24)
    simp only [World.size_alloc] at h
    exact h
  have hQ : Hid ((((w.alloc (Obj.cells #[Value.slice none 0 0, Value.int IntKind.i64 0] 24)).alloc (Obj.cells (madeCells #[Value.int IntKind.u8 0] M) 5)).alloc (Obj.cells #[Value.slice (some { block := w.heap.size + 1, off := 0 }) M M, Value.int IntKind.i64 l.length] 24)).heap[w.heap.size]? = some (.cells #[Value.slice none 0 0, Value.int IntKind.i64 0] 24 (0, 0))) :=
    (Below.heap_alloc _ _ _ (by simp only [World.size_alloc]; omega)).trans (two_first w _ _)
  have HD := Lib.hid hD
  clear hD HR
  by_cases h8 : l.length % 8 = 0
  · have d3 : ((l.length : Int) % 8 != 0) = false := by simp; omega
    have H8 := Lib.hid h8
    clear h8
    go_wp2_with ((with_reducible refine wpList_copy_grown rfl (.tmp 44) (.tmp 45) _ _ rfl 5 Try.underlying22 u8size _ _ _ _ _ (w.heap.size + 1) rfl rfl Z 5 (HG _).out C hn1'.out (hpos _).out hfit.out hone.out ?_); intro w2 hg2 hgr2; have hp2 := Lib.hid (blk_gb hP.out hgr2 (by omega)); have hq2 := Lib.hid (blk_gb hQ.out hgr2 (by omega)); obtain ⟨p1, p2, _, _⟩ := cells_two hp2.out; obtain ⟨q1, q2, q3, q4⟩ := cells_two hq2.out)
    have hO : Own w2 (w.heap.size + 1) l := by
      have h := hg2.out
      rw [HC.out, HZ'.out, ← HM.out, cells_even l H8.out] at h
      exact h
    refine bodyPost_ret (v := .tuple #[.agg #[.slice (some ⟨w.heap.size + 1, 0, none⟩) M M, .int .i64 (l.length : Nat)], .int .i64 0]) (by simp [results, Try.results24, go_sem, q1, q2]) rfl ⟨w.heap.size + 1, _, rfl, ⟨by rw [HM.out], (hO.far (by show _ ≠ w.heap.size; omega) _).far (by show _ ≠ w.heap.size; omega) _⟩, by omega, ?_⟩
    exact ((HD.out.grown hgr2 HD.out.size (by intro j hj; injection hj with hj; omega)).setCell (by show _ ≤ w.heap.size; omega) _).setCell (by show _ ≤ w.heap.size; omega) _
  · have d3 : ((l.length : Int) % 8 != 0) = true := by simp; omega
    have H8 := Lib.hid h8
    clear h8
    go_wp2_with ((with_reducible refine wpList_copy_grown rfl (.tmp 44) (.tmp 45) _ _ rfl 5 Try.underlying22 u8size _ _ _ _ _ (w.heap.size + 1) rfl rfl Z 5 (HG _).out C hn1'.out (hpos _).out hfit.out hone.out ?_); intro w2 hg2 hgr2; have hp2 := Lib.hid (blk_gb hP.out hgr2 (by omega)); have hq2 := Lib.hid (blk_gb hQ.out hgr2 (by omega)); obtain ⟨p1, p2, _, _⟩ := cells_two hp2.out; obtain ⟨q1, q2, q3, q4⟩ := cells_two hq2.out)
    have hO : Own w2 (w.heap.size + 1) (l ++ [true]) := by
      have h := hg2.out
      rw [HC.out, HZ'.out, ← HM.out, cells_odd l H8.out] at h
      exact h
    have h8 := H8.out
    have hqn : l.length / 8 < nB (l ++ [true]) := by rw [unpack_size]; omega
    have hcz := hO.cell hqn
    unfold by8 at hcz
    rw [HZ.out] at hcz
    have hfz := hO.free (l.length / 8)
    have hlM : l.length / 8 < M := by omega
    have hx := byteOf_at (l ++ [true]) l.length
    rw [HZ.out, one_at] at hx
    have hv := andNot_u8 ⟨z, hz256⟩ ⟨7 - l.length % 8, by omega⟩ hx
    have HV : Hid (bits .andNot .u8 (z : Int) (2 ^ (7 - l.length % 8) % 256) = ((z - 2 ^ (7 - l.length % 8) : Nat) : Int)) := hv
    have HO := Lib.hid hO
    have hM2 : M ≤ 600000 := by omega
    clear hx hv hqn hO h8
    go_region
    have HQ2 := hq2.out
    have hO2 : Own ((w2.setCell ⟨w.heap.size + 1, l.length / 8, none⟩ (.int .u8 (bits .andNot .u8 (z : Int) (2 ^ (7 - l.length % 8) % 256)))).drew) (w.heap.size + 1) l := by
      rw [HV.out, ← HZ.out]
      show Own (w2.setCell _ (by8 _)) _ _
      have h := HO.out
      unfold Own at h ⊢
      rw [← cells_cleared l H8.out]
      simp [World.setCell, Array.getElem?_modify, h]
    have HO2 := Lib.hid hO2
    clear hO2 HQ2
    generalize bits .andNot .u8 (z : Int) (2 ^ (7 - l.length % 8) % 256) = v at *
    go_wp2_with fail
    refine bodyPost_ret (v := .tuple #[.agg #[.slice (some ⟨w.heap.size + 1, 0, none⟩) M M, .int .i64 (l.length : Nat)], .int .i64 0]) (by simp [results, Try.results24, go_sem, q1, q2]) rfl ⟨w.heap.size + 1, _, rfl, ⟨by rw [HM.out], ((HO2.out.far (by show _ ≠ w.heap.size; omega) _).far (by show _ ≠ w.heap.size; omega) _)⟩, by omega, ?_⟩
    exact ((((HD.out.grown hgr2 HD.out.size (by intro j hj; injection hj with hj; omega)).setCell (p := ⟨w.heap.size + 1, l.length / 8, none⟩) (by show _ ≤ w.heap.size + 1; omega) _).setCell (p := ⟨w.heap.size, 0, none⟩) (by show _ ≤ w.heap.size; omega) _).setCell (p := ⟨w.heap.size, 1, none⟩) (by show _ ≤ w.heap.size; omega) _).drew
end Go.Proofs.Ytgljaimoaijcaaa
