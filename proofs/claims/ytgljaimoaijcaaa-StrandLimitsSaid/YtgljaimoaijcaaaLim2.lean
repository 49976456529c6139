/- The walk of StrandLimits. -/
import Derived.Test.YtgljaimoaijcaaaLim
import Derived.Deep.AppendLies
namespace Go.Proofs.Ytgljaimoaijcaaa
open Go.RowKit

set_option maxRecDepth 100000 in
set_option maxHeartbeats 4000000 in
theorem limits_walk (few z : Nat) (w : World) (_hf : few < 256) (hz : z < 256) :
    Calls Try.prog 8 #[.int .u8 few, .int .u8 z] w fun e w' => e = .returned (.bool true) ∧ Below w.heap.size w w' := by
  obtain ⟨l, hl, hcs⟩ := zeros_strand 524287 z hz (Nat.le_refl _)
  have hl' : l.length = 4194304 := by omega
  clear hl
  obtain ⟨i0, hi0, hz0, hz1, hz2⟩ := info_parts u8info
  have hmk : ∀ w' : World, (Instr.makeSlice 22 (.int .i64 524288) (.int .i64 524288)).run Try.prog w' = .ok (.slice (some ⟨w'.heap.size, 0, none⟩) 524288 524288) (w'.alloc (.cells (madeCells #[.int .u8 0] (524287 + 1)) 5)) := by
    intro w'
    have hr := run_make (P := Try.prog) w' 22 5 i0 (.int .u8 0) Try.underlying22 hi0 hz0 .i64 .i64 524288 524288 (by omega) (by omega) (by rw [hz2]; omega) (by omega)
    rw [hz1, Nat.mul_one] at hr
    exact hr
  have hZ : (madeCells #[Value.int .u8 0] (524287 + 1))[524287]? = some (.int .u8 0) := by
    have h1 : 524287 < (madeCells #[Value.int .u8 0] (524287 + 1)).size := by rw [size_madeCells]; omega
    rw [Array.getElem?_eq_getElem h1]
    have e2 : (madeCells #[Value.int .u8 0] (524287 + 1)).toList[524287]'(by rw [Array.length_toList]; exact h1) = .int .u8 0 := by
      simp only [toList_madeCells_one, List.getElem_replicate]
    rw [← Array.getElem_toList]
    rw [e2]
  generalize madeCells #[Value.int .u8 0] (524287 + 1) = Z at *
  have HCS := Lib.hid hcs
  have HL := Lib.hid hl'
  have hlo : 4194304 ≤ l.length := by omega
  have hhi : l.length ≤ 4194304 := by omega
  clear hcs hl' hi0 hz0 hz1 hz2
  obtain ⟨k, hk⟩ : ∃ k, k = few % 64 := ⟨_, rfl⟩
  have hkI : (few : Int) % 64 = (k : Nat) := by rw [hk]; omega
  have hk64 : k < 64 := by omega
  clear hk
  have hcell : ((w.alloc (.cells Z 5)).alloc (.cells #[.slice (some ⟨w.heap.size, 0, none⟩) 524288 524288, .int .i64 4194304] 24)).cell? ⟨w.heap.size, 524287, none⟩ = some (.int .u8 0) := by
    rw [World.cell?_alloc_lt _ _ _ (by show w.heap.size < _; simp), cell_of (heap_alloc_new w _)]
    exact hZ
  have hfree : ((w.alloc (.cells Z 5)).alloc (.cells #[.slice (some ⟨w.heap.size, 0, none⟩) 524288 524288, .int .i64 4194304] 24)).frozen? ⟨w.heap.size, 524287, none⟩ = false := free_of (two_first w _ _) _
  go_enter Try.func8, Try.ntmps8
  go_wp2_with fail
  rw [← HCS.out]
  have S0 := Lib.hid ((((Bun.start w).new (ob l)).new (.cells #[.slice (some ⟨w.heap.size, 0, none⟩) 524288 524288, .int .i64 4194304] 24)))
  have hnb : nB l = 524288 := by unfold nB; omega
  have HNB := Lib.hid hnb
  have hmost : ∀ w' : World, w'.heap[w.heap.size]? = some (ob l) → St w' (.agg #[.slice (some ⟨w.heap.size, 0, none⟩) 524288 524288, .int .i64 4194304]) l :=
    fun w' h => ⟨some ⟨w.heap.size, 0, none⟩, 524288, by rw [HNB.out, HL.out]; rfl, Own.rd h, hhi⟩
  have HM := Lib.hid hmost
  clear hcell hfree hmk hmost hnb hZ
  have hsub : (4194304 : Int) - k = ((4194304 - k : Nat) : Int) := by omega
  rw [hsub]
  refine (cut_any _ l 0 (4194304 - k) _ (HM.out _ (S0.out.get (by simp))) (by omega) (by omega)).mono ?_
  rintro e w1 ⟨g1, v, rfl, ⟨rfl, ho⟩, _, hb⟩
  rw [List.drop_zero, Nat.sub_zero] at ho ⊢
  have hn1 : (l.take (4194304 - k)).length = 4194304 - k := by rw [List.length_take]; omega
  generalize l.take (4194304 - k) = near at *
  have n1 : near.length + k ≤ 4194304 := by omega
  have n2 : 4194304 ≤ near.length + k := by omega
  have HN1 := Lib.hid hn1
  clear hn1 hsub
  have S1 := Lib.hid (((S0.out.below hb).own ho).new (os g1 near))
  clear hb S0 ho
  go_wp2_with fail
  refine (field_any _ near 0 k _ (S1.out.sv (by simp) (by omega)) (by omega) (Nat.pow_pos (by omega)) n1).mono ?_
  rintro e w2 ⟨g2, v, rfl, ⟨rfl, ho⟩, _, hb⟩
  have hw1 : (((near ++ digs 0 k).length : Int) != 4194304) = false := by rw [List.length_append, digs_length]; simp; omega
  generalize near ++ digs 0 k = whole at *
  have S2 := Lib.hid (((S1.out.below hb).own ho).new (os g2 whole))
  clear hb S1 ho
  obtain ⟨n3, n4, _, _⟩ := cells_two (S2.out.get (g := w1.heap.size) (o := os g1 near) (by simp))
  have hfl : ∀ w' : World, St w' (sv g1 near) near → Calls Try.prog 20 #[sv g1 near, .int .u64 0, .int .i64 ((k : Int) + 1)] w' (ErrSt 3 w') := fun w' hs => by
    have h := field_long (sv g1 near) near 0 (k + 1) w' hs (by omega) (Nat.pow_pos (by omega)) (by omega)
    rwa [show ((k + 1 : Nat) : Int) = (k : Int) + 1 by omega] at h
  have HFL := Lib.hid hfl
  clear hfl
  go_wp2_with fail
  refine (HFL.out _ (S2.out.sv (by simp) (by omega))).mono ?_
  rintro e w3 ⟨rfl, hb⟩
  have S3 := Lib.hid ((S2.out.below hb).new (.cells #[.slice none 0 0, .int .i64 0] 24))
  clear hb S2 n3 n4
  obtain ⟨n3, n4, _, _⟩ := cells_two (S3.out.get (g := w1.heap.size) (o := os g1 near) (by simp))
  obtain ⟨m3, m4, _, _⟩ := cells_two (S3.out.get (g := (w.alloc (ob l)).heap.size) (o := .cells #[.slice (some ⟨w.heap.size, 0, none⟩) 524288 524288, .int .i64 4194304] 24 (0, 0)) (by simp))
  simp only [World.size_alloc] at m3 m4
  go_wp2_with fail
  refine (join_long _ _ near l _ (S3.out.sv (by simp) (by omega)) (HM.out _ (S3.out.get (by simp))) (by omega)).mono ?_
  rintro e w4 ⟨rfl, hb⟩
  have S4 := Lib.hid ((S3.out.below hb).new (.cells #[.slice none 0 0, .int .i64 0] 24))
  clear hb S3 n3 n4 m3 m4
  obtain ⟨m3, m4, _, _⟩ := cells_two (S4.out.get (g := (w.alloc (ob l)).heap.size) (o := .cells #[.slice (some ⟨w.heap.size, 0, none⟩) 524288 524288, .int .i64 4194304] 24 (0, 0)) (by simp))
  simp only [World.size_alloc] at m3 m4
  go_wp2_with fail
  refine (knot_long _ l _ (HM.out _ (S4.out.get (by simp))) (by omega)).mono ?_
  rintro e w5 ⟨rfl, hb⟩
  have hq5 : w.heap.size + 1 < w5.heap.size := by
    have h1 := lt_of_block ((S4.out.below hb).get (g := (w.alloc (ob l)).heap.size) (o := .cells #[.slice (some ⟨w.heap.size, 0, none⟩) 524288 524288, .int .i64 4194304] 24 (0, 0)) (by simp))
    simpa only [World.size_alloc] using h1
  have S5 := Lib.hid ((S4.out.below hb).new (.cells #[.slice none 0 0, .int .i64 0] 24))
  clear hb S4 m3 m4
  obtain ⟨m3, m4, _, _⟩ := cells_two (S5.out.get (g := (w.alloc (ob l)).heap.size) (o := .cells #[.slice (some ⟨w.heap.size, 0, none⟩) 524288 524288, .int .i64 4194304] 24 (0, 0)) (by simp))
  simp only [World.size_alloc] at m3 m4
  go_wp2_with fail
  refine (pack_any _ l _ (HM.out _ (S5.out.get (by simp)))).mono ?_
  rintro e w6 ⟨gb, rfl, ho, hgb, hb⟩
  have HQ5 : Hid (w.heap.size + 1 < w5.heap.size) := hq5
  clear hq5
  have hpk : nB (l ++ [true]) = 524289 := by rw [unpack_size]; omega
  have S6 := Lib.hid ((S5.out.below hb).own ho)
  have HOB := Lib.hid ho
  have HPK := Lib.hid hpk
  have hlen1 : ((524289 : Int) != 524289) = false := by decide
  rw [hpk]
  have hgw : w.heap.size ≤ gb := by have h := S5.out.2.2.size; omega
  clear hb S5 m3 m4 ho hpk
  obtain ⟨m3, m4, _, _⟩ := cells_two (S6.out.get (g := (w.alloc (ob l)).heap.size) (o := .cells #[.slice (some ⟨w.heap.size, 0, none⟩) 524288 524288, .int .i64 4194304] 24 (0, 0)) (by simp))
  simp only [World.size_alloc] at m3 m4
  go_wp2_with fail
  refine (right_yes (some ⟨w.heap.size, 0, none⟩) l 524288 524288 4194304 _ (Own.rd (S6.out.get (o := ob l) (by simp))) HNB.out.symm (by rw [HL.out]; rfl) hhi).mono ?_
  rintro e w7 ⟨rfl, hb⟩
  have S7 := Lib.hid (S6.out.below hb)
  clear hb S6 m3 m4
  obtain ⟨p3, p4, _, _⟩ := cells_two (S7.out.get (g := w2.heap.size) (o := os g2 whole) (by simp))
  go_wp2_with fail
  refine (unpack_any (some ⟨gb, 0, none⟩) l 524289 524289 _ (Own.rd (S7.out.get (o := ob (l ++ [true])) (by simp))) HPK.out.symm hhi).mono ?_
  rintro e w8 ⟨gu, v, rfl, ⟨rfl, ho⟩, hgu, hb⟩
  have hgb7 : gb < w7.heap.size := lt_of_block (S7.out.get (g := gb) (o := ob (l ++ [true])) (by simp))
  have hgb78 : gb < w8.heap.size := Nat.lt_of_lt_of_le hgb7 hb.size
  have hgb1 : w.heap.size + 1 < gb := by
    have h2 : w.heap.size + 1 < w5.heap.size := HQ5.out
    have h3 := hgb
    simp only [World.size_alloc] at h3
    omega
  have S8 := Lib.hid (((S7.out.below hb).own ho).new (os gu l))
  clear hb S7 ho p3 p4 hw1 hlen1
  obtain ⟨i1, hi0, hz0, hz1, hz2⟩ := info_parts u8info
  have I0 := Lib.hid hi0
  have I1 := Lib.hid hz0
  have I2 := Lib.hid hz1
  have I3 := Lib.hid hz2
  clear hi0 hz0 hz1 hz2
  have hgb8 : ((w8.alloc (os gu l)).alloc (.cells #[.int .u8 1] 5)).heap[gb]? = some (.cells (cellsOf (l ++ [true])) 5 (0, 0)) := (S8.out.alloc _).get (by simp)
  obtain ⟨X, hX⟩ : ∃ X, X = (cellsOf (l ++ [true])).toList := ⟨_, rfl⟩
  have hown : Hid (((w8.alloc (os gu l)).alloc (.cells #[.int .u8 1] 5)).ownsRow w.heap.size 5 1 (.slice (some ⟨gb, 0, none⟩) 524289 524289) 524289 X) := by
    have hsz : (cellsOf (l ++ [true])).size = 524289 * 1 := by rw [cellsOf_size, HPK.out]
    refine ⟨by rw [hX, Array.length_toList, hsz], .inr ⟨gb, 524289, cellsOf (l ++ [true]), rfl, hgw, hgb8, Nat.le_refl _, by unfold maxLen; omega, hsz, ?_⟩⟩
    rw [hX]
    exact List.take_of_length_le (by rw [Array.length_toList, hsz]; exact Nat.le_refl _)
  have hnews : Hid (∀ j u, [Value.int .u8 1][j]? = some u → ((w8.alloc (os gu l)).alloc (.cells #[.int .u8 1] 5)).cell? ((⟨w8.heap.size + 1, 0, none⟩ : Addr).add j) = some u) := by
    intro j u hu
    have hj : j = 0 := by have := (List.getElem?_eq_some_iff.1 hu).1; simpa using this
    subst hj
    simp at hu
    subst hu
    rw [add_off]
    exact cell_of_one (two_second w8 _ _)
  have hsz8 : w.heap.size ≤ ((w8.alloc (os gu l)).alloc (.cells #[.int .u8 1] 5)).heap.size := (S8.out.alloc (.cells #[.int .u8 1] 5)).2.2.size
  have HSZ := Lib.hid hsz8
  have HX := Lib.hid hX
  clear hX hsz8 hgb8
  go_wp2_with (first
    | (at_builtin; refine wpList_append_own _ rfl (.tmp 108) (.tmp 109) _ rfl w.heap.size 5 i1 (.int .u8 0) 1 1 Try.underlying22 I0.out I1.out I2.out I3.out rfl (by decide) _ 524289 X rfl hown.out ⟨w8.heap.size + 1, 0, none⟩ 1 1 [.int .u8 1] rfl rfl hnews.out (by simp [Value.oneCell']) (by unfold maxLen; omega) (by omega) HSZ.out ?_; intro v' wA hownA hgA _; obtain ⟨ga, ca, rfl, _, _⟩ := hownA.form (by omega)))
  have hgA' : ((w8.alloc (os gu l)).alloc (.cells #[.int .u8 1] 5)).grownBy wA (some gb) := hgA
  have S8' := S8.out.alloc (.cells #[.int .u8 1] 5)
  have q1 : wA.heap[w8.heap.size]? = some (os gu l) := blk_gb (S8'.get (by simp)) hgA' (by omega)
  have q2 : wA.heap[gu]? = some (ob l) := blk_gb (S8'.get (by simp)) hgA' (by omega)
  have q3 : wA.heap[w.heap.size]? = some (ob l) := blk_gb (S8'.get (by simp)) hgA' (by omega)
  have q4 : wA.heap[w.heap.size + 1]? = some (.cells #[.slice (some ⟨w.heap.size, 0, none⟩) 524288 524288, .int .i64 4194304] 24 (0, 0)) :=
    blk_gb (by have h := S8'.get (g := (w.alloc (ob l)).heap.size) (o := .cells #[.slice (some ⟨w.heap.size, 0, none⟩) 524288 524288, .int .i64 4194304] 24 (0, 0)) (by simp); simpa only [World.size_alloc] using h) hgA' (by omega)
  have hBA : Below w.heap.size w wA := S8'.2.2.grown hgA' S8'.2.2.size (by intro j hj; injection hj with hj; omega)
  have T0 := Lib.hid ((((Has.nil_ wA).cons q4).cons q3).cons q2 |>.cons q1)
  have HBA := Lib.hid hBA
  clear q1 q2 q3 q4 hBA S8' S8 hgA hgA' hownA hown hnews HSZ
  refine (unpack_long _ 524290 ca _ (by omega) (by omega)).mono ?_
  rintro e w9 ⟨rfl, hb⟩
  have T1 := Lib.hid (T0.out.below hb)
  have HB9 := Lib.hid (HBA.out.trans (hb.mono HBA.out.size))
  clear T0 HBA hb
  obtain ⟨u1, u2, _, _⟩ := cells_two (T1.out.get (g := w8.heap.size) (o := os gu l) (by simp))
  obtain ⟨m3, m4, _, _⟩ := cells_two (T1.out.get (g := w.heap.size + 1) (o := .cells #[.slice (some ⟨w.heap.size, 0, none⟩) 524288 524288, .int .i64 4194304] 24 (0, 0)) (by simp))
  go_wp2_with fail
  refine (same_any _ _ l l _ (own_st (T1.out.get (g := gu) (o := ob l) (by simp)) hhi) (HM.out _ (T1.out.get (by simp)))).mono ?_
  rintro e w10 ⟨rfl, hb⟩
  rw [show decide (l = l) = true from decide_eq_true rfl]
  have HB10 := Lib.hid (HB9.out.trans (hb.mono HB9.out.size))
  clear hb T1 u1 u2 m3 m4 HB9
  go_wp2_with fail
  refine (awake_any _).mono ?_
  rintro e w11 ⟨rfl, hb⟩
  go_wp2_with fail
  go_ret
  exact ⟨rfl, HB10.out.trans (hb.mono HB10.out.size)⟩
end Go.Proofs.Ytgljaimoaijcaaa
