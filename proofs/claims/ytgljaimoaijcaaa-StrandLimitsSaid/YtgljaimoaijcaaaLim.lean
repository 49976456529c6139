/- Walks: knots that would be too long, bytes that are too many; a strand of as many bits as there may be. -/
import Derived.Test.YtgljaimoaijcaaaB7
namespace Go.Proofs.Ytgljaimoaijcaaa
open Go.RowKit

set_option maxRecDepth 100000 in
set_option maxHeartbeats 1000000 in
theorem unpack_long (A : Option Addr) (n c : Nat) (w : World) (h : 524289 < n) (h2 : n ≤ 9000000) :
    Calls Try.prog 24 #[.slice A n c] w (ErrSt 3 w) := by
  have d2 : decide ((524289 : Int) < (n : Int)) = true := by simp; omega
  clear h
  go_enter Try.func24, Try.ntmps24
  go_wp2_with fail
  refine bodyPost_ret (v := .tuple #[.agg #[.slice none 0 0, .int .i64 0], .int .i64 3]) (by simp [results, Try.results24, go_sem]) rfl ⟨rfl, ?_⟩
  first
    | exact (Below.refl _ _).alloc (Nat.le_refl _) _
    | exact (((Below.refl _ _).alloc (Nat.le_refl _) _).setCell (by show _ ≤ w.heap.size; omega) _).setCell (by show _ ≤ w.heap.size; omega) _

set_option maxHeartbeats 1000000 in
theorem knot_long (x : Value) (a : List Bool) (w : World) (hx : St w x a) (hm : 4194304 < a.length + 1) :
    Calls Try.prog 22 #[x, .int .u64 0] w (ErrSt 3 w) := by
  obtain ⟨A, c, rfl, hr, hm1⟩ := hx
  have HR := Lib.hid hr
  clear hr
  have hlen : ∀ w : World, Calls Try.prog 48 #[.int .u64 1] w fun e w' => e = .returned (.int .i64 1) ∧ w' = w := fun w => len64 1 w (by omega) (by omega)
  have HL := Lib.hid hlen
  clear hlen
  go_enter Try.func22, Try.ntmps22
  go_wp2_with fail
  refine (right_yes A a _ _ _ _ ((HR.out.alloc _).alloc _) rfl rfl hm1).mono ?_
  rintro e w1 ⟨rfl, hb1⟩
  obtain ⟨hc, hf⟩ := old_cells hb1
  have hz : w.heap.size + 2 ≤ w1.heap.size := by have := hb1.size; simp at this; omega
  have hX : Hid (w1.heap[w.heap.size]? = some (.cells #[.slice A (nB a) c, .int .i64 (a.length : Nat)] 24 (0, 0))) := (hb1.block w.heap.size (by simp only [World.size_alloc]; omega)).trans (two_first w _ _)
  have hY : Hid (w1.heap[w.heap.size + 1]? = some (.cells #[.slice none 0 0, .int .i64 0] 24 (0, 0))) := (hb1.block (w.heap.size + 1) (by simp only [World.size_alloc]; omega)).trans (two_second w _ _)
  obtain ⟨x1, x2, _, _⟩ := cells_two hX.out
  have hw0 : IntKind.u64.wrap 1 = 1 := by decide
  have hw2 : IntKind.i64.wrap 2 = 2 := by decide
  have hw3 : IntKind.i64.wrap 1 = 1 := by decide
  have hWD : ∀ w' : World, Calls Try.prog 46 #[.agg #[.slice A (nB a) c, .int .i64 (a.length : Nat)], .int .u64 1, .int .i64 1] w' (ErrSt 3 w') :=
    fun w' => withDigits_long A a (nB a) c (a.length : Nat) 1 1 w' rfl (by omega) hm1 hm
  have HW := Lib.hid hWD
  have HB1 := Lib.hid hb1
  clear hWD hm hc hf hb1
  obtain ⟨y1, y2, z1, z2⟩ := cells_two hY.out
  go_wp2_with fail
  go_region_held3 (fun w' => w'.cell? ⟨w.heap.size, 0, none⟩ = some (.slice A (nB a) c) ∧ w'.cell? ⟨w.heap.size, 1, none⟩ = some (.int .i64 (a.length : Nat)))
      (first | go_keep | exact ⟨x3, x4⟩)
      (first
       | (go_at_call 48; refine (HL.out _).mono ?_; rintro e w' ⟨rfl, rfl⟩)
       | (go_at_call 46; refine (HW.out _).mono ?_; rintro e w2 ⟨rfl, hb2⟩; have hY2 := Lib.hid (blk_below (w := w1.drew) hY.out hb2); obtain ⟨x3, x4, _, _⟩ := cells_two (blk_below (w := w1.drew) hX.out hb2); obtain ⟨y3, y4, z3, z4⟩ := cells_two hY2.out))
  go_wp2_with fail
  refine bodyPost_ret (v := .tuple #[.agg #[.slice none 0 0, .int .i64 0], .int .i64 3]) (by simp [results, Try.results22, go_sem, y3, y4]) rfl ⟨rfl, ?_⟩
  have h0 : Below w.heap.size w w2 := ((((Below.refl _ _).alloc (Nat.le_refl _) _).alloc (by simp) _).trans (HB1.out.mono (by simp; omega))).drew.trans (hb2.mono (by show w.heap.size ≤ w1.heap.size; omega))
  exact (h0.setCell (by show _ ≤ w.heap.size + 1; omega) _).setCell (by show _ ≤ w.heap.size + 1; omega) _

/-- Zeros, and one byte behind them, are the bytes of a strand. -/
theorem zeros_strand (n : Nat) (z : Nat) (hz : z < 256) (hn : n ≤ 524287) :
    ∃ l : List Bool, l.length = 8 * n + 8 ∧ cellsOf l = (madeCells #[.int .u8 0] (n + 1)).setIfInBounds n (.int .u8 (z : Nat)) := by
  have hx : isBytes (List.replicate n 0 ++ [(z : Int)]) := by
    intro x hx
    rcases List.mem_append.1 hx with h | h
    · rw [List.eq_of_mem_replicate h]; omega
    · simp at h; omega
  have hr : rightB (List.replicate n 0 ++ [(z : Int)]) ((8 * n + 8 : Nat) : Int) = true := by
    unfold rightB
    rw [Bool.and_eq_true]
    constructor
    · apply decide_eq_true
      refine ⟨by omega, by omega, ?_⟩
      rw [List.length_append, List.length_replicate]; simp; omega
    · rw [Bool.or_eq_true]; left; apply beq_iff_eq.2; omega
  obtain ⟨l, hL, _, hlen, hq⟩ := rightB_bits _ _ hx hr
  have hl : l.length = 8 * n + 8 := by omega
  have hN : nB l = n + 1 := by unfold nB; omega
  refine ⟨l, hl, ?_⟩
  apply Array.ext
  · simp [cellsOf_size, hN, size_madeCells]
  · intro q h1 h2
    have hqn : q < nB l := by simpa [cellsOf_size] using h1
    have hb := hq q hqn
    have e1 : (cellsOf l)[q] = by8 (byteOf l q) := by simp [cellsOf]
    rw [e1, Array.getElem_setIfInBounds (by simpa [size_madeCells, hN] using hqn)]
    split
    · rename_i e; subst e
      rw [List.getElem?_append_right (by simp)] at hb
      simp at hb
      unfold by8
      rw [← hb]
    · rename_i e
      rw [List.getElem?_append_left (by simp; omega)] at hb
      have hqn' : q < n := by omega
      simp [hqn'] at hb
      have hz0 : byteOf l q = 0 := by omega
      have e2 : (madeCells #[Value.int .u8 0] (n + 1)).toList[q]'(by simp [size_madeCells]; omega) = .int .u8 0 := by
        simp [toList_madeCells_one]
      rw [hz0]
      unfold by8
      simpa using e2.symm
end Go.Proofs.Ytgljaimoaijcaaa
