/- Walks: fields and knots, laid and read. -/
import Derived.Test.YtgljaimoaijcaaaA7
import Derived.Lib.ItoaNum
namespace Go.Proofs.Ytgljaimoaijcaaa
open Go.RowKit

theorem div_zero_test (n W : Nat) (h : n < 2 ^ W) : ((n : Int) / 2 ^ W != 0) = false := by
  have e : (n : Int) / 2 ^ W = ((n / 2 ^ W : Nat) : Int) := by rw [Int.natCast_ediv, Int.natCast_pow]; rfl
  rw [e, Nat.div_eq_of_lt h]; rfl

set_option maxHeartbeats 1000000 in
theorem field_any (x : Value) (a : List Bool) (n W : Nat) (w : World) (hx : St w x a) (hW : W ≤ 64) (h : n < 2 ^ W) (hm : a.length + W ≤ 4194304) :
    Calls Try.prog 20 #[x, .int .u64 n, .int .i64 W] w (NewSt (a ++ digs n W) w) := by
  obtain ⟨A, c, rfl, hr, hm1⟩ := hx
  have HR := Lib.hid hr
  clear hr
  have hn : n < 18446744073709551616 := Nat.lt_of_lt_of_le h (by rw [show 18446744073709551616 = 2 ^ 64 from rfl]; exact Nat.pow_le_pow_right (by omega) hW)
  have hsh := div_zero_test n W h
  have d1 : decide ((W : Int) < 0) = false := by simp
  have d2 : decide ((64 : Int) < (W : Int)) = false := by simp; omega
  clear h
  go_enter Try.func20, Try.ntmps20
  go_wp2_with fail
  refine (right_yes A a _ _ _ _ ((HR.out.alloc _).alloc _) rfl rfl hm1).mono ?_
  rintro e w1 ⟨rfl, hb1⟩
  obtain ⟨hc, hf⟩ := old_cells hb1
  have hR1 := Lib.hid (((HR.out.alloc _).alloc _).below hb1)
  go_wp2_with fail
  refine (withDigits_any A a _ _ _ n W _ hR1.out rfl rfl hn (by omega) hm).mono ?_
  rintro e w2 ⟨g, rfl, ho, hg, hb2⟩
  clear hc hf hsh d1 d2
  have hB2 := next_below hb1 hb2
  obtain ⟨hc, hf⟩ := old_cells hB2
  have HO := Lib.hid ho
  have hz : w.heap.size + 2 ≤ w1.heap.size := by have := hb1.size; simp at this; omega
  clear ho
  generalize a ++ digs n W = l at *
  go_wp2_with fail
  have hne : g ≠ w.heap.size + 1 := by omega
  refine bodyPost_ret (v := .tuple #[.agg #[.slice (some ⟨g, 0, none⟩) (nB l) (nB l), .int .i64 (l.length : Nat)], .int .i64 0]) (by simp [results, Try.results20, go_sem, hc]) rfl ⟨g, _, rfl, ⟨rfl, (HO.out.far hne _).far hne _⟩, by omega, ?_⟩
  have h0 : Below w.heap.size w w2 := (((Below.refl _ _).alloc (Nat.le_refl _) _).alloc (by simp) _).trans (hB2.mono (by simp; omega))
  exact (h0.setCell (by show _ ≤ w.heap.size + 1; omega) _).setCell (by show _ ≤ w.heap.size + 1; omega) _

/-- The knot of a number. -/
def knot (n : Nat) : List Bool := digs (n + 1) (2 * Lib.bitLen (n + 1) - 1)

set_option maxHeartbeats 1000000 in
theorem knot_any (x : Value) (a : List Bool) (n : Nat) (w : World) (hx : St w x a) (hn : n < 18446744073709551615) (hm : a.length + 200 ≤ 4194304) :
    Calls Try.prog 22 #[x, .int .u64 n] w (NewSt (a ++ knot n) w) := by
  obtain ⟨A, c, rfl, hr, hm1⟩ := hx
  have HR := Lib.hid hr
  clear hr
  have hbl : Lib.bitLen (n + 1) ≤ 64 := Lib.bitLen_le _ _ (by omega) (by omega)
  have hbp : 1 ≤ Lib.bitLen (n + 1) := (Lib.bitLenAux_bounds 64 (n + 1) (by omega) (by omega)).1
  have HK : Hid (knot n = digs (n + 1) (2 * Lib.bitLen (n + 1) - 1)) := rfl
  have hlen : ∀ w : World, Calls Try.prog 48 #[.int .u64 ((n : Int) + 1)] w fun e w' => e = .returned (.int .i64 (Lib.bitLen (n + 1) : Nat)) ∧ w' = w := by
    intro w
    have h := len64 ((n : Int) + 1) w (by omega) (by omega)
    rw [show ((n : Int) + 1).toNat = n + 1 by omega] at h
    exact h
  have HL := Lib.hid hlen
  clear hlen
  generalize Lib.bitLen (n + 1) = k at *
  have d0 : ((n : Int) == 18446744073709551615) = false := by simp; omega
  go_enter Try.func22, Try.ntmps22
  go_wp2_with fail
  refine (right_yes A a _ _ _ _ ((HR.out.alloc _).alloc _) rfl rfl hm1).mono ?_
  rintro e w1 ⟨rfl, hb1⟩
  obtain ⟨hc, hf⟩ := old_cells hb1
  have hR1 := Lib.hid (((HR.out.alloc _).alloc _).below hb1)
  have hz : w.heap.size + 2 ≤ w1.heap.size := by have := hb1.size; simp at this; omega
  have hX : Hid (w1.heap[w.heap.size]? = some (.cells #[.slice A (nB a) c, .int .i64 (a.length : Nat)] 24 (0, 0))) := (hb1.block w.heap.size (by simp only [World.size_alloc]; omega)).trans (two_first w _ _)
  have hY : Hid (w1.heap[w.heap.size + 1]? = some (.cells #[.slice none 0 0, .int .i64 0] 24 (0, 0))) := (hb1.block (w.heap.size + 1) (by simp only [World.size_alloc]; omega)).trans (two_second w _ _)
  obtain ⟨x1, x2, _, _⟩ := cells_two hX.out
  have s1 : 0 ≤ 2 * (k : Int) := by omega
  have hz' : w.heap.size < w1.heap.size := by omega
  have hz'' : w.heap.size + 1 < w1.heap.size := by omega
  have s2 : 2 * (k : Int) ≤ 128 := by omega
  have s3 : 1 ≤ (k : Int) := by omega
  have hw : IntKind.u64.wrap ((n : Int) + 1) = (n : Int) + 1 := by simp [IntKind.wrap, IntKind.bits, IntKind.signed]; omega
  have hw2 : IntKind.i64.wrap (2 * (k : Int)) = 2 * (k : Int) := IntWalk.i64_in _ (by omega)
  have hw3 : IntKind.i64.wrap (2 * (k : Int) - 1) = 2 * (k : Int) - 1 := IntWalk.i64_in _ (by omega)
  have hWD : ∀ w' : World, Rd w' A a → Calls Try.prog 46 #[.agg #[.slice A (nB a) c, .int .i64 (a.length : Nat)], .int .u64 ((n : Int) + 1), .int .i64 (2 * (k : Int) - 1)] w'
      fun e w'' => ∃ g : Nat, e = .returned (.tuple #[.agg #[.slice (some ⟨g, 0, none⟩) (nB (a ++ digs (n + 1) (2 * k - 1))) (nB (a ++ digs (n + 1) (2 * k - 1))), .int .i64 ((a ++ digs (n + 1) (2 * k - 1)).length : Nat)], .int .i64 0]) ∧ Own w'' g (a ++ digs (n + 1) (2 * k - 1)) ∧ w'.heap.size ≤ g ∧ Below w'.heap.size w' w'' := by
    intro w' hr'
    have h := withDigits_any A a (nB a) c (a.length : Nat) (n + 1) (2 * k - 1) w' hr' rfl rfl (by omega) (by omega) (by omega)
    rw [show ((n + 1 : Nat) : Int) = (n : Int) + 1 by omega, show ((2 * k - 1 : Nat) : Int) = 2 * (k : Int) - 1 by omega] at h
    exact h
  have HW := Lib.hid hWD
  have HB1 := Lib.hid hb1
  clear hWD hn hm hc hf hb1
  generalize hl : a ++ digs (n + 1) (2 * k - 1) = l at *
  have HLL := Lib.hid hl
  clear hl
  obtain ⟨y1, y2, z1, z2⟩ := cells_two hY.out
  go_wp2_with fail
  go_region_held3 (fun w' => w'.cell? ⟨w.heap.size, 0, none⟩ = some (.slice A (nB a) c) ∧ w'.cell? ⟨w.heap.size, 1, none⟩ = some (.int .i64 (a.length : Nat)))
      (first | go_keep | exact ⟨x3, x4⟩)
      (first
       | (go_at_call 48; refine (HL.out _).mono ?_; rintro e w' ⟨rfl, rfl⟩)
       | (go_at_call 46; refine (HW.out _ hR1.out.drew).mono ?_; rintro e w2 ⟨g, rfl, ho, hg, hb2⟩; have hY2 := Lib.hid (blk_below (w := w1.drew) hY.out hb2); obtain ⟨x3, x4, _, _⟩ := cells_two (blk_below (w := w1.drew) hX.out hb2); obtain ⟨y3, y4, z3, z4⟩ := cells_two hY2.out))
  go_wp2_with fail
  have hne : g ≠ w.heap.size + 1 := by
    have : w1.heap.size ≤ g := hg
    omega
  refine bodyPost_ret (v := .tuple #[.agg #[.slice (some ⟨g, 0, none⟩) (nB l) (nB l), .int .i64 (l.length : Nat)], .int .i64 0]) (by simp [results, Try.results22, go_sem, y3, y4]) rfl ?_
  rw [HK.out, HLL.out]
  have hgg : w1.heap.size ≤ g := hg
  refine ⟨g, _, rfl, ⟨rfl, (ho.far hne _).far hne _⟩, by omega, ?_⟩
  have h0 : Below w.heap.size w w2 := ((((Below.refl _ _).alloc (Nat.le_refl _) _).alloc (by simp) _).trans (HB1.out.mono (by simp; omega))).drew.trans (hb2.mono (by show w.heap.size ≤ w1.heap.size; omega))
  exact (h0.setCell (by show _ ≤ w.heap.size + 1; omega) _).setCell (by show _ ≤ w.heap.size + 1; omega) _

set_option maxHeartbeats 1000000 in
theorem getField_ok (x : Value) (a : List Bool) (fr W : Nat) (w : World) (hx : St w x a) (hW : W ≤ 64) (h : fr + W ≤ a.length) :
    Calls Try.prog 26 #[x, .int .i64 fr, .int .i64 W] w fun e w' => e = .returned (.tuple #[.int .u64 (numAt a fr W : Nat), .int .i64 ((fr + W : Nat) : Int), .int .i64 0]) ∧ Below w.heap.size w w' := by
  obtain ⟨A, c, rfl, hr, hm1⟩ := hx
  have HR := Lib.hid hr
  clear hr
  have d1 : decide ((W : Int) < 0) = false := by simp
  have d2 : decide ((64 : Int) < (W : Int)) = false := by simp; omega
  have d3 : decide ((fr : Int) < 0) = false := by simp
  have d4 : decide (a.length < fr) = false := by simp; omega
  have d5 : decide ((a.length : Int) - fr < W) = false := by simp; omega
  go_enter Try.func26, Try.ntmps26
  go_wp2_with fail
  refine (right_yes A a _ _ _ _ (HR.out.alloc _) rfl rfl hm1).mono ?_
  rintro e w1 ⟨rfl, hb1⟩
  obtain ⟨hc, hf⟩ := old_cells hb1
  have hR1 := Lib.hid ((HR.out.alloc _).below hb1)
  go_wp2_with fail
  refine (digits_any A a _ _ _ fr W _ hR1.out rfl hW h hm1).mono ?_
  rintro e w2 ⟨rfl, hb2⟩
  go_wp2_with fail
  go_ret3
  exact ⟨by simp, ((Below.refl _ _).alloc (Nat.le_refl _) _).trans ((next_below hb1 hb2).mono (by simp))⟩

set_option maxHeartbeats 1000000 in
theorem getField_short (x : Value) (a : List Bool) (fr W : Nat) (w : World) (hx : St w x a) (hW : W ≤ 64) (h1 : fr ≤ a.length) (h : a.length < fr + W) :
    Calls Try.prog 26 #[x, .int .i64 fr, .int .i64 W] w fun e w' => e = .returned (.tuple #[.int .u64 0, .int .i64 0, .int .i64 10]) ∧ Below w.heap.size w w' := by
  obtain ⟨A, c, rfl, hr, hm1⟩ := hx
  have HR := Lib.hid hr
  clear hr
  have d1 : decide ((W : Int) < 0) = false := by simp
  have d2 : decide ((64 : Int) < (W : Int)) = false := by simp; omega
  have d3 : decide ((fr : Int) < 0) = false := by simp
  have d4 : decide (a.length < fr) = false := by simp; omega
  have d5 : decide ((a.length : Int) - fr < W) = true := by simp; omega
  go_enter Try.func26, Try.ntmps26
  go_wp2_with fail
  refine (right_yes A a _ _ _ _ (HR.out.alloc _) rfl rfl hm1).mono ?_
  rintro e w1 ⟨rfl, hb1⟩
  obtain ⟨hc, hf⟩ := old_cells hb1
  go_wp2_with fail
  go_ret3
  exact ⟨rfl, ((Below.refl _ _).alloc (Nat.le_refl _) _).trans (hb1.mono (by simp))⟩
end Go.Proofs.Ytgljaimoaijcaaa
