/- Walks: knots are read; strands are packed. -/
import Derived.Test.YtgljaimoaijcaaaA8
namespace Go.Proofs.Ytgljaimoaijcaaa
open Go.RowKit

theorem numAt_pos (l : List Bool) (fr : Nat) (h : l.getD fr false = true) : ∀ i, 1 ≤ numAt l fr (i + 1)
  | 0 => by simp only [numAt, Nat.add_zero, h]; simp
  | i + 1 => by
    have := numAt_pos l fr h i
    rw [numAt]; omega

set_option maxHeartbeats 1000000 in
theorem getKnot_ok (x : Value) (a : List Bool) (fr k : Nat) (w : World) (hx : St w x a) (hk : k < 64) (h : fr + 2 * k + 1 ≤ a.length)
    (hz : ∀ i, i < k → a.getD (fr + i) false = false) (he : a.getD (fr + k) false = true) :
    Calls Try.prog 28 #[x, .int .i64 fr] w fun e w' => e = .returned (.tuple #[.int .u64 ((numAt a (fr + k) (k + 1) - 1 : Nat) : Int), .int .i64 ((fr + 2 * k + 1 : Nat) : Int), .int .i64 0]) ∧ Below w.heap.size w w' := by
  obtain ⟨A, c, rfl, hr, hm1⟩ := hx
  have HR := Lib.hid hr
  have HZ := Lib.hid hz
  have HE := Lib.hid he
  clear hr hz he
  have hp := numAt_pos a (fr + k) HE.out k
  have hq : numAt a (fr + k) (k + 1) < 18446744073709551616 := Nat.lt_of_lt_of_le (numAt_lt a (fr + k) (k + 1)) (by rw [show 18446744073709551616 = 2 ^ 64 from rfl]; exact Nat.pow_le_pow_right (by omega) (by omega))
  have d3 : decide ((fr : Int) < 0) = false := by simp
  have d4 : decide (a.length < fr) = false := by simp; omega
  have d5 : ((k : Int) == 64) = false := by simp; omega
  have d6 : decide ((a.length : Int) - fr < 2 * k + 1) = false := by simp; omega
  go_enter Try.func28, Try.ntmps28
  go_wp2_with fail
  refine (right_yes A a _ _ _ _ (HR.out.alloc _) rfl rfl hm1).mono ?_
  rintro e w1 ⟨rfl, hb1⟩
  obtain ⟨hc, hf⟩ := old_cells hb1
  have hR1 := Lib.hid ((HR.out.alloc _).below hb1)
  go_wp2_with fail
  refine (noughts_any A a _ _ fr k _ hR1.out rfl (by omega) hm1 (by omega) HZ.out (.inr HE.out)).mono ?_
  rintro e w2 ⟨rfl, hb2⟩
  clear hc hf
  have hB2 := next_below hb1 hb2
  have hR2 := Lib.hid (hR1.out.below hb2)
  obtain ⟨hc, hf⟩ := old_cells hB2
  go_wp2_with fail
  have hD := digits_any A a (nB a) c (a.length : Nat) (fr + k) (k + 1) w2 hR2.out rfl (by omega) (by omega) hm1
  rw [show ((fr + k : Nat) : Int) = (fr : Int) + k by omega, show ((k + 1 : Nat) : Int) = (k : Int) + 1 by omega] at hD
  generalize hqe : numAt a (fr + k) (k + 1) = q at *
  have HQ := Lib.hid hqe
  clear hqe
  refine hD.mono ?_
  clear hD
  rintro e w3 ⟨rfl, hb3⟩
  have e1 : (q : Int) - 1 = ((q - 1 : Nat) : Int) := by omega
  go_wp2_with fail
  go_ret3
  exact ⟨by rw [HQ.out]; simp, ((Below.refl _ _).alloc (Nat.le_refl _) _).trans ((next_below hB2 hb3).mono (by simp))⟩

set_option maxHeartbeats 1000000 in
theorem getKnot_short (x : Value) (a : List Bool) (fr k : Nat) (w : World) (hx : St w x a) (hk : k < 64) (h1 : fr + k ≤ a.length) (h : a.length < fr + 2 * k + 1)
    (hz : ∀ i, i < k → a.getD (fr + i) false = false) (he : fr + k = a.length ∨ a.getD (fr + k) false = true) :
    Calls Try.prog 28 #[x, .int .i64 fr] w fun e w' => e = .returned (.tuple #[.int .u64 0, .int .i64 0, .int .i64 10]) ∧ Below w.heap.size w w' := by
  obtain ⟨A, c, rfl, hr, hm1⟩ := hx
  have HR := Lib.hid hr
  have HZ := Lib.hid hz
  have he' : k = min 64 (a.length - fr) ∨ a.getD (fr + k) false = true := by
    rcases he with he | he
    · left; omega
    · right; exact he
  have HE := Lib.hid he'
  clear hr hz he he'
  have d3 : decide ((fr : Int) < 0) = false := by simp
  have d4 : decide (a.length < fr) = false := by simp; omega
  have d5 : ((k : Int) == 64) = false := by simp; omega
  have d6 : decide ((a.length : Int) - fr < 2 * k + 1) = true := by simp; omega
  go_enter Try.func28, Try.ntmps28
  go_wp2_with fail
  refine (right_yes A a _ _ _ _ (HR.out.alloc _) rfl rfl hm1).mono ?_
  rintro e w1 ⟨rfl, hb1⟩
  obtain ⟨hc, hf⟩ := old_cells hb1
  have hR1 := Lib.hid ((HR.out.alloc _).below hb1)
  go_wp2_with fail
  refine (noughts_any A a _ _ fr k _ hR1.out rfl (by omega) hm1 (by omega) HZ.out HE.out).mono ?_
  rintro e w2 ⟨rfl, hb2⟩
  clear hc hf
  have hB2 := next_below hb1 hb2
  obtain ⟨hc, hf⟩ := old_cells hB2
  go_wp2_with fail
  go_ret3
  exact ⟨rfl, ((Below.refl _ _).alloc (Nat.le_refl _) _).trans (hB2.mono (by simp))⟩

/-- What is behind a call that answers bytes in memory of their own. -/
def NewBy (l : List Bool) (w : World) (e : Ending) (w' : World) : Prop := ∃ g : Nat, e = .returned (.tuple #[.slice (some ⟨g, 0, none⟩) (nB l) (nB l), .int .i64 0]) ∧ Own w' g l ∧ w.heap.size ≤ g ∧ Below w.heap.size w w'

theorem set_last (a : List Bool) : (a ++ List.replicate 1 false).set a.length true = a ++ [true] := by
  simp

set_option maxHeartbeats 1000000 in
theorem pack_any (x : Value) (a : List Bool) (w : World) (hx : St w x a) :
    Calls Try.prog 30 #[x] w (NewBy (a ++ [true]) w) := by
  obtain ⟨A, c, rfl, hr, hm1⟩ := hx
  have HR := Lib.hid hr
  clear hr
  go_enter Try.func30, Try.ntmps30
  go_wp2_with fail
  refine (right_yes A a _ _ _ _ (HR.out.alloc _) rfl rfl hm1).mono ?_
  rintro e w1 ⟨rfl, hb1⟩
  obtain ⟨hc, hf⟩ := old_cells hb1
  have hR1 := Lib.hid ((HR.out.alloc _).below hb1)
  go_wp2_with fail
  refine (grown_any A a _ c 1 _ hR1.out rfl (by omega)).mono ?_
  rintro e w3 ⟨g, rfl, ho, hg, hb3⟩
  clear hc hf
  have HO := Lib.hid (ho.alloc (.cells #[.slice (some ⟨g, 0, none⟩) (nB (a ++ List.replicate 1 false)) (nB (a ++ List.replicate 1 false)), .int .i64 ((a.length : Int) + 1)] 24))
  have hB3 := (next_below hb1 hb3).alloc (next_below hb1 hb3).size (.cells #[.slice (some ⟨g, 0, none⟩) (nB (a ++ List.replicate 1 false)) (nB (a ++ List.replicate 1 false)), .int .i64 ((a.length : Int) + 1)] 24)
  obtain ⟨hc, hf⟩ := old_cells hB3
  have hz : w.heap.size + 1 ≤ w1.heap.size := by have := hb1.size; simp at this; omega
  have hgl := ho.lt
  have hz3 := hb3.size
  clear ho
  generalize hl0 : a ++ List.replicate 1 false = l0 at *
  have HL0 := Lib.hid hl0
  clear hl0
  generalize hN : nB l0 = N at *
  have hNN := Lib.hid hN.symm
  clear hN
  have hP := Lib.hid (heap_alloc_new w3 (.cells #[.slice (some ⟨g, 0, none⟩) N N, .int .i64 ((a.length : Int) + 1)] 24))
  have hlen0 : Hid (l0.length = a.length + 1) := by show _ = _; rw [← HL0.out]; simp
  go_wp2_with fail
  refine (set_at g l0 _ _ _ _ a.length _ rfl HO.out hNN.out (by rw [hlen0.out]; omega) (by rw [hlen0.out]; omega)).mono ?_
  rintro e w4 ⟨rfl, ho4, hg4⟩
  have HO4 := Lib.hid ho4
  clear ho4 hc hf
  obtain ⟨p1, p2, _, _⟩ := cells_two (blk_gb hP.out hg4 (by omega))
  have hgw : (w.alloc (Obj.cells #[Value.slice A (nB a) c, Value.int IntKind.i64 a.length] 24)).heap.size ≤ g := by simp; omega
  have hB4 := hB3.grown hg4 hB3.size (by intro j hj; injection hj with hj; omega)
  go_wp2_with fail
  go_ret2
  have hNe : N = nB (a ++ [true]) := by rw [hNN.out]; unfold nB; rw [hlen0.out]; simp
  have hO : Own w4 g (a ++ [true]) := by
    have h := HO4.out
    rw [← HL0.out, set_last] at h
    exact h
  exact ⟨g, by rw [hNe]; rfl, hO, by omega, ((Below.refl _ _).alloc (Nat.le_refl _) _).trans (hB4.mono (by simp))⟩
end Go.Proofs.Ytgljaimoaijcaaa
