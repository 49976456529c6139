/- The program's functions where a number is too great for its field, and where a knot begins with too many noughts. -/
import Derived.Test.YtgljaimoaijcaaaT19
namespace Go.Proofs.Ytgljaimoaijcaaa
open Go.RowKit

theorem div_one_test (n W : Nat) (h : 2 ^ W ≤ n) : ((n : Int) / 2 ^ W != 0) = true := by
  have e : (n : Int) / 2 ^ W = ((n / 2 ^ W : Nat) : Int) := by rw [Int.natCast_ediv, Int.natCast_pow]; rfl
  have p : 0 < n / 2 ^ W := Nat.div_pos h (Nat.two_pow_pos W)
  rw [e]
  simp only [bne_iff_ne, ne_eq]
  omega

set_option maxHeartbeats 2000000 in
theorem bigField_any (p0 : Value) (n m wd : Nat) (h1 : wd ≤ 64) (h : 2 ^ wd ≤ m) (hm : m < 18446744073709551616) (w : World)
    (HA : Hid (∀ w', Below w.heap.size w w' → Calls Try.prog 16 #[.agg #[p0, .int .i64 (n : Nat)]] w' fun e w'' => e = .returned (.bool true) ∧ Below w'.heap.size w' w'')) :
    Calls Try.prog 20 #[.agg #[p0, .int .i64 (n : Nat)], .int .u64 m, .int .i64 wd] w (ErrSt 2 w) := by
  have hb0 : Below w.heap.size w ((w.alloc (.cells #[p0, .int .i64 (n : Nat)] 24)).alloc (.cells #[.slice none 0 0, .int .i64 0] 24)) := ((Below.refl _ _).alloc (Nat.le_refl _) _).alloc (by simp) _
  have hsh := div_one_test m wd h
  have d0 : decide ((wd : Int) < 0) = false := by simp
  have d1 : decide ((64 : Int) < (wd : Int)) = false := by simp; omega
  clear h
  go_enter Try.func20, Try.ntmps20
  go_wp2_with fail
  refine (HA.out _ hb0).mono ?_
  rintro e w1 ⟨rfl, hb1⟩
  obtain ⟨hc, hf⟩ := old_cells hb1
  have HB1 := Lib.hid (next_below hb0 hb1)
  clear hb0 hb1
  go_wp2_with fail
  refine bodyPost_ret (v := .tuple #[.agg #[.slice none 0 0, .int .i64 0], .int .i64 2]) (by simp [results, Try.results20, go_sem, hc]) rfl ⟨rfl, ?_⟩
  exact (HB1.out.setCell (by show _ ≤ w.heap.size + 1; omega) _).setCell (by show _ ≤ w.heap.size + 1; omega) _

set_option maxHeartbeats 2000000 in
theorem farGetKnot_any (x : Value) (a : List Bool) (fr : Nat) (w : World) (hx : St w x a) (h1 : fr + 64 ≤ a.length)
    (hz : ∀ i, i < 64 → a.getD (fr + i) false = false) :
    Calls Try.prog 28 #[x, .int .i64 fr] w fun e w' => e = .returned (.tuple #[.int .u64 0, .int .i64 0, .int .i64 12]) ∧ Below w.heap.size w w' := by
  obtain ⟨A, c, rfl, hr, hm1⟩ := hx
  have HR := Lib.hid hr
  have HZ := Lib.hid hz
  have he' : 64 = min 64 (a.length - fr) ∨ a.getD (fr + 64) false = true := by left; omega
  have HE := Lib.hid he'
  clear hr hz he'
  have d3 : decide ((fr : Int) < 0) = false := by simp
  have d4 : decide (a.length < fr) = false := by simp; omega
  go_enter Try.func28, Try.ntmps28
  go_wp2_with fail
  refine (right_yes A a _ _ _ _ (HR.out.alloc _) rfl rfl hm1).mono ?_
  rintro e w1 ⟨rfl, hb1⟩
  obtain ⟨hc, hf⟩ := old_cells hb1
  have hR1 := Lib.hid ((HR.out.alloc _).below hb1)
  go_wp2_with fail
  refine (noughts_any A a _ _ fr 64 _ hR1.out rfl (by omega) hm1 (by omega) HZ.out HE.out).mono ?_
  rintro e w2 ⟨rfl, hb2⟩
  clear hc hf
  have hB2 := next_below hb1 hb2
  obtain ⟨hc, hf⟩ := old_cells hB2
  go_wp2_with fail
  go_ret3
  exact ⟨rfl, ((Below.refl _ _).alloc (Nat.le_refl _) _).trans (hB2.mono (by simp))⟩
end Go.Proofs.Ytgljaimoaijcaaa
