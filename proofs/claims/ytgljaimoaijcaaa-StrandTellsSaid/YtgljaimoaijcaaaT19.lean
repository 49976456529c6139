/- The program's functions where a field's width is none. -/
import Derived.Test.YtgljaimoaijcaaaT18
namespace Go.Proofs.Ytgljaimoaijcaaa
open Go.RowKit

set_option maxHeartbeats 2000000 in
theorem argField_any (p0 : Value) (n m : Nat) (wd : Int) (h : wd < 0 ∨ 64 < wd) (w : World)
    (HA : Hid (∀ w', Below w.heap.size w w' → Calls Try.prog 16 #[.agg #[p0, .int .i64 (n : Nat)]] w' fun e w'' => e = .returned (.bool true) ∧ Below w'.heap.size w' w'')) :
    Calls Try.prog 20 #[.agg #[p0, .int .i64 (n : Nat)], .int .u64 m, .int .i64 wd] w (ErrSt 2 w) := by
  have hb0 : Below w.heap.size w ((w.alloc (.cells #[p0, .int .i64 (n : Nat)] 24)).alloc (.cells #[.slice none 0 0, .int .i64 0] 24)) := ((Below.refl _ _).alloc (Nat.le_refl _) _).alloc (by simp) _
  go_enter Try.func20, Try.ntmps20
  go_wp2_with fail
  refine (HA.out _ hb0).mono ?_
  rintro e w1 ⟨rfl, hb1⟩
  obtain ⟨hc, hf⟩ := old_cells hb1
  have HB1 := Lib.hid (next_below hb0 hb1)
  clear hb0 hb1
  by_cases c0 : wd < 0
  · have d0 : decide (wd < 0) = true := by simpa using c0
    clear h
    go_wp2_with fail
    refine bodyPost_ret (v := .tuple #[.agg #[.slice none 0 0, .int .i64 0], .int .i64 2]) (by simp [results, Try.results20, go_sem, hc]) rfl ⟨rfl, ?_⟩
    exact (HB1.out.setCell (by show _ ≤ w.heap.size + 1; omega) _).setCell (by show _ ≤ w.heap.size + 1; omega) _
  · have d0 : decide (wd < 0) = false := by simpa using c0
    have d1 : decide (64 < wd) = true := by simp; omega
    clear h
    go_wp2_with fail
    refine bodyPost_ret (v := .tuple #[.agg #[.slice none 0 0, .int .i64 0], .int .i64 2]) (by simp [results, Try.results20, go_sem, hc]) rfl ⟨rfl, ?_⟩
    exact (HB1.out.setCell (by show _ ≤ w.heap.size + 1; omega) _).setCell (by show _ ≤ w.heap.size + 1; omega) _
end Go.Proofs.Ytgljaimoaijcaaa
