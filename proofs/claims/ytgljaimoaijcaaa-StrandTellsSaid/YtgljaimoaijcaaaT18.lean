/- The program's functions joined, what is no strand; a field that is too short. -/
import Derived.Test.YtgljaimoaijcaaaT17
namespace Go.Proofs.Ytgljaimoaijcaaa
open Go.RowKit

set_option maxHeartbeats 2000000 in
theorem shortGetField_any (p0 : Value) (n at' wd : Nat) (hw : wd ≤ 64) (h1 : at' ≤ n) (h2 : n < at' + wd) (w : World)
    (HA : Hid (∀ w', Below w.heap.size w w' → Calls Try.prog 16 #[.agg #[p0, .int .i64 (n : Nat)]] w' fun e w'' => e = .returned (.bool true) ∧ Below w'.heap.size w' w'')) :
    Calls Try.prog 26 #[.agg #[p0, .int .i64 (n : Nat)], .int .i64 at', .int .i64 wd] w (fun e w' => e = .returned (.tuple #[.int .u64 0, .int .i64 0, .int .i64 10]) ∧ Below w.heap.size w w') := by
  have hb0 : Below w.heap.size w (w.alloc (.cells #[p0, .int .i64 (n : Nat)] 24)) := (Below.refl _ _).alloc (Nat.le_refl _) _
  go_enter Try.func26, Try.ntmps26
  go_wp2_with fail
  refine (HA.out _ hb0).mono ?_
  rintro e w1 ⟨rfl, hb1⟩
  obtain ⟨hc, hf⟩ := old_cells hb1
  have HB1 := Lib.hid (next_below hb0 hb1)
  clear hb0 hb1
  have d1 : decide ((n : Int) - at' < wd) = true := by simp; omega
  go_wp2_with fail
  exact bodyPost_ret (v := .tuple #[.int .u64 0, .int .i64 0, .int .i64 10]) (by simp [results, Try.results26, go_sem]) rfl ⟨rfl, HB1.out⟩
set_option maxHeartbeats 2000000 in
theorem notJoin1_any (p0 p1 q0 q1 : Value) (w : World)
    (HA : Hid (∀ w', Below w.heap.size w w' → Calls Try.prog 16 #[.agg #[p0, p1]] w' fun e w'' => e = .returned (.bool false) ∧ Below w'.heap.size w' w'')) :
    Calls Try.prog 14 #[.agg #[p0, p1], .agg #[q0, q1]] w (ErrSt 11 w) := by
  have hb0 : Below w.heap.size w (((w.alloc (.cells #[p0, p1] 24)).alloc (.cells #[q0, q1] 24)).alloc (.cells #[.slice none 0 0, .int .i64 0] 24)) := (((Below.refl _ _).alloc (Nat.le_refl _) _).alloc (by simp) _).alloc (by simp; omega) _
  go_enter Try.func14, Try.ntmps14
  go_wp2_with fail
  refine (HA.out _ hb0).mono ?_
  rintro e w1 ⟨rfl, hb1⟩
  obtain ⟨hc, hf⟩ := old_cells hb1
  have HB1 := Lib.hid (next_below hb0 hb1)
  clear hb0 hb1
  go_wp2_with fail
  refine bodyPost_ret (v := .tuple #[.agg #[.slice none 0 0, .int .i64 0], .int .i64 11]) (by simp [results, Try.results14, go_sem, hc]) rfl ⟨rfl, ?_⟩
  exact (HB1.out.setCell (by show _ ≤ w.heap.size + 1 + 1; omega) _).setCell (by show _ ≤ w.heap.size + 1 + 1; omega) _
set_option maxHeartbeats 2000000 in
theorem notJoin2_any (p0 p1 q0 q1 : Value) (w : World)
    (HA : Hid (∀ w', Below w.heap.size w w' → Calls Try.prog 16 #[.agg #[p0, p1]] w' fun e w'' => e = .returned (.bool true) ∧ Below w'.heap.size w' w''))
    (HB : Hid (∀ w', Below w.heap.size w w' → Calls Try.prog 16 #[.agg #[q0, q1]] w' fun e w'' => e = .returned (.bool false) ∧ Below w'.heap.size w' w'')) :
    Calls Try.prog 14 #[.agg #[p0, p1], .agg #[q0, q1]] w (ErrSt 11 w) := by
  have hb0 : Below w.heap.size w (((w.alloc (.cells #[p0, p1] 24)).alloc (.cells #[q0, q1] 24)).alloc (.cells #[.slice none 0 0, .int .i64 0] 24)) := (((Below.refl _ _).alloc (Nat.le_refl _) _).alloc (by simp) _).alloc (by simp; omega) _
  go_enter Try.func14, Try.ntmps14
  go_wp2_with fail
  refine (HA.out _ hb0).mono ?_
  rintro e w1 ⟨rfl, hb1⟩
  obtain ⟨hc, hf⟩ := old_cells hb1
  have HB1 := Lib.hid (next_below hb0 hb1)
  have HC1 := Lib.hid hb1
  clear hb0 hb1
  go_wp2_with fail
  refine (HB.out w1 HB1.out).mono ?_
  rintro e w2 ⟨rfl, hb2⟩
  have HC2 := Lib.hid (next_below HC1.out hb2)
  have HB2 := Lib.hid (next_below HB1.out hb2)
  clear hb2 hc hf
  obtain ⟨hc, hf⟩ := old_cells HC2.out
  go_wp2_with fail
  refine bodyPost_ret (v := .tuple #[.agg #[.slice none 0 0, .int .i64 0], .int .i64 11]) (by simp [results, Try.results14, go_sem, hc]) rfl ⟨rfl, ?_⟩
  exact (HB2.out.setCell (by show _ ≤ w.heap.size + 1 + 1; omega) _).setCell (by show _ ≤ w.heap.size + 1 + 1; omega) _
end Go.Proofs.Ytgljaimoaijcaaa
