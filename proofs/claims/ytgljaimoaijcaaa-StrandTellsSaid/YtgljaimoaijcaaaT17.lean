/- The program's functions where the numbers are not as they must be; joined and packed, what is no strand. -/
import Derived.Test.YtgljaimoaijcaaaT16
namespace Go.Proofs.Ytgljaimoaijcaaa
open Go.RowKit

set_option maxHeartbeats 2000000 in
theorem notPack_any (p0 p1 : Value) (w : World)
    (HA : Hid (∀ w', Below w.heap.size w w' → Calls Try.prog 16 #[.agg #[p0, p1]] w' fun e w'' => e = .returned (.bool false) ∧ Below w'.heap.size w' w'')) :
    Calls Try.prog 30 #[.agg #[p0, p1]] w (fun e w' => e = .returned (.tuple #[.slice none 0 0, .int .i64 11]) ∧ Below w.heap.size w w') := by
  have hb0 : Below w.heap.size w (w.alloc (.cells #[p0, p1] 24)) := (Below.refl _ _).alloc (Nat.le_refl _) _
  go_enter Try.func30, Try.ntmps30
  go_wp2_with fail
  refine (HA.out _ hb0).mono ?_
  rintro e w1 ⟨rfl, hb1⟩
  obtain ⟨hc, hf⟩ := old_cells hb1
  have HB1 := Lib.hid (next_below hb0 hb1)
  clear hb0 hb1
  go_wp2_with fail
  exact bodyPost_ret (v := .tuple #[.slice none 0 0, .int .i64 11]) (by simp [results, Try.results30, go_sem]) rfl ⟨rfl, HB1.out⟩
set_option maxHeartbeats 2000000 in
theorem argCut_any (p0 : Value) (n : Nat) (fr tt : Int) (h : fr < 0 ∨ tt < fr ∨ (n : Int) < tt) (w : World)
    (HA : Hid (∀ w', Below w.heap.size w w' → Calls Try.prog 16 #[.agg #[p0, .int .i64 (n : Nat)]] w' fun e w'' => e = .returned (.bool true) ∧ Below w'.heap.size w' w'')) :
    Calls Try.prog 18 #[.agg #[p0, .int .i64 (n : Nat)], .int .i64 fr, .int .i64 tt] w (ErrSt 2 w) := by
  have hb0 : Below w.heap.size w ((w.alloc (.cells #[p0, .int .i64 (n : Nat)] 24)).alloc (.cells #[.slice none 0 0, .int .i64 0] 24)) := ((Below.refl _ _).alloc (Nat.le_refl _) _).alloc (by simp) _
  go_enter Try.func18, Try.ntmps18
  go_wp2_with fail
  refine (HA.out _ hb0).mono ?_
  rintro e w1 ⟨rfl, hb1⟩
  obtain ⟨hc, hf⟩ := old_cells hb1
  have HB1 := Lib.hid (next_below hb0 hb1)
  clear hb0 hb1
  by_cases c0 : fr < 0
  · have d0 : decide (fr < 0) = true := by simpa using c0
    clear h
    go_wp2_with fail
    refine bodyPost_ret (v := .tuple #[.agg #[.slice none 0 0, .int .i64 0], .int .i64 2]) (by simp [results, Try.results18, go_sem, hc]) rfl ⟨rfl, ?_⟩
    exact (HB1.out.setCell (by show _ ≤ w.heap.size + 1; omega) _).setCell (by show _ ≤ w.heap.size + 1; omega) _
  · have d0 : decide (fr < 0) = false := by simpa using c0
    by_cases c1 : tt < fr
    · have d1 : decide (tt < fr) = true := by simpa using c1
      clear h
      go_wp2_with fail
      refine bodyPost_ret (v := .tuple #[.agg #[.slice none 0 0, .int .i64 0], .int .i64 2]) (by simp [results, Try.results18, go_sem, hc]) rfl ⟨rfl, ?_⟩
      exact (HB1.out.setCell (by show _ ≤ w.heap.size + 1; omega) _).setCell (by show _ ≤ w.heap.size + 1; omega) _
    · have d1 : decide (tt < fr) = false := by simpa using c1
      have d2 : decide ((n : Int) < tt) = true := by simp; omega
      clear h
      go_wp2_with fail
      refine bodyPost_ret (v := .tuple #[.agg #[.slice none 0 0, .int .i64 0], .int .i64 2]) (by simp [results, Try.results18, go_sem, hc]) rfl ⟨rfl, ?_⟩
      exact (HB1.out.setCell (by show _ ≤ w.heap.size + 1; omega) _).setCell (by show _ ≤ w.heap.size + 1; omega) _
set_option maxHeartbeats 2000000 in
theorem argGetField_any (p0 : Value) (n : Nat) (at' wd : Int) (h : wd < 0 ∨ 64 < wd ∨ at' < 0 ∨ (n : Int) < at') (w : World)
    (HA : Hid (∀ w', Below w.heap.size w w' → Calls Try.prog 16 #[.agg #[p0, .int .i64 (n : Nat)]] w' fun e w'' => e = .returned (.bool true) ∧ Below w'.heap.size w' w'')) :
    Calls Try.prog 26 #[.agg #[p0, .int .i64 (n : Nat)], .int .i64 at', .int .i64 wd] w (fun e w' => e = .returned (.tuple #[.int .u64 0, .int .i64 0, .int .i64 2]) ∧ Below w.heap.size w w') := by
  have hb0 : Below w.heap.size w (w.alloc (.cells #[p0, .int .i64 (n : Nat)] 24)) := (Below.refl _ _).alloc (Nat.le_refl _) _
  go_enter Try.func26, Try.ntmps26
  go_wp2_with fail
  refine (HA.out _ hb0).mono ?_
  rintro e w1 ⟨rfl, hb1⟩
  obtain ⟨hc, hf⟩ := old_cells hb1
  have HB1 := Lib.hid (next_below hb0 hb1)
  clear hb0 hb1
  by_cases c0 : wd < 0
  · have d0 : decide (wd < 0) = true := by simpa using c0
    clear h
    go_wp2_with fail
    exact bodyPost_ret (v := .tuple #[.int .u64 0, .int .i64 0, .int .i64 2]) (by simp [results, Try.results26, go_sem]) rfl ⟨rfl, HB1.out⟩
  · have d0 : decide (wd < 0) = false := by simpa using c0
    by_cases c1 : 64 < wd
    · have d1 : decide (64 < wd) = true := by simpa using c1
      clear h
      go_wp2_with fail
      exact bodyPost_ret (v := .tuple #[.int .u64 0, .int .i64 0, .int .i64 2]) (by simp [results, Try.results26, go_sem]) rfl ⟨rfl, HB1.out⟩
    · have d1 : decide (64 < wd) = false := by simpa using c1
      by_cases c2 : at' < 0
      · have d2 : decide (at' < 0) = true := by simpa using c2
        clear h
        go_wp2_with fail
        exact bodyPost_ret (v := .tuple #[.int .u64 0, .int .i64 0, .int .i64 2]) (by simp [results, Try.results26, go_sem]) rfl ⟨rfl, HB1.out⟩
      · have d2 : decide (at' < 0) = false := by simpa using c2
        have d3 : decide ((n : Int) < at') = true := by simp; omega
        clear h
        go_wp2_with fail
        exact bodyPost_ret (v := .tuple #[.int .u64 0, .int .i64 0, .int .i64 2]) (by simp [results, Try.results26, go_sem]) rfl ⟨rfl, HB1.out⟩
set_option maxHeartbeats 2000000 in
theorem argGetKnot_any (p0 : Value) (n : Nat) (at' : Int) (h : at' < 0 ∨ (n : Int) < at') (w : World)
    (HA : Hid (∀ w', Below w.heap.size w w' → Calls Try.prog 16 #[.agg #[p0, .int .i64 (n : Nat)]] w' fun e w'' => e = .returned (.bool true) ∧ Below w'.heap.size w' w'')) :
    Calls Try.prog 28 #[.agg #[p0, .int .i64 (n : Nat)], .int .i64 at'] w (fun e w' => e = .returned (.tuple #[.int .u64 0, .int .i64 0, .int .i64 2]) ∧ Below w.heap.size w w') := by
  have hb0 : Below w.heap.size w (w.alloc (.cells #[p0, .int .i64 (n : Nat)] 24)) := (Below.refl _ _).alloc (Nat.le_refl _) _
  go_enter Try.func28, Try.ntmps28
  go_wp2_with fail
  refine (HA.out _ hb0).mono ?_
  rintro e w1 ⟨rfl, hb1⟩
  obtain ⟨hc, hf⟩ := old_cells hb1
  have HB1 := Lib.hid (next_below hb0 hb1)
  clear hb0 hb1
  by_cases c0 : at' < 0
  · have d0 : decide (at' < 0) = true := by simpa using c0
    clear h
    go_wp2_with fail
    exact bodyPost_ret (v := .tuple #[.int .u64 0, .int .i64 0, .int .i64 2]) (by simp [results, Try.results28, go_sem]) rfl ⟨rfl, HB1.out⟩
  · have d0 : decide (at' < 0) = false := by simpa using c0
    have d1 : decide ((n : Int) < at') = true := by simp; omega
    clear h
    go_wp2_with fail
    exact bodyPost_ret (v := .tuple #[.int .u64 0, .int .i64 0, .int .i64 2]) (by simp [results, Try.results28, go_sem]) rfl ⟨rfl, HB1.out⟩
set_option maxHeartbeats 2000000 in
theorem argKnot_any (p0 : Value) (n : Nat) (w : World)
    (HA : Hid (∀ w', Below w.heap.size w w' → Calls Try.prog 16 #[.agg #[p0, .int .i64 (n : Nat)]] w' fun e w'' => e = .returned (.bool true) ∧ Below w'.heap.size w' w'')) :
    Calls Try.prog 22 #[.agg #[p0, .int .i64 (n : Nat)], .int .u64 18446744073709551615] w (ErrSt 2 w) := by
  have hb0 : Below w.heap.size w ((w.alloc (.cells #[p0, .int .i64 (n : Nat)] 24)).alloc (.cells #[.slice none 0 0, .int .i64 0] 24)) := ((Below.refl _ _).alloc (Nat.le_refl _) _).alloc (by simp) _
  go_enter Try.func22, Try.ntmps22
  go_wp2_with fail
  refine (HA.out _ hb0).mono ?_
  rintro e w1 ⟨rfl, hb1⟩
  obtain ⟨hc, hf⟩ := old_cells hb1
  have HB1 := Lib.hid (next_below hb0 hb1)
  clear hb0 hb1
  go_wp2_with fail
  refine bodyPost_ret (v := .tuple #[.agg #[.slice none 0 0, .int .i64 0], .int .i64 2]) (by simp [results, Try.results22, go_sem, hc]) rfl ⟨rfl, ?_⟩
  exact (HB1.out.setCell (by show _ ≤ w.heap.size + 1; omega) _).setCell (by show _ ≤ w.heap.size + 1; omega) _
end Go.Proofs.Ytgljaimoaijcaaa
