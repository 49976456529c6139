/- The document's own answer: a field read. -/
import Derived.Test.YtgljaimoaijcaaaT11
namespace Go.Proofs.Ytgljaimoaijcaaa
open Go.RowKit

theorem numAt_cut (l : List Bool) (a w : Nat) : ∀ k, k ≤ w → numAt ((l.drop a).take w) 0 k = numAt l a k
  | 0, _ => rfl
  | k + 1, h => by
    rw [numAt, numAt, numAt_cut l a w k (by omega)]
    congr 2
    rw [Nat.zero_add]
    simp only [List.getD]
    rw [List.getElem?_take_of_lt (by omega), List.getElem?_drop]

set_option maxHeartbeats 2000000 in
theorem refGetField_no (p0 p1 : Value) (at' wd : Int) (w : World)
    (HA : Hid (∀ w', Below w.heap.size w w' → Calls Try.prog 13 #[.agg #[p0, p1]] w' fun e w'' => e = .returned (.tuple #[.string ⟨#[]⟩, .bool false]) ∧ Below w'.heap.size w' w'')) :
    Calls Try.prog 27 #[.agg #[p0, p1], .int .i64 at', .int .i64 wd] w fun e w' => e = .returned (.tuple #[.int .u64 0, .int .i64 0, .int .i64 11]) ∧ Below w.heap.size w w' := by
  have hb0 : Below w.heap.size w (w.alloc (.cells #[p0, p1] 24)) := (Below.refl _ _).alloc (Nat.le_refl _) _
  go_enter Try.func27, Try.ntmps27
  go_wp2_with fail
  refine (HA.out _ hb0).mono ?_
  rintro e w1 ⟨rfl, hb1⟩
  have HB1 := Lib.hid (next_below hb0 hb1)
  have HC1 := Lib.hid hb1
  clear hb0 hb1
  go_wp2_with fail
  exact bodyPost_ret (v := .tuple #[.int .u64 0, .int .i64 0, .int .i64 11]) (by simp [results, Try.results27, go_sem]) rfl ⟨rfl, HB1.out⟩
set_option maxHeartbeats 2000000 in
theorem refGetField_arg (p0 p1 : Value) (at' wd : Int) (s : ByteArray) (n : Nat) (hs : s.size = n) (h : wd < 0 ∨ 64 < wd ∨ at' < 0 ∨ (n : Int) < at') (w : World)
    (HA : Hid (∀ w', Below w.heap.size w w' → Calls Try.prog 13 #[.agg #[p0, p1]] w' fun e w'' => e = .returned (.tuple #[.string s, .bool true]) ∧ Below w'.heap.size w' w'')) :
    Calls Try.prog 27 #[.agg #[p0, p1], .int .i64 at', .int .i64 wd] w fun e w' => e = .returned (.tuple #[.int .u64 0, .int .i64 0, .int .i64 2]) ∧ Below w.heap.size w w' := by
  have hb0 : Below w.heap.size w (w.alloc (.cells #[p0, p1] 24)) := (Below.refl _ _).alloc (Nat.le_refl _) _
  go_enter Try.func27, Try.ntmps27
  go_wp2_with fail
  refine (HA.out _ hb0).mono ?_
  rintro e w1 ⟨rfl, hb1⟩
  have HB1 := Lib.hid (next_below hb0 hb1)
  have HC1 := Lib.hid hb1
  clear hb0 hb1
  by_cases h1 : wd < 0
  · have d1 : decide (wd < 0) = true := by simpa using h1
    clear h
    go_wp2_with fail
    exact bodyPost_ret (v := .tuple #[.int .u64 0, .int .i64 0, .int .i64 2]) (by simp [results, Try.results27, go_sem]) rfl ⟨rfl, HB1.out⟩
  · have d1 : decide (wd < 0) = false := by simpa using h1
    by_cases h2 : 64 < wd
    · have d2 : decide (64 < wd) = true := by simpa using h2
      clear h
      go_wp2_with fail
      exact bodyPost_ret (v := .tuple #[.int .u64 0, .int .i64 0, .int .i64 2]) (by simp [results, Try.results27, go_sem]) rfl ⟨rfl, HB1.out⟩
    · have d2 : decide (64 < wd) = false := by simpa using h2
      by_cases h3 : at' < 0
      · have d3 : decide (at' < 0) = true := by simpa using h3
        clear h
        go_wp2_with fail
        exact bodyPost_ret (v := .tuple #[.int .u64 0, .int .i64 0, .int .i64 2]) (by simp [results, Try.results27, go_sem]) rfl ⟨rfl, HB1.out⟩
      · have d3 : decide (at' < 0) = false := by simpa using h3
        have d4 : decide ((n : Int) < at') = true := by simp; omega
        clear h
        go_wp2_with fail
        exact bodyPost_ret (v := .tuple #[.int .u64 0, .int .i64 0, .int .i64 2]) (by simp [results, Try.results27, go_sem]) rfl ⟨rfl, HB1.out⟩
set_option maxHeartbeats 2000000 in
theorem refGetField_short (p0 p1 : Value) (at' wd : Nat) (s : ByteArray) (n : Nat) (hs : s.size = n) (h1 : wd ≤ 64) (h2 : at' ≤ n) (h3 : n < at' + wd) (w : World)
    (HA : Hid (∀ w', Below w.heap.size w w' → Calls Try.prog 13 #[.agg #[p0, p1]] w' fun e w'' => e = .returned (.tuple #[.string s, .bool true]) ∧ Below w'.heap.size w' w'')) :
    Calls Try.prog 27 #[.agg #[p0, p1], .int .i64 at', .int .i64 wd] w fun e w' => e = .returned (.tuple #[.int .u64 0, .int .i64 0, .int .i64 10]) ∧ Below w.heap.size w w' := by
  have hb0 : Below w.heap.size w (w.alloc (.cells #[p0, p1] 24)) := (Below.refl _ _).alloc (Nat.le_refl _) _
  go_enter Try.func27, Try.ntmps27
  go_wp2_with fail
  refine (HA.out _ hb0).mono ?_
  rintro e w1 ⟨rfl, hb1⟩
  have HB1 := Lib.hid (next_below hb0 hb1)
  have HC1 := Lib.hid hb1
  clear hb0 hb1
  have d4 : decide ((n : Int) - at' < wd) = true := by simp; omega
  go_wp2_with fail
  exact bodyPost_ret (v := .tuple #[.int .u64 0, .int .i64 0, .int .i64 10]) (by simp [results, Try.results27, go_sem]) rfl ⟨rfl, HB1.out⟩
set_option maxHeartbeats 2000000 in
theorem refGetField_yes (p0 p1 : Value) (at' wd : Nat) (l : List Bool) (hl : l.length ≤ 10000) (h1 : wd ≤ 64) (h2 : at' + wd ≤ l.length) (w : World)
    (HA : Hid (∀ w', Below w.heap.size w w' → Calls Try.prog 13 #[.agg #[p0, p1]] w' fun e w'' => e = .returned (.tuple #[.string (txt l), .bool true]) ∧ Below w'.heap.size w' w'')) :
    Calls Try.prog 27 #[.agg #[p0, p1], .int .i64 at', .int .i64 wd] w fun e w' => e = .returned (.tuple #[.int .u64 (numAt l at' wd : Nat), .int .i64 (at' + wd : Nat), .int .i64 0]) ∧ Below w.heap.size w w' := by
  have hb0 : Below w.heap.size w (w.alloc (.cells #[p0, p1] 24)) := (Below.refl _ _).alloc (Nat.le_refl _) _
  have hs := txt_size l
  have hlen : ((l.drop at').take wd).length = wd := by simp; omega
  have HT : Hid ((txt l).extract at' (at' + wd) = txt ((l.drop at').take wd)) := by show _ = _; rw [txt_cut, show at' + wd - at' = wd by omega]
  have CN : Hid (∀ w', Calls Try.prog 52 #[.string (txt ((l.drop at').take wd))] w' fun e w'' => e = .returned (.int .u64 (numAt l at' wd : Nat)) ∧ w'' = w') := Lib.hid (fun w' => by
    have h := refNumber_any ((l.drop at').take wd) w' (by omega)
    rw [hlen, numAt_cut l at' wd wd (Nat.le_refl _)] at h
    exact h)
  have d4 : decide ((l.length : Int) - at' < wd) = false := by simp; omega
  clear hlen
  generalize txt ((l.drop at').take wd) = r at *
  generalize numAt l at' wd = q at *
  generalize txt l = s at *
  go_enter Try.func27, Try.ntmps27
  go_wp2_with fail
  refine (HA.out _ hb0).mono ?_
  rintro e w1 ⟨rfl, hb1⟩
  have HB1 := Lib.hid (next_below hb0 hb1)
  have HC1 := Lib.hid hb1
  clear hb0 hb1
  go_wp2_with fail
  rw [HT.out]
  refine (CN.out w1).mono ?_
  rintro e w2 ⟨rfl, rfl⟩
  go_wp2_with fail
  exact bodyPost_ret (v := .tuple #[.int .u64 q, .int .i64 (at' + wd : Nat), .int .i64 0]) (by simp [results, Try.results27, go_sem]) rfl ⟨rfl, HB1.out⟩
end Go.Proofs.Ytgljaimoaijcaaa
