/- The document's own answer: a field behind a strand. -/
import Derived.Test.YtgljaimoaijcaaaT12
namespace Go.Proofs.Ytgljaimoaijcaaa
open Go.RowKit

/-- How many binary digits a number has. -/
def blen (n : Nat) : Nat := if n = 0 then 0 else lead (n - 1) + 1
theorem blen_ok (n : Nat) (hn : n < 18446744073709551616) : n < 2 ^ blen n ∧ blen n ≤ 64 ∧ ∀ k, k < blen n → n / 2 ^ k ≠ 0 := by
  unfold blen
  by_cases h0 : n = 0
  · subst h0; simp
  · rw [if_neg h0]
    have h := lead_bounds (n - 1) (by omega)
    rw [show n - 1 + 1 = n by omega] at h
    refine ⟨h.2.1, by omega, ?_⟩
    intro k hk hz
    have h1 : 2 ^ k ≤ n := Nat.le_trans (Nat.pow_le_pow_right (by omega) (by omega)) h.1
    have h2 : 0 < 2 ^ k := Nat.pow_pos (by omega)
    have := Nat.div_pos h1 h2
    omega
theorem refDigits_all (n : Nat) (w : World) (hn : n < 18446744073709551616) :
    Calls Try.prog 47 #[.int .u64 n, .int .i64 0] w fun e w' => e = .returned (.string (txt (digs n (blen n)))) ∧ Below w.heap.size w w' := by
  have h := blen_ok n hn
  exact refDigits_any n 0 (blen n) w hn (by omega) (by omega) h.1 (by omega) (fun k hk _ => h.2.2 k hk)
theorem refDigits_wide (n wd : Nat) (w : World) (hn : n < 18446744073709551616) (h : blen n ≤ wd) (hw : wd ≤ 64) :
    Calls Try.prog 47 #[.int .u64 n, .int .i64 wd] w fun e w' => e = .returned (.string (txt (digs n wd))) ∧ Below w.heap.size w w' :=
  refDigits_any n wd wd w hn (by omega) (by omega) (Nat.lt_of_lt_of_le (blen_ok n hn).1 (Nat.pow_le_pow_right (by omega) h)) (by omega) (fun k hk h => by omega)

set_option maxHeartbeats 2000000 in
theorem refField_no (p0 p1 : Value) (n : Nat) (wd : Int) (w : World)
    (HA : Hid (∀ w', Below w.heap.size w w' → Calls Try.prog 13 #[.agg #[p0, p1]] w' fun e w'' => e = .returned (.tuple #[.string ⟨#[]⟩, .bool false]) ∧ Below w'.heap.size w' w'')) :
    Calls Try.prog 21 #[.agg #[p0, p1], .int .u64 n, .int .i64 wd] w (ErrSt 11 w) := by
  have hb0 : Below w.heap.size w ((w.alloc (.cells #[p0, p1] 24)).alloc (.cells #[.slice none 0 0, .int .i64 0] 24)) := ((Below.refl _ _).alloc (Nat.le_refl _) _).alloc (by simp) _
  go_enter Try.func21, Try.ntmps21
  go_wp2_with fail
  refine (HA.out _ hb0).mono ?_
  rintro e w1 ⟨rfl, hb1⟩
  obtain ⟨hc, hf⟩ := old_cells hb1
  have HB1 := Lib.hid (next_below hb0 hb1)
  have HC1 := Lib.hid hb1
  clear hb0 hb1
  go_wp2_with fail
  refine bodyPost_ret (v := .tuple #[.agg #[.slice none 0 0, .int .i64 0], .int .i64 11]) (by simp [results, Try.results21, go_sem, hc]) rfl ⟨rfl, ?_⟩
  exact (HB1.out.setCell (by show _ ≤ w.heap.size + 1; omega) _).setCell (by show _ ≤ w.heap.size + 1; omega) _
set_option maxHeartbeats 2000000 in
theorem refField_arg (p0 p1 : Value) (n : Nat) (wd : Int) (s : ByteArray) (h : wd < 0 ∨ 64 < wd) (w : World)
    (HA : Hid (∀ w', Below w.heap.size w w' → Calls Try.prog 13 #[.agg #[p0, p1]] w' fun e w'' => e = .returned (.tuple #[.string s, .bool true]) ∧ Below w'.heap.size w' w'')) :
    Calls Try.prog 21 #[.agg #[p0, p1], .int .u64 n, .int .i64 wd] w (ErrSt 2 w) := by
  have hb0 : Below w.heap.size w ((w.alloc (.cells #[p0, p1] 24)).alloc (.cells #[.slice none 0 0, .int .i64 0] 24)) := ((Below.refl _ _).alloc (Nat.le_refl _) _).alloc (by simp) _
  go_enter Try.func21, Try.ntmps21
  go_wp2_with fail
  refine (HA.out _ hb0).mono ?_
  rintro e w1 ⟨rfl, hb1⟩
  obtain ⟨hc, hf⟩ := old_cells hb1
  have HB1 := Lib.hid (next_below hb0 hb1)
  have HC1 := Lib.hid hb1
  clear hb0 hb1
  by_cases h1 : wd < 0
  · have d1 : decide (wd < 0) = true := by simpa using h1
    clear h
    go_wp2_with fail
    refine bodyPost_ret (v := .tuple #[.agg #[.slice none 0 0, .int .i64 0], .int .i64 2]) (by simp [results, Try.results21, go_sem, hc]) rfl ⟨rfl, ?_⟩
    exact (HB1.out.setCell (by show _ ≤ w.heap.size + 1; omega) _).setCell (by show _ ≤ w.heap.size + 1; omega) _
  · have d1 : decide (wd < 0) = false := by simpa using h1
    have d2 : decide (64 < wd) = true := by simp; omega
    clear h
    go_wp2_with fail
    refine bodyPost_ret (v := .tuple #[.agg #[.slice none 0 0, .int .i64 0], .int .i64 2]) (by simp [results, Try.results21, go_sem, hc]) rfl ⟨rfl, ?_⟩
    exact (HB1.out.setCell (by show _ ≤ w.heap.size + 1; omega) _).setCell (by show _ ≤ w.heap.size + 1; omega) _
set_option maxHeartbeats 2000000 in
theorem refField_long (p0 p1 : Value) (n wd : Nat) (s : ByteArray) (hn : n < 18446744073709551616) (hw : wd ≤ 64) (h : wd < blen n) (w : World)
    (HA : Hid (∀ w', Below w.heap.size w w' → Calls Try.prog 13 #[.agg #[p0, p1]] w' fun e w'' => e = .returned (.tuple #[.string s, .bool true]) ∧ Below w'.heap.size w' w'')) :
    Calls Try.prog 21 #[.agg #[p0, p1], .int .u64 n, .int .i64 wd] w (ErrSt 2 w) := by
  have hb0 : Below w.heap.size w ((w.alloc (.cells #[p0, p1] 24)).alloc (.cells #[.slice none 0 0, .int .i64 0] 24)) := ((Below.refl _ _).alloc (Nat.le_refl _) _).alloc (by simp) _
  have hs3 := txt_size (digs n (blen n))
  rw [digs_length] at hs3
  have hbl := (blen_ok n hn).2.1
  have CD := Lib.hid (fun w' => refDigits_all n w' hn)
  clear hn
  generalize txt (digs n (blen n)) = d at *
  generalize blen n = K at *
  go_enter Try.func21, Try.ntmps21
  go_wp2_with fail
  refine (HA.out _ hb0).mono ?_
  rintro e w1 ⟨rfl, hb1⟩
  obtain ⟨hc, hf⟩ := old_cells hb1
  have HB1 := Lib.hid (next_below hb0 hb1)
  have HC1 := Lib.hid hb1
  clear hb0 hb1
  go_wp2_with fail
  refine (CD.out w1).mono ?_
  rintro e w2 ⟨rfl, hb2⟩
  have HB2 := Lib.hid (next_below HB1.out hb2)
  have HC2 := Lib.hid (next_below HC1.out hb2)
  clear hc hf hb2 HB1 HC1
  obtain ⟨hc, hf⟩ := old_cells HC2.out
  go_wp2_with fail
  refine bodyPost_ret (v := .tuple #[.agg #[.slice none 0 0, .int .i64 0], .int .i64 2]) (by simp [results, Try.results21, go_sem, hc]) rfl ⟨rfl, ?_⟩
  exact (HB2.out.setCell (by show _ ≤ w.heap.size + 1; omega) _).setCell (by show _ ≤ w.heap.size + 1; omega) _
set_option maxHeartbeats 2000000 in
theorem refField_yes (p0 p1 : Value) (n wd : Nat) (l : List Bool) (hl : l.length ≤ 10000) (hn : n < 18446744073709551616) (hw : wd ≤ 64) (h : blen n ≤ wd) (w : World)
    (HA : Hid (∀ w', Below w.heap.size w w' → Calls Try.prog 13 #[.agg #[p0, p1]] w' fun e w'' => e = .returned (.tuple #[.string (txt l), .bool true]) ∧ Below w'.heap.size w' w'')) :
    Calls Try.prog 21 #[.agg #[p0, p1], .int .u64 n, .int .i64 wd] w (NewSt (l ++ digs n wd) w) := by
  have hb0 : Below w.heap.size w ((w.alloc (.cells #[p0, p1] 24)).alloc (.cells #[.slice none 0 0, .int .i64 0] 24)) := ((Below.refl _ _).alloc (Nat.le_refl _) _).alloc (by simp) _
  have hs3 := txt_size (digs n (blen n))
  rw [digs_length] at hs3
  have hbl := (blen_ok n hn).2.1
  have CD := Lib.hid (fun w' => refDigits_all n w' hn)
  have hs := txt_size l
  have hs2 := txt_size (digs n wd)
  rw [digs_length] at hs2
  have HT := Lib.hid (txt_append l (digs n wd))
  have CO := Lib.hid (fun w' => refOf_any (l ++ digs n wd) w' (by simp [digs_length]; omega))
  have CW := Lib.hid (fun w' => refDigits_wide n wd w' hn h hw)
  clear hn
  generalize txt (digs n (blen n)) = d at *
  generalize blen n = K at *
  generalize txt l = s at *
  generalize txt (digs n wd) = t at *
  go_enter Try.func21, Try.ntmps21
  go_wp2_with fail
  refine (HA.out _ hb0).mono ?_
  rintro e w1 ⟨rfl, hb1⟩
  obtain ⟨hc, hf⟩ := old_cells hb1
  have HB1 := Lib.hid (next_below hb0 hb1)
  have HC1 := Lib.hid hb1
  clear hb0 hb1
  go_wp2_with fail
  refine (CD.out w1).mono ?_
  rintro e w2 ⟨rfl, hb2⟩
  have HB2 := Lib.hid (next_below HB1.out hb2)
  have HC2 := Lib.hid (next_below HC1.out hb2)
  clear hc hf hb2 HB1 HC1
  obtain ⟨hc, hf⟩ := old_cells HC2.out
  go_wp2_with fail
  refine (CW.out w2).mono ?_
  rintro e w3 ⟨rfl, hb3⟩
  have HB3 := Lib.hid (next_below HB2.out hb3)
  have HC3 := Lib.hid (next_below HC2.out hb3)
  clear hc hf hb3 HB2 HC2
  obtain ⟨hc, hf⟩ := old_cells HC3.out
  go_wp2_with fail
  rw [← HT.out]
  refine (CO.out w3).mono ?_
  rintro e w4 ⟨g, v, rfl, ⟨rfl, hO⟩, hg, hb4⟩
  have hC4 := next_below HC3.out hb4
  have HB4 := Lib.hid (next_below HB3.out hb4)
  have hz := HC3.out.size
  clear hc hf
  obtain ⟨hc, hf⟩ := old_cells hC4
  have HO := Lib.hid hO
  simp at hz
  clear hO hC4 hb4 CO CW HT CD
  generalize l ++ digs n wd = r at *
  go_wp2_with fail
  have hne : g ≠ w.heap.size + 1 := by omega
  refine bodyPost_ret (v := .tuple #[.agg #[.slice (some ⟨g, 0, none⟩) (nB r) (nB r), .int .i64 (r.length : Nat)], .int .i64 0]) (by simp [results, Try.results21, go_sem, hc]) rfl ⟨g, _, rfl, ⟨rfl, (HO.out.far hne _).far hne _⟩, by omega, ?_⟩
  exact (HB4.out.setCell (by show _ ≤ w.heap.size + 1; omega) _).setCell (by show _ ≤ w.heap.size + 1; omega) _
end Go.Proofs.Ytgljaimoaijcaaa
