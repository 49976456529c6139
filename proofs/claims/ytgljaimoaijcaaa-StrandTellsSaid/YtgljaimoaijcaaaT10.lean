/- The document's own answer: a strand cut. -/
import Derived.Test.YtgljaimoaijcaaaT9
namespace Go.Proofs.Ytgljaimoaijcaaa
open Go.RowKit

theorem txt_cut (l : List Bool) (a b : Nat) : (txt l).extract a b = txt ((l.drop a).take (b - a)) := by
  apply ByteArray.ext
  simp [txt, ByteArray.data_extract, List.map_take, List.map_drop]

set_option maxHeartbeats 2000000 in
theorem refCut_no (p0 p1 : Value) (fr tt : Int) (w : World)
    (HA : Hid (∀ w', Below w.heap.size w w' → Calls Try.prog 13 #[.agg #[p0, p1]] w' fun e w'' => e = .returned (.tuple #[.string ⟨#[]⟩, .bool false]) ∧ Below w'.heap.size w' w'')) :
    Calls Try.prog 19 #[.agg #[p0, p1], .int .i64 fr, .int .i64 tt] w (ErrSt 11 w) := by
  have hb0 : Below w.heap.size w ((w.alloc (.cells #[p0, p1] 24)).alloc (.cells #[.slice none 0 0, .int .i64 0] 24)) := ((Below.refl _ _).alloc (Nat.le_refl _) _).alloc (by simp) _
  go_enter Try.func19, Try.ntmps19
  go_wp2_with fail
  refine (HA.out _ hb0).mono ?_
  rintro e w1 ⟨rfl, hb1⟩
  obtain ⟨hc, hf⟩ := old_cells hb1
  have HB1 := Lib.hid (next_below hb0 hb1)
  have HC1 := Lib.hid hb1
  clear hb0 hb1
  go_wp2_with fail
  refine bodyPost_ret (v := .tuple #[.agg #[.slice none 0 0, .int .i64 0], .int .i64 11]) (by simp [results, Try.results19, go_sem, hc]) rfl ⟨rfl, ?_⟩
  exact (HB1.out.setCell (by show _ ≤ w.heap.size + 1; omega) _).setCell (by show _ ≤ w.heap.size + 1; omega) _
set_option maxHeartbeats 2000000 in
theorem refCut_arg (p0 p1 : Value) (fr tt : Int) (s : ByteArray) (n : Nat) (hs : s.size = n) (h : fr < 0 ∨ tt < fr ∨ (n : Int) < tt) (w : World)
    (HA : Hid (∀ w', Below w.heap.size w w' → Calls Try.prog 13 #[.agg #[p0, p1]] w' fun e w'' => e = .returned (.tuple #[.string s, .bool true]) ∧ Below w'.heap.size w' w'')) :
    Calls Try.prog 19 #[.agg #[p0, p1], .int .i64 fr, .int .i64 tt] w (ErrSt 2 w) := by
  have hb0 : Below w.heap.size w ((w.alloc (.cells #[p0, p1] 24)).alloc (.cells #[.slice none 0 0, .int .i64 0] 24)) := ((Below.refl _ _).alloc (Nat.le_refl _) _).alloc (by simp) _
  go_enter Try.func19, Try.ntmps19
  go_wp2_with fail
  refine (HA.out _ hb0).mono ?_
  rintro e w1 ⟨rfl, hb1⟩
  obtain ⟨hc, hf⟩ := old_cells hb1
  have HB1 := Lib.hid (next_below hb0 hb1)
  have HC1 := Lib.hid hb1
  clear hb0 hb1
  by_cases h1 : fr < 0
  · have d1 : decide (fr < 0) = true := by simpa using h1
    clear h
    go_wp2_with fail
    refine bodyPost_ret (v := .tuple #[.agg #[.slice none 0 0, .int .i64 0], .int .i64 2]) (by simp [results, Try.results19, go_sem, hc]) rfl ⟨rfl, ?_⟩
    exact (HB1.out.setCell (by show _ ≤ w.heap.size + 1; omega) _).setCell (by show _ ≤ w.heap.size + 1; omega) _
  · have d1 : decide (fr < 0) = false := by simpa using h1
    by_cases h2 : tt < fr
    · have d2 : decide (tt < fr) = true := by simpa using h2
      clear h
      go_wp2_with fail
      refine bodyPost_ret (v := .tuple #[.agg #[.slice none 0 0, .int .i64 0], .int .i64 2]) (by simp [results, Try.results19, go_sem, hc]) rfl ⟨rfl, ?_⟩
      exact (HB1.out.setCell (by show _ ≤ w.heap.size + 1; omega) _).setCell (by show _ ≤ w.heap.size + 1; omega) _
    · have d2 : decide (tt < fr) = false := by simpa using h2
      have d3 : decide ((n : Int) < tt) = true := by simp; omega
      clear h
      go_wp2_with fail
      refine bodyPost_ret (v := .tuple #[.agg #[.slice none 0 0, .int .i64 0], .int .i64 2]) (by simp [results, Try.results19, go_sem, hc]) rfl ⟨rfl, ?_⟩
      exact (HB1.out.setCell (by show _ ≤ w.heap.size + 1; omega) _).setCell (by show _ ≤ w.heap.size + 1; omega) _
set_option maxHeartbeats 2000000 in
theorem refCut_yes (p0 p1 : Value) (fr tt : Nat) (l : List Bool) (hl : l.length ≤ 10000) (h1 : fr ≤ tt) (h2 : tt ≤ l.length) (w : World)
    (HA : Hid (∀ w', Below w.heap.size w w' → Calls Try.prog 13 #[.agg #[p0, p1]] w' fun e w'' => e = .returned (.tuple #[.string (txt l), .bool true]) ∧ Below w'.heap.size w' w'')) :
    Calls Try.prog 19 #[.agg #[p0, p1], .int .i64 fr, .int .i64 tt] w (NewSt ((l.drop fr).take (tt - fr)) w) := by
  have hb0 : Below w.heap.size w ((w.alloc (.cells #[p0, p1] 24)).alloc (.cells #[.slice none 0 0, .int .i64 0] 24)) := ((Below.refl _ _).alloc (Nat.le_refl _) _).alloc (by simp) _
  go_enter Try.func19, Try.ntmps19
  go_wp2_with fail
  refine (HA.out _ hb0).mono ?_
  rintro e w1 ⟨rfl, hb1⟩
  obtain ⟨hc, hf⟩ := old_cells hb1
  have HB1 := Lib.hid (next_below hb0 hb1)
  have HC1 := Lib.hid hb1
  clear hb0 hb1
  have hs := txt_size l
  have HT := Lib.hid (txt_cut l fr tt)
  generalize txt l = s at *
  go_wp2_with fail
  rw [HT.out]
  refine (refOf_any ((l.drop fr).take (tt - fr)) w1 (by simp; omega)).mono ?_
  rintro e w3 ⟨g, v, rfl, ⟨rfl, hO⟩, hg, hb3⟩
  have hC3 := next_below HC1.out hb3
  have hB3 := next_below HB1.out hb3
  have hz := HC1.out.size
  clear hc hf
  obtain ⟨hc, hf⟩ := old_cells hC3
  have HO := Lib.hid hO
  have HB3 := Lib.hid hB3
  simp at hz
  clear hO hB3 hC3 hb3
  generalize (l.drop fr).take (tt - fr) = r at *
  go_wp2_with fail
  have hne : g ≠ w.heap.size + 1 := by omega
  refine bodyPost_ret (v := .tuple #[.agg #[.slice (some ⟨g, 0, none⟩) (nB r) (nB r), .int .i64 (r.length : Nat)], .int .i64 0]) (by simp [results, Try.results19, go_sem, hc]) rfl ⟨g, _, rfl, ⟨rfl, (HO.out.far hne _).far hne _⟩, by omega, ?_⟩
  exact (HB3.out.setCell (by show _ ≤ w.heap.size + 1; omega) _).setCell (by show _ ≤ w.heap.size + 1; omega) _
end Go.Proofs.Ytgljaimoaijcaaa
