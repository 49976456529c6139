/- The document's own answer: knots behind a strand; a strand packed. -/
import Derived.Test.YtgljaimoaijcaaaT10
namespace Go.Proofs.Ytgljaimoaijcaaa
open Go.RowKit

theorem txt_one : (⟨#[49]⟩ : ByteArray) = txt [true] := rfl

set_option maxHeartbeats 2000000 in
theorem refKnot_no (p0 p1 : Value) (n : Nat) (w : World)
    (HA : Hid (∀ w', Below w.heap.size w w' → Calls Try.prog 13 #[.agg #[p0, p1]] w' fun e w'' => e = .returned (.tuple #[.string ⟨#[]⟩, .bool false]) ∧ Below w'.heap.size w' w'')) :
    Calls Try.prog 23 #[.agg #[p0, p1], .int .u64 n] w (ErrSt 11 w) := by
  have hb0 : Below w.heap.size w ((w.alloc (.cells #[p0, p1] 24)).alloc (.cells #[.slice none 0 0, .int .i64 0] 24)) := ((Below.refl _ _).alloc (Nat.le_refl _) _).alloc (by simp) _
  go_enter Try.func23, Try.ntmps23
  go_wp2_with fail
  refine (HA.out _ hb0).mono ?_
  rintro e w1 ⟨rfl, hb1⟩
  obtain ⟨hc, hf⟩ := old_cells hb1
  have HB1 := Lib.hid (next_below hb0 hb1)
  have HC1 := Lib.hid hb1
  clear hb0 hb1
  go_wp2_with fail
  refine bodyPost_ret (v := .tuple #[.agg #[.slice none 0 0, .int .i64 0], .int .i64 11]) (by simp [results, Try.results23, go_sem, hc]) rfl ⟨rfl, ?_⟩
  exact (HB1.out.setCell (by show _ ≤ w.heap.size + 1; omega) _).setCell (by show _ ≤ w.heap.size + 1; omega) _
set_option maxHeartbeats 2000000 in
theorem refKnot_arg (p0 p1 : Value) (s : ByteArray) (w : World)
    (HA : Hid (∀ w', Below w.heap.size w w' → Calls Try.prog 13 #[.agg #[p0, p1]] w' fun e w'' => e = .returned (.tuple #[.string s, .bool true]) ∧ Below w'.heap.size w' w'')) :
    Calls Try.prog 23 #[.agg #[p0, p1], .int .u64 18446744073709551615] w (ErrSt 2 w) := by
  have hb0 : Below w.heap.size w ((w.alloc (.cells #[p0, p1] 24)).alloc (.cells #[.slice none 0 0, .int .i64 0] 24)) := ((Below.refl _ _).alloc (Nat.le_refl _) _).alloc (by simp) _
  go_enter Try.func23, Try.ntmps23
  go_wp2_with fail
  refine (HA.out _ hb0).mono ?_
  rintro e w1 ⟨rfl, hb1⟩
  obtain ⟨hc, hf⟩ := old_cells hb1
  have HB1 := Lib.hid (next_below hb0 hb1)
  have HC1 := Lib.hid hb1
  clear hb0 hb1
  go_wp2_with fail
  refine bodyPost_ret (v := .tuple #[.agg #[.slice none 0 0, .int .i64 0], .int .i64 2]) (by simp [results, Try.results23, go_sem, hc]) rfl ⟨rfl, ?_⟩
  exact (HB1.out.setCell (by show _ ≤ w.heap.size + 1; omega) _).setCell (by show _ ≤ w.heap.size + 1; omega) _
set_option maxHeartbeats 2000000 in
theorem refKnot_yes (p0 p1 : Value) (n : Nat) (l : List Bool) (w : World) (hn : n < 18446744073709551615) (hl : l.length ≤ 10000)
    (HA : Hid (∀ w', Below w.heap.size w w' → Calls Try.prog 13 #[.agg #[p0, p1]] w' fun e w'' => e = .returned (.tuple #[.string (txt l), .bool true]) ∧ Below w'.heap.size w' w'')) :
    Calls Try.prog 23 #[.agg #[p0, p1], .int .u64 n] w (NewSt (l ++ knot n) w) := by
  have hb0 : Below w.heap.size w ((w.alloc (.cells #[p0, p1] 24)).alloc (.cells #[.slice none 0 0, .int .i64 0] 24)) := ((Below.refl _ _).alloc (Nat.le_refl _) _).alloc (by simp) _
  have hb := lead_bounds n hn
  have hkl : (knot n).length ≤ 127 := by omega
  have hs := txt_size l
  have hs2 := txt_size (knot n)
  have hn2 : ¬ n = 18446744073709551615 := by omega
  have HT := Lib.hid (txt_append l (knot n))
  have CO := Lib.hid (fun w' => refOf_any (l ++ knot n) w' (by simp; omega))
  have CT := Lib.hid (fun w' => refTied_any n w' hn)
  clear hb hn
  generalize txt l = s at *
  generalize txt (knot n) = t at *
  go_enter Try.func23, Try.ntmps23
  go_wp2_with fail
  refine (HA.out _ hb0).mono ?_
  rintro e w1 ⟨rfl, hb1⟩
  obtain ⟨hc, hf⟩ := old_cells hb1
  have HB1 := Lib.hid (next_below hb0 hb1)
  have HC1 := Lib.hid hb1
  clear hb0 hb1
  go_wp2_with fail
  refine (CT.out w1).mono ?_
  rintro e w2 ⟨rfl, hb2⟩
  have hC2 := next_below HC1.out hb2
  have HB2 := Lib.hid (next_below HB1.out hb2)
  have HC2 := Lib.hid hC2
  clear hc hf hb2 hC2
  obtain ⟨hc, hf⟩ := old_cells HC2.out
  go_wp2_with fail
  rw [← HT.out]
  refine (CO.out w2).mono ?_
  rintro e w3 ⟨g, v, rfl, ⟨rfl, hO⟩, hg, hb3⟩
  have hC3 := next_below HC2.out hb3
  have hB3 := next_below HB2.out hb3
  have hz := HC2.out.size
  clear hc hf
  obtain ⟨hc, hf⟩ := old_cells hC3
  have HO := Lib.hid hO
  have HB3 := Lib.hid hB3
  simp at hz
  clear hO hB3 hC3 hb3 CO CT HT
  generalize l ++ knot n = r at *
  go_wp2_with fail
  have hne : g ≠ w.heap.size + 1 := by omega
  refine bodyPost_ret (v := .tuple #[.agg #[.slice (some ⟨g, 0, none⟩) (nB r) (nB r), .int .i64 (r.length : Nat)], .int .i64 0]) (by simp [results, Try.results23, go_sem, hc]) rfl ⟨g, _, rfl, ⟨rfl, (HO.out.far hne _).far hne _⟩, by omega, ?_⟩
  exact (HB3.out.setCell (by show _ ≤ w.heap.size + 1; omega) _).setCell (by show _ ≤ w.heap.size + 1; omega) _
set_option maxHeartbeats 2000000 in
theorem refPack_no (p0 p1 : Value) (w : World)
    (HA : Hid (∀ w', Below w.heap.size w w' → Calls Try.prog 13 #[.agg #[p0, p1]] w' fun e w'' => e = .returned (.tuple #[.string ⟨#[]⟩, .bool false]) ∧ Below w'.heap.size w' w'')) :
    Calls Try.prog 31 #[.agg #[p0, p1]] w fun e w' => e = .returned (.tuple #[.slice none 0 0, .int .i64 11]) ∧ Below w.heap.size w w' := by
  have hb0 : Below w.heap.size w (w.alloc (.cells #[p0, p1] 24)) := (Below.refl _ _).alloc (Nat.le_refl _) _
  go_enter Try.func31, Try.ntmps31
  go_wp2_with fail
  refine (HA.out _ hb0).mono ?_
  rintro e w1 ⟨rfl, hb1⟩
  obtain ⟨hc, hf⟩ := old_cells hb1
  have HB1 := Lib.hid (next_below hb0 hb1)
  have HC1 := Lib.hid hb1
  clear hb0 hb1
  go_wp2_with fail
  exact bodyPost_ret (v := .tuple #[.slice none 0 0, .int .i64 11]) (by simp [results, Try.results31, go_sem]) rfl ⟨rfl, HB1.out⟩
set_option maxHeartbeats 2000000 in
theorem refPack_yes (p0 p1 : Value) (l : List Bool) (w : World) (hl : l.length ≤ 10000)
    (HA : Hid (∀ w', Below w.heap.size w w' → Calls Try.prog 13 #[.agg #[p0, p1]] w' fun e w'' => e = .returned (.tuple #[.string (txt l), .bool true]) ∧ Below w'.heap.size w' w'')) :
    Calls Try.prog 31 #[.agg #[p0, p1]] w fun e w' => ∃ g, e = .returned (.tuple #[.slice (some ⟨g, 0, none⟩) (nB (l ++ [true])) (nB (l ++ [true])), .int .i64 0]) ∧ Own w' g (l ++ [true]) ∧ w.heap.size ≤ g ∧ Below w.heap.size w w' := by
  have hb0 : Below w.heap.size w (w.alloc (.cells #[p0, p1] 24)) := (Below.refl _ _).alloc (Nat.le_refl _) _
  have hs := txt_size l
  have HT : Hid (txt l ++ ⟨#[49]⟩ = txt (l ++ [true])) := by show _ = _; rw [txt_append, txt_one]
  have CB := Lib.hid (fun w' => refBytes_any (l ++ [true]) w' (by simp; omega))
  generalize txt l = s at *
  go_enter Try.func31, Try.ntmps31
  go_wp2_with fail
  refine (HA.out _ hb0).mono ?_
  rintro e w1 ⟨rfl, hb1⟩
  obtain ⟨hc, hf⟩ := old_cells hb1
  have HB1 := Lib.hid (next_below hb0 hb1)
  have HC1 := Lib.hid hb1
  clear hb0 hb1
  go_wp2_with fail
  rw [HT.out]
  refine (CB.out w1).mono ?_
  rintro e w2 ⟨rfl, hO, hb2⟩
  have HO := Lib.hid hO
  have HB2 := Lib.hid (next_below HB1.out hb2)
  have hz := HB1.out.size
  clear hc hf hO hb2
  go_wp2_with fail
  exact bodyPost_ret (v := .tuple #[.slice (some ⟨w1.heap.size, 0, none⟩) (nB (l ++ [true])) (nB (l ++ [true])), .int .i64 0]) (by simp [results, Try.results31, go_sem]) rfl ⟨_, rfl, HO.out, hz, HB2.out⟩
end Go.Proofs.Ytgljaimoaijcaaa
