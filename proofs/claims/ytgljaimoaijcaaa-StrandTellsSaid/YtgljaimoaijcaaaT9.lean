/- The document's own answer: strands joined. -/
import Derived.Test.YtgljaimoaijcaaaT8
namespace Go.Proofs.Ytgljaimoaijcaaa
open Go.RowKit

def sOf (o : Option (List Bool)) : ByteArray := match o with | some l => txt l | none => ⟨#[]⟩
/-- What a strand's digits are, in every later world. -/
def TextIs (W : World) (v : Value) (o : Option (List Bool)) : Prop :=
  ∀ w', Below W.heap.size W w' → Calls Try.prog 13 #[v] w' fun e w'' => e = .returned (.tuple #[.string (sOf o), .bool o.isSome]) ∧ Below w'.heap.size w' w''
theorem TextIs.below {W w : World} {v : Value} {o : Option (List Bool)} (h : TextIs W v o) (hb : Below W.heap.size W w) : TextIs w v o := fun w' k => h w' (next_below hb k)
theorem textIs_some {W : World} {A : Option Addr} (c : Nat) {l : List Bool} (hr : Rd W A l) (hm : l.length ≤ 4194304) : TextIs W (.agg #[.slice A (nB l) c, .int .i64 (l.length : Nat)]) (some l) :=
  fun w' hb => refText_yes A c l w' (hr.below hb) hm
theorem textIs_none {W : World} {A : Option Addr} (c : Nat) (L : Int) {xs : List Int} (hr : RdB W A xs) (hx : isBytes xs) (hm : xs.length ≤ 600000) (h : rightB xs L = false)
    (hL0 : -9223372036854775808 ≤ L) (hL1 : L ≤ 9223372036854775807) : TextIs W (.agg #[.slice A xs.length c, .int .i64 L]) none :=
  fun w' hb => refText_no A c xs.length L xs w' (hr.below hb) hx rfl hm h hL0 hL1
/-- The answer of a function that hands back a strand. -/
def Ans (o : Option (List Bool)) (k : Int) (w : World) (e : Ending) (w' : World) : Prop := match o with | some l => NewSt l w e w' | none => ErrSt k w e w'
def both (a b : Option (List Bool)) : Option (List Bool) := match a, b with | some x, some y => some (x ++ y) | _, _ => none

set_option maxHeartbeats 2000000 in
theorem refJoin_no1 (p0 p1 q0 q1 : Value) (t : ByteArray) (bb : Bool) (w : World)
    (HA : Hid (∀ w', Below w.heap.size w w' → Calls Try.prog 13 #[.agg #[p0, p1]] w' fun e w'' => e = .returned (.tuple #[.string ⟨#[]⟩, .bool false]) ∧ Below w'.heap.size w' w''))
    (HB : Hid (∀ w', Below w.heap.size w w' → Calls Try.prog 13 #[.agg #[q0, q1]] w' fun e w'' => e = .returned (.tuple #[.string t, .bool bb]) ∧ Below w'.heap.size w' w''))
    :
    Calls Try.prog 15 #[.agg #[p0, p1], .agg #[q0, q1]] w (ErrSt 11 w) := by
  have hb0 : Below w.heap.size w (((w.alloc (.cells #[p0, p1] 24)).alloc (.cells #[q0, q1] 24)).alloc (.cells #[.slice none 0 0, .int .i64 0] 24)) := (((Below.refl _ _).alloc (Nat.le_refl _) _).alloc (by simp) _).alloc (by simp; omega) _
  go_enter Try.func15, Try.ntmps15
  go_wp2_with fail
  refine (HA.out _ hb0).mono ?_
  rintro e w1 ⟨rfl, hb1⟩
  obtain ⟨hc, hf⟩ := old_cells hb1
  have HB1 := Lib.hid (next_below hb0 hb1)
  have HC1 := Lib.hid hb1
  clear hb0 hb1
  go_wp2_with fail
  refine (HB.out w1 HB1.out).mono ?_
  rintro e w2 ⟨rfl, hb2⟩
  have HC2 := Lib.hid (next_below HC1.out hb2)
  have HB2 := Lib.hid (next_below HB1.out hb2)
  clear hb2 hc hf
  obtain ⟨hc, hf⟩ := old_cells HC2.out
  go_wp2_with fail
  refine bodyPost_ret (v := .tuple #[.agg #[.slice none 0 0, .int .i64 0], .int .i64 11]) (by simp [results, Try.results15, go_sem, hc]) rfl ⟨rfl, ?_⟩
  exact (HB2.out.setCell (by show _ ≤ w.heap.size + 1 + 1; omega) _).setCell (by show _ ≤ w.heap.size + 1 + 1; omega) _
set_option maxHeartbeats 2000000 in
theorem refJoin_no2 (p0 p1 q0 q1 : Value) (s : ByteArray) (w : World)
    (HA : Hid (∀ w', Below w.heap.size w w' → Calls Try.prog 13 #[.agg #[p0, p1]] w' fun e w'' => e = .returned (.tuple #[.string s, .bool true]) ∧ Below w'.heap.size w' w''))
    (HB : Hid (∀ w', Below w.heap.size w w' → Calls Try.prog 13 #[.agg #[q0, q1]] w' fun e w'' => e = .returned (.tuple #[.string ⟨#[]⟩, .bool false]) ∧ Below w'.heap.size w' w''))
    :
    Calls Try.prog 15 #[.agg #[p0, p1], .agg #[q0, q1]] w (ErrSt 11 w) := by
  have hb0 : Below w.heap.size w (((w.alloc (.cells #[p0, p1] 24)).alloc (.cells #[q0, q1] 24)).alloc (.cells #[.slice none 0 0, .int .i64 0] 24)) := (((Below.refl _ _).alloc (Nat.le_refl _) _).alloc (by simp) _).alloc (by simp; omega) _
  go_enter Try.func15, Try.ntmps15
  go_wp2_with fail
  refine (HA.out _ hb0).mono ?_
  rintro e w1 ⟨rfl, hb1⟩
  obtain ⟨hc, hf⟩ := old_cells hb1
  have HB1 := Lib.hid (next_below hb0 hb1)
  have HC1 := Lib.hid hb1
  clear hb0 hb1
  go_wp2_with fail
  refine (HB.out w1 HB1.out).mono ?_
  rintro e w2 ⟨rfl, hb2⟩
  have HC2 := Lib.hid (next_below HC1.out hb2)
  have HB2 := Lib.hid (next_below HB1.out hb2)
  clear hb2 hc hf
  obtain ⟨hc, hf⟩ := old_cells HC2.out
  go_wp2_with fail
  refine bodyPost_ret (v := .tuple #[.agg #[.slice none 0 0, .int .i64 0], .int .i64 11]) (by simp [results, Try.results15, go_sem, hc]) rfl ⟨rfl, ?_⟩
  exact (HB2.out.setCell (by show _ ≤ w.heap.size + 1 + 1; omega) _).setCell (by show _ ≤ w.heap.size + 1 + 1; omega) _
set_option maxHeartbeats 2000000 in
theorem refJoin_yes (p0 p1 q0 q1 : Value) (a b : List Bool) (hl1 : a.length ≤ 10000) (hl2 : b.length ≤ 10000) (hs1 : (txt a).size = a.length) (hs2 : (txt b).size = b.length) (w : World)
    (HA : Hid (∀ w', Below w.heap.size w w' → Calls Try.prog 13 #[.agg #[p0, p1]] w' fun e w'' => e = .returned (.tuple #[.string (txt a), .bool true]) ∧ Below w'.heap.size w' w''))
    (HB : Hid (∀ w', Below w.heap.size w w' → Calls Try.prog 13 #[.agg #[q0, q1]] w' fun e w'' => e = .returned (.tuple #[.string (txt b), .bool true]) ∧ Below w'.heap.size w' w''))
    :
    Calls Try.prog 15 #[.agg #[p0, p1], .agg #[q0, q1]] w (NewSt (a ++ b) w) := by
  have hb0 : Below w.heap.size w (((w.alloc (.cells #[p0, p1] 24)).alloc (.cells #[q0, q1] 24)).alloc (.cells #[.slice none 0 0, .int .i64 0] 24)) := (((Below.refl _ _).alloc (Nat.le_refl _) _).alloc (by simp) _).alloc (by simp; omega) _
  go_enter Try.func15, Try.ntmps15
  go_wp2_with fail
  refine (HA.out _ hb0).mono ?_
  rintro e w1 ⟨rfl, hb1⟩
  obtain ⟨hc, hf⟩ := old_cells hb1
  have HB1 := Lib.hid (next_below hb0 hb1)
  have HC1 := Lib.hid hb1
  clear hb0 hb1
  go_wp2_with fail
  refine (HB.out w1 HB1.out).mono ?_
  rintro e w2 ⟨rfl, hb2⟩
  have HC2 := Lib.hid (next_below HC1.out hb2)
  have HB2 := Lib.hid (next_below HB1.out hb2)
  clear hb2 hc hf
  obtain ⟨hc, hf⟩ := old_cells HC2.out
  go_wp2_with fail
  rw [← txt_append]
  refine (refOf_any (a ++ b) w2 (by simp; omega)).mono ?_
  rintro e w3 ⟨g, v, rfl, ⟨rfl, hO⟩, hg, hb3⟩
  have hC3 := next_below HC2.out hb3
  have hB3 := next_below HB2.out hb3
  have hz := HC2.out.size
  clear hc hf
  obtain ⟨hc, hf⟩ := old_cells hC3
  have HO := Lib.hid hO
  have HB3 := Lib.hid hB3
  simp at hz
  clear hO hB3 hC3 hb3
  go_wp2_with fail
  have hne : g ≠ w.heap.size + 1 + 1 := by omega
  refine bodyPost_ret (v := .tuple #[.agg #[.slice (some ⟨g, 0, none⟩) (nB (a ++ b)) (nB (a ++ b)), .int .i64 ((a ++ b).length : Nat)], .int .i64 0]) (by simp [results, Try.results15, go_sem, hc]) rfl ⟨g, _, rfl, ⟨rfl, (HO.out.far hne _).far hne _⟩, by omega, ?_⟩
  exact (HB3.out.setCell (by show _ ≤ w.heap.size + 1 + 1; omega) _).setCell (by show _ ≤ w.heap.size + 1 + 1; omega) _

theorem refJoin_any (p0 p1 q0 q1 : Value) (a b : Option (List Bool)) (w : World) (ha : TextIs w (.agg #[p0, p1]) a) (hb : TextIs w (.agg #[q0, q1]) b)
    (h1 : ∀ l, a = some l → l.length ≤ 10000) (h2 : ∀ l, b = some l → l.length ≤ 10000) :
    Calls Try.prog 15 #[.agg #[p0, p1], .agg #[q0, q1]] w (Ans (both a b) 11 w) := by
  cases a with
  | none => exact refJoin_no1 p0 p1 q0 q1 (sOf b) b.isSome w ha hb
  | some x =>
    cases b with
    | none => exact refJoin_no2 p0 p1 q0 q1 (txt x) w ha hb
    | some y => exact refJoin_yes p0 p1 q0 q1 x y (h1 x rfl) (h2 y rfl) (txt_size x) (txt_size y) w ha hb
end Go.Proofs.Ytgljaimoaijcaaa
