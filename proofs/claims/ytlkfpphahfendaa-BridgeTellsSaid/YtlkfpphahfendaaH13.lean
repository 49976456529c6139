/- The reference of layer 8: meet. -/
import Derived.Test.YtlkfpphahfendaaH12
namespace Go.Proofs.Ytlkfpphahfendaa
set_option maxRecDepth 100000
open Go.RowKit

set_option maxHeartbeats 8000000 in
theorem meet_any (a b c d : Int) (A : Option Addr) (k n : Nat) (W : List (Int × Int)) (w : World) (hr : RdP w A W) (hn : n = W.length) (hs : n ≤ 1000000) :
    Calls Try.prog 58 #[.agg #[.int .i64 a, .int .i64 b], .agg #[.int .i64 c, .int .i64 d], .slice A n k] w fun e w' => e = .returned (.bool (meetP W (a, b) (c, d))) ∧ Below w.heap.size w w' := by
  obtain ⟨w2, hw2⟩ : ∃ w2, w2 = (w.alloc (.cells #[.int .i64 a, .int .i64 b] 44)).alloc (.cells #[.int .i64 c, .int .i64 d] 44) := ⟨_, rfl⟩
  have hb : Below w.heap.size w w2 := by rw [hw2]; exact ((Below.refl _ _).alloc (Nat.le_refl _) _).alloc (by simp) _
  have hs2 : w2.heap.size = w.heap.size + 2 := by rw [hw2]; simp
  obtain ⟨i0, i1, _, _⟩ := cells_two (w := w2) (g := w.heap.size) (by rw [hw2]; exact two_first w _ _)
  obtain ⟨i2, i3, _, _⟩ := cells_two (w := w2) (g := w.heap.size + 1) (by rw [hw2]; exact two_second w _ _)
  have HJ : Hid (∀ w', Below w2.heap.size w2 w' → (w'.cell? ⟨w.heap.size, 0, none⟩ = some (.int .i64 a) ∧ w'.cell? ⟨w.heap.size, 1, none⟩ = some (.int .i64 b)) ∧ w'.cell? ⟨w.heap.size + 1, 0, none⟩ = some (.int .i64 c) ∧ w'.cell? ⟨w.heap.size + 1, 1, none⟩ = some (.int .i64 d)) := fun w' hb =>
    ⟨⟨by rw [hb.cell (by show w.heap.size < _; omega)]; exact i0, by rw [hb.cell (by show w.heap.size < _; omega)]; exact i1⟩, by rw [hb.cell (by show w.heap.size + 1 < _; omega)]; exact i2, by rw [hb.cell (by show w.heap.size + 1 < _; omega)]; exact i3⟩
  obtain ⟨p1, h1⟩ : ∃ p, (c == a || d == a) = p := ⟨_, rfl⟩
  obtain ⟨p2, h2⟩ : ∃ p, onZ W a = p := ⟨_, rfl⟩
  obtain ⟨p3, h3⟩ : ∃ p, (c == b || d == b) = p := ⟨_, rfl⟩
  obtain ⟨p4, h4⟩ : ∃ p, onZ W b = p := ⟨_, rfl⟩
  have hm : meetP W (a, b) (c, d) = ((p1 && !p2) || (p3 && !p4)) := by unfold meetP; rw [h1, h2, h3, h4]
  rw [hm]
  have C1 : Hid (∀ w', Calls Try.prog 77 #[.agg #[.int .i64 c, .int .i64 d], .int .i64 a] w' fun e w'' => e = .returned (.bool p1) ∧ Below w'.heap.size w' w'') := fun w' => by rw [← h1]; exact ends_any c d a w'
  have C3 : Hid (∀ w', Calls Try.prog 77 #[.agg #[.int .i64 c, .int .i64 d], .int .i64 b] w' fun e w'' => e = .returned (.bool p3) ∧ Below w'.heap.size w' w'') := fun w' => by rw [← h3]; exact ends_any c d b w'
  have C2 : Hid (∀ w', Below w2.heap.size w2 w' → Calls Try.prog 59 #[.slice A n k, .int .i64 a] w' fun e w'' => e = .returned (.bool p2) ∧ Below w'.heap.size w' w'') := fun w' hb' => by rw [← h2]; exact on_any8 A k n W a w' ((hr.below hb).below hb') hn hs
  have C4 : Hid (∀ w', Below w2.heap.size w2 w' → Calls Try.prog 59 #[.slice A n k, .int .i64 b] w' fun e w'' => e = .returned (.bool p4) ∧ Below w'.heap.size w' w'') := fun w' hb' => by rw [← h4]; exact on_any8 A k n W b w' ((hr.below hb).below hb') hn hs
  have HW := Lib.hid hw2
  have HB := Lib.hid hb
  clear hw2 hb hr hn hm h1 h2 h3 h4 i0 i1 i2 i3
  go_enter Try.func58, Try.ntmps58
  go_wp2_with fail
  rw [← HW.out]
  refine (C1.out w2).mono ?_
  rintro e w3 ⟨rfl, hb3⟩
  obtain ⟨⟨j0, j1⟩, j2, j3⟩ := HJ.out w3 hb3
  have fin : ∀ w', Below w2.heap.size w2 w' → Below w.heap.size w w' := fun w' h => HB.out.trans (h.mono (by omega))
  have FIN := Lib.hid fin
  have HB3 := Lib.hid hb3
  clear fin hb3
  have tail : Hid (∀ w4, Below w2.heap.size w2 w4 → Hid ((w4.cell? ⟨w.heap.size, 0, none⟩ = some (.int .i64 a) ∧ w4.cell? ⟨w.heap.size, 1, none⟩ = some (.int .i64 b)) ∧ w4.cell? ⟨w.heap.size + 1, 0, none⟩ = some (.int .i64 c) ∧ w4.cell? ⟨w.heap.size + 1, 1, none⟩ = some (.int .i64 d))) := fun w4 h => HJ.out w4 h
  clear tail
  cases p1
  · go_wp2_with fail
    refine (C3.out w3).mono ?_
    rintro e x5 ⟨rfl, hb5⟩
    have HB5 := Lib.hid (next_below HB3.out hb5)
    clear hb5 j0 j1 j2 j3
    obtain ⟨⟨j0, j1⟩, j2, j3⟩ := HJ.out x5 HB5.out
    cases p3
    · go_wp2_with fail
      go_ret
      exact ⟨rfl, FIN.out _ HB5.out⟩
    · go_wp2_with fail
      refine (C4.out x5 HB5.out).mono ?_
      rintro e x6 ⟨rfl, hb6⟩
      have HB6 := Lib.hid (next_below HB5.out hb6)
      cases p4
      all_goals
        go_wp2_with fail
        go_ret
        exact ⟨rfl, FIN.out _ HB6.out⟩
  · go_wp2_with fail
    refine (C2.out w3 HB3.out).mono ?_
    rintro e w4 ⟨rfl, hb4⟩
    have HB4 := Lib.hid (next_below HB3.out hb4)
    clear hb4 j0 j1 j2 j3
    obtain ⟨⟨j0, j1⟩, j2, j3⟩ := HJ.out w4 HB4.out
    cases p2
    · go_wp2_with fail
      go_ret
      exact ⟨rfl, FIN.out _ HB4.out⟩
    · go_wp2_with fail
      refine (C3.out w4).mono ?_
      rintro e y5 ⟨rfl, hb5⟩
      have HB5 := Lib.hid (next_below HB4.out hb5)
      clear hb5 j0 j1 j2 j3
      obtain ⟨⟨j0, j1⟩, j2, j3⟩ := HJ.out y5 HB5.out
      cases p3
      · go_wp2_with fail
        go_ret
        exact ⟨rfl, FIN.out _ HB5.out⟩
      · go_wp2_with fail
        refine (C4.out y5 HB5.out).mono ?_
        rintro e y6 ⟨rfl, hb6⟩
        have HB6 := Lib.hid (next_below HB5.out hb6)
        cases p4
        all_goals
          go_wp2_with fail
          go_ret
          exact ⟨rfl, FIN.out _ HB6.out⟩
end Go.Proofs.Ytlkfpphahfendaa
