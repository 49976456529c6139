/- The law PermApply (layer 3): for whatever comes in. -/
import Derived.Test.YtgldlanfbkgfjaaL7
namespace Go.Proofs.Ytgldlanfbkgfjaa
open Go.RowKit

/-- A graph in a box, of any number. -/
def BoxZ (w : World) (b : Nat) (N : Int) (A : Option Addr) (m c : Nat) : Prop := w.heap[b]? = some (.cells #[.int .i64 N, .slice A m c] 25 (0, 0))
theorem BoxZ.below {w w' : World} {b m c : Nat} {N : Int} {A : Option Addr} (h : BoxZ w b N A m c) (hb : Below w.heap.size w w') : BoxZ w' b N A m c := blk_below h hb
theorem BoxZ.two {w : World} {b m c : Nat} {N : Int} {A : Option Addr} (h : BoxZ w b N A m c) : w.cell? ⟨b, 0, none⟩ = some (.int .i64 N) ∧ w.cell? ⟨b, 1, none⟩ = some (.slice A m c) := by
  obtain ⟨h1, h2, _, _⟩ := cells_two (w := w) h
  exact ⟨h1, h2⟩

set_option maxRecDepth 100000 in
set_option maxHeartbeats 8000000 in
theorem apply_walk (v0 v1 v2 : Value) (w : World) (o0 : OkGraph w v0) (o1 : OkInts w v1) (o2 : OkInts w v2) :
    Calls Try.prog 7 #[v0, v1, v2] w fun e w' => e = .returned (.bool true) ∧ Below w.heap.size w w' := by
  obtain ⟨N, A0, c0, E, rfl, hN, _, r0, l0, m0, _⟩ := o0
  obtain ⟨A1, c1, x1, rfl, _, r1, l1, m1, _⟩ := o1
  obtain ⟨A2, c2, x2, rfl, _, r2, l2, m2, _⟩ := o2
  by_cases hall : (rightG N E = true ∧ N ≤ 40 ∧ rightP x1 = true ∧ rightP x2 = true ∧ (x1.length : Int) = N ∧ (x2.length : Int) = N)
  · obtain ⟨a1, a2, a3, a4, a5, a6⟩ := hall
    obtain ⟨p, rfl, hp, hpl⟩ := rightP_iff.1 a3
    obtain ⟨q, rfl, hq, _⟩ := rightP_iff.1 a4
    rw [iz_length] at a5 a6
    have hq' : Perm p.length q := by rw [show p.length = q.length by omega]; exact hq
    have e1 : (iz p).length = p.length := iz_length p
    have e2 : (iz q).length = p.length := by rw [iz_length]; omega
    subst a5
    rw [e1, e2]
    exact apply_main A0 A1 A2 c0 c1 c2 E.length p.length E p q w r0 r1 r2 rfl a1 hp hq' (by omega)
  · obtain ⟨w0, hw0⟩ : ∃ w0, w0 = w.alloc (.cells #[.int .i64 N, .slice A0 E.length c0] 25) := ⟨_, rfl⟩
    have hb0 : Below w.heap.size w w0 := by rw [hw0]; exact (Below.refl _ _).alloc (Nat.le_refl _) _
    have BG : Hid (BoxZ w0 w.heap.size N A0 E.length c0) := by show _ = _; rw [hw0]; exact heap_alloc_new w _
    have R0 := Lib.hid (r0.below hb0)
    have R1 := Lib.hid (r1.below hb0)
    have R2 := Lib.hid (r2.below hb0)
    have HB := Lib.hid hb0
    have HW0 := Lib.hid hw0
    clear r0 r1 r2 hb0 hw0 l0 hN
    cases h0 : rightG N E with
    | false =>
      have H0 := Lib.hid h0
      clear h0 hall
      go_enter Try.func7, Try.ntmps7
      obtain ⟨j0, j1⟩ := BG.out.two
      go_wp2_with fail
      rw [← HW0.out]
      refine (right_any A0 c0 E.length N E w0 R0.out rfl).mono ?_
      rintro e w1 ⟨rfl, hb⟩
      rw [show rightG N E = false from H0.out]
      clear j0 j1
      have R0 := Lib.hid (R0.out.below hb)
      have R1 := Lib.hid (R1.out.below hb)
      have R2 := Lib.hid (R2.out.below hb)
      have BG := Lib.hid (BG.out.below hb)
      have HB := Lib.hid (next_below HB.out hb)
      clear  hb
      obtain ⟨j0, j1⟩ := BG.out.two
      go_wp2_with fail
      refine (awake_any w1).mono ?_
      rintro e w99 ⟨rfl, hb⟩
      go_wp2_with fail
      go_ret
      exact ⟨rfl, next_below HB.out hb⟩
    | true =>
      have H0 := Lib.hid h0
      by_cases hN4 : N ≤ 40
      · have g1 : decide ((40 : Int) < N) = false := by rw [decide_eq_false_iff_not]; omega
        cases h1 : rightP x1 with
        | false =>
          have H1 := Lib.hid h1
          clear h0 h1 hall hN4
          go_enter Try.func7, Try.ntmps7
          obtain ⟨j0, j1⟩ := BG.out.two
          go_wp2_with fail
          rw [← HW0.out]
          refine (right_any A0 c0 E.length N E w0 R0.out rfl).mono ?_
          rintro e w1 ⟨rfl, hb⟩
          rw [show rightG N E = true from H0.out]
          clear j0 j1
          have R0 := Lib.hid (R0.out.below hb)
          have R1 := Lib.hid (R1.out.below hb)
          have R2 := Lib.hid (R2.out.below hb)
          have BG := Lib.hid (BG.out.below hb)
          have HB := Lib.hid (next_below HB.out hb)
          clear  hb
          obtain ⟨j0, j1⟩ := BG.out.two
          go_wp2_with fail
          refine (rightP_any A1 c1 x1.length x1 w1 R1.out rfl (by omega)).mono ?_
          rintro e w2 ⟨rfl, hb⟩
          rw [show rightP x1 = false from H1.out]
          clear j0 j1
          have R0 := Lib.hid (R0.out.below hb)
          have R1 := Lib.hid (R1.out.below hb)
          have R2 := Lib.hid (R2.out.below hb)
          have BG := Lib.hid (BG.out.below hb)
          have HB := Lib.hid (next_below HB.out hb)
          clear  hb
          obtain ⟨j0, j1⟩ := BG.out.two
          go_wp2_with fail
          refine (awake_any w2).mono ?_
          rintro e w99 ⟨rfl, hb⟩
          go_wp2_with fail
          go_ret
          exact ⟨rfl, next_below HB.out hb⟩
        | true =>
          have H1 := Lib.hid h1
          cases h2 : rightP x2 with
          | false =>
            have H2 := Lib.hid h2
            clear h0 h1 h2 hall hN4
            go_enter Try.func7, Try.ntmps7
            obtain ⟨j0, j1⟩ := BG.out.two
            go_wp2_with fail
            rw [← HW0.out]
            refine (right_any A0 c0 E.length N E w0 R0.out rfl).mono ?_
            rintro e w1 ⟨rfl, hb⟩
            rw [show rightG N E = true from H0.out]
            clear j0 j1
            have R0 := Lib.hid (R0.out.below hb)
            have R1 := Lib.hid (R1.out.below hb)
            have R2 := Lib.hid (R2.out.below hb)
            have BG := Lib.hid (BG.out.below hb)
            have HB := Lib.hid (next_below HB.out hb)
            clear  hb
            obtain ⟨j0, j1⟩ := BG.out.two
            go_wp2_with fail
            refine (rightP_any A1 c1 x1.length x1 w1 R1.out rfl (by omega)).mono ?_
            rintro e w2 ⟨rfl, hb⟩
            rw [show rightP x1 = true from H1.out]
            clear j0 j1
            have R0 := Lib.hid (R0.out.below hb)
            have R1 := Lib.hid (R1.out.below hb)
            have R2 := Lib.hid (R2.out.below hb)
            have BG := Lib.hid (BG.out.below hb)
            have HB := Lib.hid (next_below HB.out hb)
            clear  hb
            obtain ⟨j0, j1⟩ := BG.out.two
            go_wp2_with fail
            refine (rightP_any A2 c2 x2.length x2 w2 R2.out rfl (by omega)).mono ?_
            rintro e w3 ⟨rfl, hb⟩
            rw [show rightP x2 = false from H2.out]
            clear j0 j1
            have R0 := Lib.hid (R0.out.below hb)
            have R1 := Lib.hid (R1.out.below hb)
            have R2 := Lib.hid (R2.out.below hb)
            have BG := Lib.hid (BG.out.below hb)
            have HB := Lib.hid (next_below HB.out hb)
            clear  hb
            obtain ⟨j0, j1⟩ := BG.out.two
            go_wp2_with fail
            refine (awake_any w3).mono ?_
            rintro e w99 ⟨rfl, hb⟩
            go_wp2_with fail
            go_ret
            exact ⟨rfl, next_below HB.out hb⟩
          | true =>
            have H2 := Lib.hid h2
            by_cases h3 : (x1.length : Int) = N
            · have g2 : ((x1.length : Int) != N) = false := by simp [h3]
              have g3 : ((x2.length : Int) != N) = true := by
                simp only [bne_iff_ne, ne_eq]
                intro h4
                exact hall ⟨h0, hN4, h1, h2, h3, h4⟩
              clear h0 h1 h2 h3 hall hN4
              go_enter Try.func7, Try.ntmps7
              obtain ⟨j0, j1⟩ := BG.out.two
              go_wp2_with fail
              rw [← HW0.out]
              refine (right_any A0 c0 E.length N E w0 R0.out rfl).mono ?_
              rintro e w1 ⟨rfl, hb⟩
              rw [show rightG N E = true from H0.out]
              clear j0 j1
              have R0 := Lib.hid (R0.out.below hb)
              have R1 := Lib.hid (R1.out.below hb)
              have R2 := Lib.hid (R2.out.below hb)
              have BG := Lib.hid (BG.out.below hb)
              have HB := Lib.hid (next_below HB.out hb)
              clear  hb
              obtain ⟨j0, j1⟩ := BG.out.two
              go_wp2_with fail
              refine (rightP_any A1 c1 x1.length x1 w1 R1.out rfl (by omega)).mono ?_
              rintro e w2 ⟨rfl, hb⟩
              rw [show rightP x1 = true from H1.out]
              clear j0 j1
              have R0 := Lib.hid (R0.out.below hb)
              have R1 := Lib.hid (R1.out.below hb)
              have R2 := Lib.hid (R2.out.below hb)
              have BG := Lib.hid (BG.out.below hb)
              have HB := Lib.hid (next_below HB.out hb)
              clear  hb
              obtain ⟨j0, j1⟩ := BG.out.two
              go_wp2_with fail
              refine (rightP_any A2 c2 x2.length x2 w2 R2.out rfl (by omega)).mono ?_
              rintro e w3 ⟨rfl, hb⟩
              rw [show rightP x2 = true from H2.out]
              clear j0 j1
              have R0 := Lib.hid (R0.out.below hb)
              have R1 := Lib.hid (R1.out.below hb)
              have R2 := Lib.hid (R2.out.below hb)
              have BG := Lib.hid (BG.out.below hb)
              have HB := Lib.hid (next_below HB.out hb)
              clear  hb
              obtain ⟨j0, j1⟩ := BG.out.two
              go_wp2_with fail
              refine (awake_any w3).mono ?_
              rintro e w99 ⟨rfl, hb⟩
              go_wp2_with fail
              go_ret
              exact ⟨rfl, next_below HB.out hb⟩
            · have g2 : ((x1.length : Int) != N) = true := by simp [h3]
              clear h0 h1 h2 h3 hall hN4
              go_enter Try.func7, Try.ntmps7
              obtain ⟨j0, j1⟩ := BG.out.two
              go_wp2_with fail
              rw [← HW0.out]
              refine (right_any A0 c0 E.length N E w0 R0.out rfl).mono ?_
              rintro e w1 ⟨rfl, hb⟩
              rw [show rightG N E = true from H0.out]
              clear j0 j1
              have R0 := Lib.hid (R0.out.below hb)
              have R1 := Lib.hid (R1.out.below hb)
              have R2 := Lib.hid (R2.out.below hb)
              have BG := Lib.hid (BG.out.below hb)
              have HB := Lib.hid (next_below HB.out hb)
              clear  hb
              obtain ⟨j0, j1⟩ := BG.out.two
              go_wp2_with fail
              refine (rightP_any A1 c1 x1.length x1 w1 R1.out rfl (by omega)).mono ?_
              rintro e w2 ⟨rfl, hb⟩
              rw [show rightP x1 = true from H1.out]
              clear j0 j1
              have R0 := Lib.hid (R0.out.below hb)
              have R1 := Lib.hid (R1.out.below hb)
              have R2 := Lib.hid (R2.out.below hb)
              have BG := Lib.hid (BG.out.below hb)
              have HB := Lib.hid (next_below HB.out hb)
              clear  hb
              obtain ⟨j0, j1⟩ := BG.out.two
              go_wp2_with fail
              refine (rightP_any A2 c2 x2.length x2 w2 R2.out rfl (by omega)).mono ?_
              rintro e w3 ⟨rfl, hb⟩
              rw [show rightP x2 = true from H2.out]
              clear j0 j1
              have R0 := Lib.hid (R0.out.below hb)
              have R1 := Lib.hid (R1.out.below hb)
              have R2 := Lib.hid (R2.out.below hb)
              have BG := Lib.hid (BG.out.below hb)
              have HB := Lib.hid (next_below HB.out hb)
              clear  hb
              obtain ⟨j0, j1⟩ := BG.out.two
              go_wp2_with fail
              refine (awake_any w3).mono ?_
              rintro e w99 ⟨rfl, hb⟩
              go_wp2_with fail
              go_ret
              exact ⟨rfl, next_below HB.out hb⟩
      · have g1 : decide ((40 : Int) < N) = true := by rw [decide_eq_true_iff]; omega
        clear h0 hall hN4
        go_enter Try.func7, Try.ntmps7
        obtain ⟨j0, j1⟩ := BG.out.two
        go_wp2_with fail
        rw [← HW0.out]
        refine (right_any A0 c0 E.length N E w0 R0.out rfl).mono ?_
        rintro e w1 ⟨rfl, hb⟩
        rw [show rightG N E = true from H0.out]
        clear j0 j1
        have R0 := Lib.hid (R0.out.below hb)
        have R1 := Lib.hid (R1.out.below hb)
        have R2 := Lib.hid (R2.out.below hb)
        have BG := Lib.hid (BG.out.below hb)
        have HB := Lib.hid (next_below HB.out hb)
        clear  hb
        obtain ⟨j0, j1⟩ := BG.out.two
        go_wp2_with fail
        refine (awake_any w1).mono ?_
        rintro e w99 ⟨rfl, hb⟩
        go_wp2_with fail
        go_ret
        exact ⟨rfl, next_below HB.out hb⟩
end Go.Proofs.Ytgldlanfbkgfjaa
