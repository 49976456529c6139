/- What is refused, and how; who is next (fretworkref04). What the program tells, said in one way. -/
import Derived.Test.YtpkiogcedfmodaaW41
import Derived.Test.YtpkiogcedfmodaaW31
import Derived.Test.YtpkiogcedfmodaaW36
namespace Go.Proofs.Ytpkiogcedfmodaa
open Go.RowKit

def askE (N : Int) (E : List (Int × Int)) (v : Int) : Int := if rightG N E = true then (if 0 ≤ v ∧ v < N then 0 else 2) else 20
theorem askE_wrong {N : Int} {E : List (Int × Int)} {v : Int} (h : rightG N E = false) : askE N E v = 20 := by unfold askE; rw [if_neg (by rw [h]; decide)]
theorem askE_out {N : Int} {E : List (Int × Int)} {v : Int} (h : rightG N E = true) (hv : ¬ (0 ≤ v ∧ v < N)) : askE N E v = 2 := by unfold askE; rw [if_pos h, if_neg hv]
theorem askE_ok {N : Int} {E : List (Int × Int)} {v : Int} (h : rightG N E = true) (hv : 0 ≤ v ∧ v < N) : askE N E v = 0 := by unfold askE; rw [if_pos h, if_pos hv]

set_option maxHeartbeats 4000000 in
theorem asked_any (A : Option Addr) (c n : Nat) (N v : Int) (E : List (Int × Int)) (w : World) (hr : RdP w A E) (hn : n = E.length) (hs : n ≤ 1000000) :
    Calls Try.prog 29 #[.agg #[.int .i64 N, .slice A n c], .int .i64 v] w fun e w' => e = .returned (.int .i64 (askE N E v)) ∧ Below w.heap.size w w' := by
  obtain ⟨W, hW⟩ : ∃ W, W = w.alloc (.cells #[.int .i64 N, .slice A n c] 24) := ⟨_, rfl⟩
  have hb : Below w.heap.size w W := by rw [hW]; exact (Below.refl _ _).alloc (Nat.le_refl _) _
  have hWS : w.heap.size < W.heap.size := by rw [hW]; simp
  obtain ⟨i0, i1, _, _⟩ := cells_two (w := W) (by rw [hW]; exact heap_alloc_new w _)
  have HJ : Hid (∀ w', Below W.heap.size W w' → w'.cell? ⟨w.heap.size, 0, none⟩ = some (.int .i64 N)) := fun w' hb => by rw [hb.cell (by show w.heap.size < _; omega)]; exact i0
  have HR := Lib.hid (hr.below hb)
  have HN := Lib.hid hn
  have HB := Lib.hid hb
  have HW := Lib.hid hW
  clear hr hb hW hn
  cases hg : rightG N E with
  | false =>
    have HA := Lib.hid (askE_wrong (v := v) hg)
    have HG := Lib.hid hg
    clear hg
    go_enter Try.func29, Try.ntmps29
    go_wp2_with fail
    rw [← HW.out]
    refine (refRight_any A c n N E W HR.out HN.out hs).mono ?_
    rintro e w1 ⟨rfl, hb1⟩
    rw [HG.out]
    go_wp2_with fail
    go_ret
    exact ⟨by rw [HA.out]; rfl, HB.out.trans (hb1.mono (Nat.le_of_lt hWS))⟩
  | true =>
    have HG := Lib.hid hg
    by_cases h0 : v < 0
    · have HA := Lib.hid (askE_out (v := v) hg (by omega))
      have d0 : decide (v < 0) = true := by simpa using h0
      clear hg
      go_enter Try.func29, Try.ntmps29
      go_wp2_with fail
      rw [← HW.out]
      refine (refRight_any A c n N E W HR.out HN.out hs).mono ?_
      rintro e w1 ⟨rfl, hb1⟩
      rw [HG.out]
      have HB1 := Lib.hid hb1
      clear hb1
      go_wp2_with fail
      go_ret
      exact ⟨by rw [HA.out]; rfl, HB.out.trans (HB1.out.mono (Nat.le_of_lt hWS))⟩
    · have d0 : decide (v < 0) = false := by simpa using h0
      by_cases h1 : N ≤ v
      · have HA := Lib.hid (askE_out (v := v) hg (by omega))
        have d1 : decide (N ≤ v) = true := by simpa using h1
        clear hg
        go_enter Try.func29, Try.ntmps29
        go_wp2_with fail
        rw [← HW.out]
        refine (refRight_any A c n N E W HR.out HN.out hs).mono ?_
        rintro e w1 ⟨rfl, hb1⟩
        rw [HG.out]
        have HB1 := Lib.hid hb1
        have j0 := HJ.out w1 hb1
        clear hb1
        go_wp2_with fail
        go_ret
        exact ⟨by rw [HA.out]; rfl, HB.out.trans (HB1.out.mono (Nat.le_of_lt hWS))⟩
      · have HA := Lib.hid (askE_ok (v := v) hg (by omega))
        have d1 : decide (N ≤ v) = false := by simpa using h1
        clear hg
        go_enter Try.func29, Try.ntmps29
        go_wp2_with fail
        rw [← HW.out]
        refine (refRight_any A c n N E W HR.out HN.out hs).mono ?_
        rintro e w1 ⟨rfl, hb1⟩
        rw [HG.out]
        have HB1 := Lib.hid hb1
        have j0 := HJ.out w1 hb1
        clear hb1
        go_wp2_with fail
        go_ret
        exact ⟨by rw [HA.out]; rfl, HB.out.trans (HB1.out.mono (Nat.le_of_lt hWS))⟩
set_option maxHeartbeats 4000000 in
theorem refused_any (A : Option Addr) (c n : Nat) (N v : Int) (E : List (Int × Int)) (w : World) (hr : RdP w A E) (hn : n = E.length) :
    Calls Try.prog 26 #[.agg #[.int .i64 N, .slice A n c], .int .i64 v] w fun e w' => e = .returned (.int .i64 (askE N E v)) ∧ Below w.heap.size w w' := by
  obtain ⟨W, hW⟩ : ∃ W, W = w.alloc (.cells #[.int .i64 N, .slice A n c] 24) := ⟨_, rfl⟩
  have hb : Below w.heap.size w W := by rw [hW]; exact (Below.refl _ _).alloc (Nat.le_refl _) _
  have hWS : w.heap.size < W.heap.size := by rw [hW]; simp
  obtain ⟨i0, i1, _, _⟩ := cells_two (w := W) (by rw [hW]; exact heap_alloc_new w _)
  have HJ : Hid (∀ w', Below W.heap.size W w' → w'.cell? ⟨w.heap.size, 0, none⟩ = some (.int .i64 N)) := fun w' hb => by rw [hb.cell (by show w.heap.size < _; omega)]; exact i0
  have HR := Lib.hid (hr.below hb)
  have HN := Lib.hid hn
  have HB := Lib.hid hb
  have HW := Lib.hid hW
  clear hr hb hW hn
  cases hg : rightG N E with
  | false =>
    have HA := Lib.hid (askE_wrong (v := v) hg)
    have HG := Lib.hid hg
    clear hg
    go_enter Try.func26, Try.ntmps26
    go_wp2_with fail
    rw [← HW.out]
    refine (right_any A c n N E W HR.out HN.out).mono ?_
    rintro e w1 ⟨rfl, hb1⟩
    rw [HG.out]
    go_wp2_with fail
    go_ret
    exact ⟨by rw [HA.out]; rfl, HB.out.trans (hb1.mono (Nat.le_of_lt hWS))⟩
  | true =>
    have HG := Lib.hid hg
    by_cases h0 : v < 0
    · have HA := Lib.hid (askE_out (v := v) hg (by omega))
      have d0 : decide (v < 0) = true := by simpa using h0
      clear hg
      go_enter Try.func26, Try.ntmps26
      go_wp2_with fail
      rw [← HW.out]
      refine (right_any A c n N E W HR.out HN.out).mono ?_
      rintro e w1 ⟨rfl, hb1⟩
      rw [HG.out]
      have HB1 := Lib.hid hb1
      clear hb1
      go_wp2_with fail
      go_ret
      exact ⟨by rw [HA.out]; rfl, HB.out.trans (HB1.out.mono (Nat.le_of_lt hWS))⟩
    · have d0 : decide (v < 0) = false := by simpa using h0
      by_cases h1 : N ≤ v
      · have HA := Lib.hid (askE_out (v := v) hg (by omega))
        have d1 : decide (N ≤ v) = true := by simpa using h1
        clear hg
        go_enter Try.func26, Try.ntmps26
        go_wp2_with fail
        rw [← HW.out]
        refine (right_any A c n N E W HR.out HN.out).mono ?_
        rintro e w1 ⟨rfl, hb1⟩
        rw [HG.out]
        have HB1 := Lib.hid hb1
        have j0 := HJ.out w1 hb1
        clear hb1
        go_wp2_with fail
        go_ret
        exact ⟨by rw [HA.out]; rfl, HB.out.trans (HB1.out.mono (Nat.le_of_lt hWS))⟩
      · have HA := Lib.hid (askE_ok (v := v) hg (by omega))
        have d1 : decide (N ≤ v) = false := by simpa using h1
        clear hg
        go_enter Try.func26, Try.ntmps26
        go_wp2_with fail
        rw [← HW.out]
        refine (right_any A c n N E W HR.out HN.out).mono ?_
        rintro e w1 ⟨rfl, hb1⟩
        rw [HG.out]
        have HB1 := Lib.hid hb1
        have j0 := HJ.out w1 hb1
        clear hb1
        go_wp2_with fail
        go_ret
        exact ⟨by rw [HA.out]; rfl, HB.out.trans (HB1.out.mono (Nat.le_of_lt hWS))⟩
end Go.Proofs.Ytpkiogcedfmodaa
