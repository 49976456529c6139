/- Has a graph an edge? -/
import Derived.Test.YtlkddjpjhchjfaaW23
namespace Go.Proofs.Ytlkddjpjhchjfaa
set_option maxRecDepth 100000
open Go.RowKit

def hasG (E : List (Int × Int)) (a b : Int) : Bool := decide ((min a b, max a b) ∈ E)
set_option maxHeartbeats 4000000 in
theorem has_any (A : Option Addr) (c n N : Nat) (E : List (Int × Int)) (a b : Int) (w : World) (hr : RdP w A E) (hn : n = E.length) (hg : rightG (N : Nat) E = true) :
    Calls Try.prog 37 #[.agg #[.int .i64 (N : Nat), .slice A n c], .int .i64 a, .int .i64 b] w fun e w' => e = .returned (.bool (hasG E a b)) ∧ Below w.heap.size w w' := by
  obtain ⟨W, hW⟩ : ∃ W, W = w.alloc (.cells #[.int .i64 (N : Nat), .slice A n c] 24) := ⟨_, rfl⟩
  have hb : Below w.heap.size w W := by rw [hW]; exact (Below.refl _ _).alloc (Nat.le_refl _) _
  have hWS : w.heap.size < W.heap.size := by rw [hW]; simp
  obtain ⟨i0, i1, _, _⟩ := cells_two (w := W) (by rw [hW]; exact heap_alloc_new w _)
  have HJ : Hid (∀ w', Below W.heap.size W w' → w'.cell? ⟨w.heap.size, 0, none⟩ = some (.int .i64 (N : Nat)) ∧ w'.cell? ⟨w.heap.size, 1, none⟩ = some (.slice A n c)) := fun w' hb =>
    ⟨by rw [hb.cell (by show w.heap.size < _; omega)]; exact i0, by rw [hb.cell (by show w.heap.size < _; omega)]; exact i1⟩
  have hn6 : n ≤ 594 := by have := rightG_bounds hg; omega
  have HR := Lib.hid (hr.below hb)
  have HN := Lib.hid hn
  have HG := Lib.hid hg
  have HB := Lib.hid hb
  have HW := Lib.hid hW
  clear hr hn hg hb hW
  obtain ⟨r, hrr⟩ : ∃ r, hasG E a b = r := ⟨_, rfl⟩
  have HRR := Lib.hid hrr
  rw [hrr]
  clear hrr
  go_enter Try.func37, Try.ntmps37
  go_wp2_with fail
  rw [← HW.out]
  refine (right_any A c n (N : Nat) E W HR.out HN.out).mono ?_
  rintro e w1 ⟨rfl, hb1⟩
  rw [HG.out]
  have HB1 := Lib.hid hb1
  clear i0 i1 hb1
  obtain ⟨j0, j1⟩ := HJ.out w1 HB1.out
  go_wp2_with fail
  · have hmm : Hid (r = decide ((b, a) ∈ E)) := by
      show r = _
      rw [← HRR.out]
      unfold hasG
      rw [show min a b = b by omega, show max a b = a by omega]
    refine (bsf_any A c n E b a w1 (HR.out.below HB1.out) HN.out (by omega) (rightG_ord HG.out)).mono ?_
    rintro e w2 ⟨i, rfl, hb2⟩
    have HB2 := Lib.hid (next_below HB1.out hb2)
    rw [← hmm.out]
    clear hb2 j0 j1 hmm
    go_wp2_with fail
    go_ret
    exact ⟨rfl, HB.out.trans (HB2.out.mono (Nat.le_of_lt hWS))⟩
  · have hmm : Hid (r = decide ((a, b) ∈ E)) := by
      show r = _
      rw [← HRR.out]
      unfold hasG
      rw [show min a b = a by omega, show max a b = b by omega]
    refine (bsf_any A c n E a b w1 (HR.out.below HB1.out) HN.out (by omega) (rightG_ord HG.out)).mono ?_
    rintro e w2 ⟨i, rfl, hb2⟩
    have HB2 := Lib.hid (next_below HB1.out hb2)
    rw [← hmm.out]
    clear hb2 j0 j1 hmm
    go_wp2_with fail
    go_ret
    exact ⟨rfl, HB.out.trans (HB2.out.mono (Nat.le_of_lt hWS))⟩
  · have hmm : Hid (r = decide ((a, a) ∈ E)) := by
      show r = _
      rw [← HRR.out]
      unfold hasG
      rw [show min a b = a by omega, show max a b = a by omega]
    refine (bsf_any A c n E a a w1 (HR.out.below HB1.out) HN.out (by omega) (rightG_ord HG.out)).mono ?_
    rintro e w2 ⟨i, rfl, hb2⟩
    have HB2 := Lib.hid (next_below HB1.out hb2)
    rw [← hmm.out]
    clear hb2 j0 j1 hmm
    go_wp2_with fail
    go_ret
    exact ⟨rfl, HB.out.trans (HB2.out.mono (Nat.le_of_lt hWS))⟩
end Go.Proofs.Ytlkddjpjhchjfaa
