/- Is a graph right, and of at most 30 vertices? (layer 8) -/
import Derived.Test.YtlkddjpjhchjfaaW2
namespace Go.Proofs.Ytlkddjpjhchjfaa
set_option maxRecDepth 100000
open Go.RowKit

/-- A graph that is looked at here. -/
def rightS (N : Int) (E : List (Int × Int)) : Bool := rightG N E && decide (N ≤ 30)
theorem rightS_any (A : Option Addr) (c n : Nat) (N : Int) (E : List (Int × Int)) (w : World) (hr : RdP w A E) (hn : n = E.length) :
    Calls Try.prog 40 #[.agg #[.int .i64 N, .slice A n c]] w fun e w' => e = .returned (.bool (rightS N E)) ∧ Below w.heap.size w w' := by
  obtain ⟨X, hX⟩ : ∃ X, X = w.alloc (.cells #[.int .i64 N, .slice A n c] 24) := ⟨_, rfl⟩
  have hb : Below w.heap.size w X := by rw [hX]; exact (Below.refl _ _).alloc (Nat.le_refl _) _
  have hXS : w.heap.size < X.heap.size := by rw [hX]; simp
  obtain ⟨j0, j1, _, _⟩ := cells_two (w := X) (by rw [hX]; exact heap_alloc_new w _)
  have HJ : Hid (∀ w', Below X.heap.size X w' → w'.cell? ⟨w.heap.size, 0, none⟩ = some (.int .i64 N) ∧ w'.cell? ⟨w.heap.size, 1, none⟩ = some (.slice A n c)) := fun w' hb =>
    ⟨by rw [hb.cell (by show w.heap.size < _; omega)]; exact j0, by rw [hb.cell (by show w.heap.size < _; omega)]; exact j1⟩
  have HR := right_any A c n N E X (hr.below hb) hn
  obtain ⟨p, hp⟩ : ∃ p, rightG N E = p := ⟨_, rfl⟩
  unfold rightS
  rw [hp] at HR ⊢
  have HR := Lib.hid HR
  have HX := Lib.hid hX
  have HB := Lib.hid hb
  clear hr hn hX hb hp
  cases h30 : decide (N ≤ 30)
  all_goals
    have h31 : decide (N ≤ 30) = decide (N ≤ 30) := rfl
    clear h31
    go_enter Try.func40, Try.ntmps40
    go_wp2_with fail
    rw [← HX.out]
    refine HR.out.mono ?_
    rintro e w1 ⟨rfl, hb1⟩
    have HB1 := Lib.hid hb1
    clear hb1
    obtain ⟨k0, k1⟩ := HJ.out w1 HB1.out
    cases p
    all_goals
      go_wp2_with fail
      go_ret
      exact ⟨rfl, HB.out.trans (HB1.out.mono (Nat.le_of_lt hXS))⟩
end Go.Proofs.Ytlkddjpjhchjfaa
