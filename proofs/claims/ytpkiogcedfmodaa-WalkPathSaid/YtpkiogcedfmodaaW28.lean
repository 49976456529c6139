/- WalkPath, for whatever graph. -/
import Derived.Test.YtpkiogcedfmodaaW27
namespace Go.Proofs.Ytpkiogcedfmodaa
open Go.RowKit

theorem path_walk (v0 : Value) (a b : Int) (w : World) (h0 : OkGraph w v0) (_ : -9223372036854775808 ≤ a ∧ a < 9223372036854775808) (_ : -9223372036854775808 ≤ b ∧ b < 9223372036854775808) :
    Calls Try.prog 7 #[v0, .int .i64 a, .int .i64 b] w fun e w' => e = .returned (.bool true) ∧ Below w.heap.size w w' := by
  obtain ⟨N, A, c, E, rfl, _, _, hr, _⟩ := h0
  cases ht : thereB N E [a, b] with
  | false => exact path_no A c N a b E w hr ht
  | true =>
    obtain ⟨hv, hg, hN⟩ := thereB_yes ht
    have h1 := hv a (by simp)
    have h2 := hv b (by simp)
    obtain ⟨a, rfl⟩ := Int.eq_ofNat_of_zero_le h1.1
    obtain ⟨b, rfl⟩ := Int.eq_ofNat_of_zero_le h2.1
    obtain ⟨N, rfl⟩ := Int.eq_ofNat_of_zero_le (show 0 ≤ N by omega)
    exact path_yes A c N a b E w hr hg (by omega) (by omega) (by omega) ht
end Go.Proofs.Ytpkiogcedfmodaa
