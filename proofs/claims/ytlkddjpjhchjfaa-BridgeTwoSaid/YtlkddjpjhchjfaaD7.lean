/- Where there is one block alone, all hangs together without any one vertex (pure; layer 5, for BridgeTwo). -/
import Derived.Test.YtlkddjpjhchjfaaD1
namespace Go.Proofs.Ytlkddjpjhchjfaa

theorem Forest.one {n : Nat} {adj : Nat → Nat → Prop} {up : Nat → Option Nat} {num : Nat → Nat} (F : Forest n adj up num) {c : Nat} (hc : ∀ x y, adj x y → Cls adj up x y c) {a b f a' b' f' : Nat} (ea : adj a a') (eb : adj b b') (ef : adj f f') (ha : a ≠ f) (hb : b ≠ f) : Con (Wo adj f) a b := by
  obtain ⟨u, e, h1, _⟩ := F.ends ea (hc _ _ ea)
  obtain ⟨u2, e2, h2, _⟩ := F.ends eb (hc _ _ eb)
  obtain ⟨u3, e3, h3, _⟩ := F.ends ef (hc _ _ ef)
  rw [e] at e2 e3
  injection e2 with e2
  injection e3 with e3
  subst e2
  subst e3
  rcases h3 with h3 | h3
  · have key : ∀ x, x ≠ f → (Beg adj up x c ∨ x = u) → Con (Wo adj f) x u := fun x hx h => by
      rcases h with h | h
      · exact F.held e h h3 hx
      · rw [h]; exact .refl u
    exact (key a ha h1).trans ((key b hb h2).symm (F.wo_sym f))
  · subst h3
    exact F.held_top e (h1.resolve_right ha) (h2.resolve_right hb)
end Go.Proofs.Ytlkddjpjhchjfaa
