/- The least one of the shortest ways. -/
import Derived.Test.YtlkddjpjhchjfaaW13
namespace Go.Proofs.Ytlkddjpjhchjfaa
set_option maxRecDepth 100000
open Go.RowKit

theorem tabG_sym {N : Nat} {E : List (Int × Int)} (h : rightG (N : Nat) E = true) {u v : Nat} (ha : adj (tabG N E) u v) : adj (tabG N E) v u := by
  unfold adj at ha ⊢
  obtain ⟨y, e, hvN⟩ := tabG_mem h ha
  have hvN2 : v < N := by omega
  rw [tabG_getD] at ha ⊢
  rw [if_pos hvN2]
  split at ha
  · rcases bes_mem ha with h1 | h1
    · have := rightG_mem h h1
      simp only at this
      exact mem_bes (.inr ⟨h1, by omega⟩)
    · exact mem_bes (.inl h1)
  · cases ha
theorem first_in {α : Type} (p : α → Bool) : ∀ (xs : List α), (∃ x ∈ xs, p x = true) → ∃ (k : Nat) (x : α), xs[k]? = some x ∧ p x = true ∧ ∀ (j : Nat) (y : α), j < k → xs[j]? = some y → p y = false
  | [], h => by obtain ⟨x, hx, _⟩ := h; cases hx
  | a :: r, h => by
    by_cases ha : p a = true
    · exact ⟨0, a, rfl, ha, fun j y hj => absurd hj (by omega)⟩
    · obtain ⟨x, hx, hp⟩ := h
      have hxr : x ∈ r := by
        rcases List.mem_cons.1 hx with rfl | h1
        · exact absurd hp ha
        · exact h1
      obtain ⟨k, z, h1, h2, h3⟩ := first_in p r ⟨x, hxr, hp⟩
      refine ⟨k + 1, z, by simpa using h1, h2, fun j y hj hy => ?_⟩
      match j, hy with
      | 0, hy =>
        simp at hy
        subst hy
        simpa using ha
      | j + 1, hy => exact h3 j y (by omega) (by simpa using hy)
def nearB (left : List Int) (v w : Nat) : Bool := gd left w == gd left v - 1
def pnext (T : List (List Int)) (left : List Int) (v : Nat) : Nat := (((T.getD v []).map Int.toNat).find? (nearB left v)).getD 0
def prunP (T : List (List Int)) (left : List Int) (fr : Nat) : Nat → List Nat × Nat
  | 0 => ([fr], fr)
  | k + 1 => ((prunP T left fr k).1 ++ [pnext T left (prunP T left fr k).2], pnext T left (prunP T left fr k).2)
/-- There is a next one, and it is the first of its row that is nearer. -/
theorem next_is {T : List (List Int)} {N tt v : Nat} {left : List Int} (hD : Dist T N tt left) (hsym : ∀ u v, adj T u v → adj T v u) (hnat : ∀ x ∈ T.getD v [], ∃ y : Nat, x = (y : Int) ∧ y < N) (hv : v < N) (h0 : 0 < gd left v) :
    ∃ k y : Nat, (T.getD v [])[k]? = some (y : Int) ∧ y < N ∧ gd left y = gd left v - 1 ∧ (∀ j z : Nat, j < k → (T.getD v [])[j]? = some (z : Int) → gd left z ≠ gd left v - 1) ∧ pnext T left v = y := by
  obtain ⟨u, hu, ha, he⟩ := hD.from_ v hv h0
  have ha2 := hsym u v ha
  obtain ⟨k, x, h1, h2, h3⟩ := first_in (fun x : Int => nearB left v x.toNat) (T.getD v []) ⟨(u : Int), ha2, by simp [nearB, he]⟩
  obtain ⟨y, rfl, hy⟩ := hnat x (List.mem_of_getElem? h1)
  have h2' : gd left y = gd left v - 1 := by simpa [nearB] using h2
  refine ⟨k, y, h1, hy, h2', fun j z hj hz e => ?_, ?_⟩
  · have := h3 j (z : Int) hj hz
    simp [nearB, e] at this
  · have hf : ((T.getD v []).map Int.toNat).find? (nearB left v) = some y := by
      rw [List.find?_eq_some_iff_getElem]
      have hkl := (List.getElem?_eq_some_iff.1 h1).1
      have hke := (List.getElem?_eq_some_iff.1 h1).2
      refine ⟨by simpa using h2, k, by simpa using hkl, by rw [List.getElem_map, hke]; rfl, fun j hj => ?_⟩
      have := h3 j _ hj (List.getElem?_eq_getElem (by omega))
      rw [List.getElem_map]
      simpa using this
    unfold pnext
    rw [hf]
    rfl

end Go.Proofs.Ytlkddjpjhchjfaa
