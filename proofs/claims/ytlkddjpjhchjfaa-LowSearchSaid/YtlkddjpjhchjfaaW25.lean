/- What a path holds to (no world here). -/
import Derived.Test.YtlkddjpjhchjfaaW16
import Derived.Test.YtlkddjpjhchjfaaW24
namespace Go.Proofs.Ytlkddjpjhchjfaa
set_option maxRecDepth 100000

theorem hasG_adj {N u v : Nat} {E : List (Int × Int)} (hg : rightG (N : Nat) E = true) (hu : u < N) (hv : v < N) : hasG E u v = true ↔ adj (tabG N E) u v := by
  unfold hasG adj
  rw [decide_eq_true_iff, tabG_getD, if_pos hu]
  rcases Nat.lt_trichotomy u v with h | h | h
  · rw [show min (u : Int) (v : Int) = u by omega, show max (u : Int) (v : Int) = v by omega]
    refine ⟨fun hm => mem_bes (.inl hm), fun hm => ?_⟩
    rcases bes_mem hm with h1 | h1
    · exact h1
    · have := rightG_mem hg h1; simp only [] at this; omega
  · subst h
    rw [show min (u : Int) (u : Int) = u by omega, show max (u : Int) (u : Int) = u by omega]
    constructor
    · intro hm; have := rightG_mem hg hm; simp only [] at this; omega
    · intro hm
      rcases bes_mem hm with h1 | h1 <;> (have := rightG_mem hg h1; simp only [] at this; omega)
  · rw [show min (u : Int) (v : Int) = v by omega, show max (u : Int) (v : Int) = u by omega]
    refine ⟨fun hm => mem_bes (.inr ⟨hm, by omega⟩), fun hm => ?_⟩
    rcases bes_mem hm with h1 | h1
    · have := rightG_mem hg h1; simp only [] at this; omega
    · exact h1
theorem other_some {v b : Int} {e : Int × Int} (h : other v e = some b) : e.1 = v ∧ e.2 = b ∨ e.1 ≠ v ∧ e.2 = v ∧ e.1 = b := by
  unfold other at h
  split at h
  · rename_i h1; exact .inl ⟨h1, Option.some.inj h⟩
  · rename_i h1
    split at h
    · rename_i h2; exact .inr ⟨h1, h2, Option.some.inj h⟩
    · cases h
theorem bes_up {N : Nat} {E : List (Int × Int)} (hg : rightG (N : Nat) E = true) (v : Int) : (bes E v).Pairwise (· < ·) := by
  unfold bes
  rw [List.pairwise_filterMap]
  have ho := rightG_ord hg
  rw [List.pairwise_iff_getElem]
  intro i j hi hj hij b hb b' hb'
  have h1 := ho i j hij hj
  rw [cmpP_neg] at h1
  simp only [List.getD, List.getElem?_eq_getElem hi, List.getElem?_eq_getElem hj, Option.getD_some] at h1
  have e1 := rightG_mem hg (List.getElem_mem hi)
  have e2 := rightG_mem hg (List.getElem_mem hj)
  generalize E[i] = e at *
  generalize E[j] = e' at *
  rcases other_some hb with h2 | h2 <;> rcases other_some hb' with h3 | h3 <;> omega
theorem prunP_at (T : List (List Int)) (left : List Int) (fr : Nat) : ∀ k i, i ≤ k → (prunP T left fr k).1[i]? = some (prunP T left fr i).2 ∧ (prunP T left fr k).1.length = k + 1
  | 0, i, h => by
    obtain rfl : i = 0 := by omega
    simp [prunP]
  | k + 1, i, h => by
    have hl := (prunP_at T left fr k 0 (by omega)).2
    refine ⟨?_, by show ((prunP T left fr k).1 ++ [_]).length = _; rw [List.length_append, hl]; rfl⟩
    show ((prunP T left fr k).1 ++ [pnext T left (prunP T left fr k).2])[i]? = _
    by_cases hik : i ≤ k
    · rw [List.getElem?_append_left (by omega)]
      exact (prunP_at T left fr k i hik).1
    · obtain rfl : i = k + 1 := by omega
      rw [List.getElem?_append_right (by omega), hl]
      simp [prunP]
/-- Each step of a path. -/
theorem path_step {N tt fr D : Nat} {E : List (Int × Int)} {left : List Int} (hg : rightG (N : Nat) E = true) (hD : Dist (tabG N E) N tt left) (hf : fr < N) (h0 : gd left fr = (D : Int)) : ∀ i, i ≤ D → (prunP (tabG N E) left fr i).2 < N ∧ gd left (prunP (tabG N E) left fr i).2 = (D : Int) - i
  | 0, _ => ⟨hf, by show gd left fr = _; omega⟩
  | i + 1, hi => by
    obtain ⟨h1, h2⟩ := path_step hg hD hf h0 i (by omega)
    obtain ⟨k, y, _, hy, hgy, _, hp⟩ := next_is hD (fun u v => tabG_sym hg) (fun x hx => tabG_mem hg hx) h1 (by omega)
    have e : (prunP (tabG N E) left fr (i + 1)).2 = y := hp
    rw [e]
    exact ⟨hy, by omega⟩
theorem path_least {N tt v : Nat} {E : List (Int × Int)} {left : List Int} (hg : rightG (N : Nat) E = true) (hD : Dist (tabG N E) N tt left) (hv : v < N) (h0 : 0 < gd left v) :
    adj (tabG N E) v (pnext (tabG N E) left v) ∧ ∀ x, x < pnext (tabG N E) left v → adj (tabG N E) v x → gd left x ≠ gd left v - 1 := by
  obtain ⟨k, y, hk, hy, hgy, hno, hp⟩ := next_is hD (fun u v => tabG_sym hg) (fun x hx => tabG_mem hg hx) hv h0
  rw [hp]
  refine ⟨List.mem_of_getElem? hk, fun x hx ha => ?_⟩
  obtain ⟨j, hj⟩ := List.getElem?_of_mem ha
  refine hno j x ?_ hj
  have hup : ((tabG N E).getD v []).Pairwise (· < ·) := by rw [tabG_getD, if_pos hv]; exact bes_up hg _
  rw [List.pairwise_iff_getElem] at hup
  obtain ⟨hkl, hke⟩ := List.getElem?_eq_some_iff.1 hk
  obtain ⟨hjl, hje⟩ := List.getElem?_eq_some_iff.1 hj
  rcases Nat.lt_trichotomy j k with h | h | h
  · exact h
  · subst h; rw [hke] at hje; omega
  · have := hup k j hkl hjl h
    rw [hke, hje] at this
    omega
end Go.Proofs.Ytlkddjpjhchjfaa
