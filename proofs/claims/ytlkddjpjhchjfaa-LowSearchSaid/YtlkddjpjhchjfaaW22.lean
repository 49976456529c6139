/- Pairs in order (no world here). -/
import Derived.Test.YtlkddjpjhchjfaaW11
namespace Go.Proofs.Ytlkddjpjhchjfaa

theorem cmpZ_cases (a b : Int) : a < b ∧ cmpZ a b = -1 ∨ a = b ∧ cmpZ a b = 0 ∨ b < a ∧ cmpZ a b = 1 := by
  unfold cmpZ
  split
  · exact .inl ⟨by assumption, rfl⟩
  · split
    · exact .inr (.inr ⟨by assumption, rfl⟩)
    · exact .inr (.inl ⟨by omega, rfl⟩)
theorem cmpP_neg (a b : Int × Int) : cmpP a b < 0 ↔ a.1 < b.1 ∨ a.1 = b.1 ∧ a.2 < b.2 := by
  unfold cmpP orZ
  rcases cmpZ_cases a.1 b.1 with ⟨h, e⟩ | ⟨h, e⟩ | ⟨h, e⟩ <;> rcases cmpZ_cases a.2 b.2 with ⟨h2, e2⟩ | ⟨h2, e2⟩ | ⟨h2, e2⟩ <;> rw [e, e2] <;> simp <;> omega
theorem cmpP_zero (a b : Int × Int) : cmpP a b = 0 ↔ a = b := by
  have hx : a = b ↔ a.1 = b.1 ∧ a.2 = b.2 := by
    cases a; cases b; simp
  rw [hx]
  unfold cmpP orZ
  rcases cmpZ_cases a.1 b.1 with ⟨h, e⟩ | ⟨h, e⟩ | ⟨h, e⟩ <;> rcases cmpZ_cases a.2 b.2 with ⟨h2, e2⟩ | ⟨h2, e2⟩ | ⟨h2, e2⟩ <;> rw [e, e2] <;> simp <;> omega
theorem cmpP_trans {a b d : Int × Int} (h : cmpP a b < 0) (k : cmpP b d < 0) : cmpP a d < 0 := by
  rw [cmpP_neg] at *
  omega
theorem rightG_next {N : Int} {E : List (Int × Int)} (h : rightG N E = true) {k : Nat} (hk : k + 1 < E.length) : cmpP (E.getD k (0, 0)) (E.getD (k + 1) (0, 0)) < 0 := by
  unfold rightG at h
  rw [Bool.and_eq_true, List.all_eq_true] at h
  have h2 := h.2 (k + 1) (List.mem_range.2 hk)
  unfold okE at h2
  rw [Bool.and_eq_true, Bool.or_eq_true] at h2
  rcases h2.2 with h3 | h3
  · simp at h3
  · simpa using h3
theorem rightG_lt {N : Int} {E : List (Int × Int)} (h : rightG N E = true) : ∀ (d i : Nat), i + d + 1 < E.length → cmpP (E.getD i (0, 0)) (E.getD (i + d + 1) (0, 0)) < 0
  | 0, i, hi => rightG_next h hi
  | d + 1, i, hi => cmpP_trans (rightG_lt h d i (by omega)) (rightG_next h (by omega))
/-- In strict order. -/
def Ord (E : List (Int × Int)) : Prop := ∀ i j, i < j → j < E.length → cmpP (E.getD i (0, 0)) (E.getD j (0, 0)) < 0
theorem rightG_ord {N : Int} {E : List (Int × Int)} (h : rightG N E = true) : Ord E := fun i j hij hj => by
  obtain ⟨d, rfl⟩ : ∃ d, j = i + d + 1 := ⟨j - i - 1, by omega⟩
  exact rightG_lt h d i hj
/-- What a search in halves holds to. -/
def Half (E : List (Int × Int)) (t : Int × Int) (i j : Nat) : Prop := (∀ q, q < i → cmpP (E.getD q (0, 0)) t < 0) ∧ ∀ q, j ≤ q → q < E.length → ¬ cmpP (E.getD q (0, 0)) t < 0
theorem Half.up {E : List (Int × Int)} {t : Int × Int} {i j h : Nat} (k : Half E t i j) (o : Ord E) (hl : h < E.length) (hc : cmpP (E.getD h (0, 0)) t < 0) : Half E t (h + 1) j :=
  ⟨fun q hq => by
    by_cases e : q = h
    · subst e; exact hc
    · exact cmpP_trans (o q h (by omega) hl) hc, k.2⟩
theorem Half.down {E : List (Int × Int)} {t : Int × Int} {i j h : Nat} (k : Half E t i j) (o : Ord E) (hc : ¬ cmpP (E.getD h (0, 0)) t < 0) : Half E t i h :=
  ⟨k.1, fun q hq hl hn => by
    by_cases e : q = h
    · subst e; exact hc hn
    · exact hc (cmpP_trans (o h q (by omega) hl) hn)⟩
theorem Half.found {E : List (Int × Int)} {t : Int × Int} {i : Nat} (k : Half E t i i) (o : Ord E) : t ∈ E ↔ i < E.length ∧ cmpP (E.getD i (0, 0)) t = 0 := by
  constructor
  · intro hm
    obtain ⟨q, hq⟩ := List.getElem?_of_mem hm
    have hql := (List.getElem?_eq_some_iff.1 hq).1
    have hqd : E.getD q (0, 0) = t := by simp [List.getD, hq]
    have h0 : cmpP (E.getD q (0, 0)) t = 0 := by rw [cmpP_zero]; exact hqd
    by_cases h1 : q < i
    · have := k.1 q h1; omega
    · by_cases h2 : q = i
      · subst h2; exact ⟨hql, h0⟩
      · have h3 := o i q (by omega) hql
        rw [hqd] at h3
        exact absurd h3 (k.2 i (Nat.le_refl _) (by omega))
  · rintro ⟨hl, hc⟩
    rw [cmpP_zero] at hc
    rw [← hc]
    simp [List.getD, List.getElem?_eq_getElem hl]
end Go.Proofs.Ytlkddjpjhchjfaa
