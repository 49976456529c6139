/- Which block has an edge (pure; layer 5). -/
import Derived.Test.YtlkddjpjhchjfaaDD
import Derived.Test.YtlkddjpjhchjfaaUE
namespace Go.Proofs.Ytlkddjpjhchjfaa
set_option maxRecDepth 100000
open Go.RowKit

theorem filter_head5 {p : Nat → Bool} {k f : Nat} (hf : f < k) (hp : p f = true) (hn : ∀ j, j < f → p j = false) : ((List.range k).filter p)[0]? = some f := by
  obtain ⟨m, rfl⟩ : ∃ m, k = f + (m + 1) := ⟨k - f - 1, by omega⟩
  rw [List.range_add, List.filter_append]
  have h1 : (List.range f).filter p = [] := by
    rw [List.filter_eq_nil_iff]
    intro j hj
    rw [hn j (List.mem_range.1 hj)]
    simp
  rw [h1, List.nil_append, List.range_succ_eq_map, List.map_cons, List.filter_cons_of_pos (by simpa using hp)]
  simp
section
variable {L : List (Int × Int)} {own : Nat → Nat} {k : Nat}
theorem blkO_at {j : Nat} {x : List (Int × Int)} (h : (blkO L own k)[j]? = some x) : ∃ f, (firsts own k)[j]? = some f ∧ x = (those own k (own f)).map fun i => L.getD i (0, 0) := by
  unfold blkO gath at h
  rw [List.getElem?_map, List.getElem?_map] at h
  cases hf : (firsts own k)[j]? with
  | none => rw [hf] at h; cases h
  | some f =>
    rw [hf] at h
    simp only [Option.map_some, Option.some.injEq] at h
    exact ⟨f, rfl, h.symm⟩
theorem firsts_lt5 {i j a b : Nat} (ha : (firsts own k)[i]? = some a) (hb : (firsts own k)[j]? = some b) (hij : i < j) : a < b := by
  have hp : (firsts own k).Pairwise (· < ·) := by
    unfold firsts
    exact List.pairwise_lt_range.filter _
  obtain ⟨h1, e1⟩ := List.getElem?_eq_some_iff.1 ha
  obtain ⟨h2, e2⟩ := List.getElem?_eq_some_iff.1 hb
  rw [← e1, ← e2]
  exact (List.pairwise_iff_getElem.1 hp) i j h1 h2 hij
theorem blkO_head {j : Nat} {x : List (Int × Int)} (hk : k ≤ L.length) (h : (blkO L own k)[j]? = some x) : ∃ f e, (firsts own k)[j]? = some f ∧ L[f]? = some e ∧ x[0]? = some e := by
  obtain ⟨f, hf, rfl⟩ := blkO_at h
  have hm := mem_firsts.1 (List.mem_of_getElem? hf)
  obtain ⟨e, he⟩ : ∃ e, L[f]? = some e := ⟨_, List.getElem?_eq_getElem (by omega)⟩
  refine ⟨f, e, hf, he, ?_⟩
  rw [List.getElem?_map]
  unfold those
  rw [filter_head5 hm.1 (by simp) (fun j hj => by simpa using hm.2 j hj)]
  simp [List.getD, he]
theorem range_getD5 (E : List (Int × Int)) : (List.range E.length).map (fun i => E.getD i (0, 0)) = E := by
  apply List.ext_getElem?
  intro i
  by_cases h : i < E.length
  · simp [List.getD, h]
  · rw [List.getElem?_eq_none (by simp; omega), List.getElem?_eq_none (by omega)]
theorem blkO_sub {j : Nat} {x : List (Int × Int)} (hk : k = L.length) (h : (blkO L own k)[j]? = some x) : x.Sublist L := by
  obtain ⟨f, _, rfl⟩ := blkO_at h
  subst hk
  have h2 := (List.filter_sublist (p := fun j => own j == own f) (l := List.range L.length)).map fun i => L.getD i (0, 0)
  rwa [range_getD5] at h2
theorem blkO_has {j i : Nat} {x : List (Int × Int)} {e : Int × Int} (nd : L.Nodup) (hk : k ≤ L.length) (h : (blkO L own k)[j]? = some x) (he : L[i]? = some e) (hi : i < k) : e ∈ x ↔ place own k (own i) = some j := by
  obtain ⟨f, hf, rfl⟩ := blkO_at h
  have hfm := mem_firsts.1 (List.mem_of_getElem? hf)
  constructor
  · intro hm
    obtain ⟨i2, hi2, e2⟩ := List.mem_map.1 hm
    have h2 := List.mem_filter.1 hi2
    have hi2k := List.mem_range.1 h2.1
    have h3 : L[i2]? = some e := by rw [← e2]; simp [List.getD, show i2 < L.length by omega]
    have : i2 = i := by
      obtain ⟨l1, e1⟩ := List.getElem?_eq_some_iff.1 h3
      obtain ⟨l2, e3⟩ := List.getElem?_eq_some_iff.1 he
      exact (List.getElem_inj nd).1 (e1.trans e3.symm)
    subst this
    have ho : own i2 = own f := by simpa using h2.2
    cases hp : place own k (own i2) with
    | none => exact absurd rfl (place_none.1 hp i2 hi)
    | some j2 =>
      obtain ⟨g, hg, eg⟩ := place_some hp
      have hgm := mem_firsts.1 (List.mem_of_getElem? hg)
      have hgf : g = f := by
        rcases Nat.lt_trichotomy g f with h4 | h4 | h4
        · exact absurd (eg.trans ho) (hfm.2 g h4)
        · exact h4
        · exact absurd (ho.symm.trans eg.symm) (hgm.2 f h4)
      subst hgf
      rcases Nat.lt_trichotomy j2 j with h4 | h4 | h4
      · exact absurd (firsts_lt5 hg hf h4) (Nat.lt_irrefl _)
      · rw [h4]
      · exact absurd (firsts_lt5 hf hg h4) (Nat.lt_irrefl _)
  · intro hp
    obtain ⟨g, hg, eg⟩ := place_some hp
    rw [hf] at hg
    injection hg with hg
    subst hg
    refine List.mem_map.2 ⟨i, List.mem_filter.2 ⟨List.mem_range.2 hi, by simpa using eg.symm⟩, ?_⟩
    simp [List.getD, he]
theorem place_is {i : Nat} (hi : i < k) : ∃ j x, place own k (own i) = some j ∧ (blkO L own k)[j]? = some x := by
  cases hp : place own k (own i) with
  | none => exact absurd rfl (place_none.1 hp i hi)
  | some j =>
    obtain ⟨g, hg, _⟩ := place_some hp
    have hl := (List.getElem?_eq_some_iff.1 hg).1
    exact ⟨j, _, rfl, List.getElem?_eq_getElem (by rw [blkO_length]; exact hl)⟩
theorem place_eq {i j : Nat} (hi : i < k) (hj : j < k) : place own k (own i) = place own k (own j) ↔ own i = own j := by
  constructor
  · intro h
    obtain ⟨a, _, ha, _⟩ := place_is (L := ([] : List (Int × Int))) (own := own) hi
    rw [ha] at h
    obtain ⟨f, h1, h2⟩ := place_some ha
    obtain ⟨g, h3, h4⟩ := place_some h.symm
    rw [h1] at h3
    injection h3 with h3
    rw [← h2, ← h4, h3]
  · intro h
    rw [h]
theorem flat_len : ∀ (k : Nat), k ≤ L.length → (blkO L own k).flatten.length = k
  | 0, _ => rfl
  | k + 1, hk => by
    have ih := flat_len k (by omega)
    obtain ⟨e, he⟩ : ∃ e, L[k]? = some e := ⟨_, List.getElem?_eq_getElem (by omega)⟩
    have hset : ∀ (G : List (List (Int × Int))) (a : Nat) (x y : List (Int × Int)), G[a]? = some x → (G.set a y).flatten.length + x.length = G.flatten.length + y.length := by
      intro G
      induction G with
      | nil => intro a x y h; simp at h
      | cons g G ih2 =>
        intro a x y h
        match a, h with
        | 0, h =>
          simp at h
          subst h
          simp only [List.set_cons_zero, List.flatten_cons, List.length_append]
          omega
        | a + 1, h =>
          have := ih2 a x y (by simpa using h)
          simp only [List.set_cons_succ, List.flatten_cons, List.length_append]
          omega
    cases hp : place own k (own k) with
    | none =>
      rw [← blkO_new he hp]
      have := hset (blkO L own k ++ [[]]) (blkO L own k).length [] [e] (by simp)
      simp only [List.flatten_append, List.length_append, List.flatten_cons, List.flatten_nil, List.length_nil, List.length_cons] at this ⊢
      omega
    | some a =>
      obtain ⟨x, hx, hs⟩ := blkO_old he hp
      rw [← hs]
      have := hset _ a x (x ++ [e]) hx
      rw [List.length_append] at this
      simp only [List.length_cons, List.length_nil] at this
      omega
end
end Go.Proofs.Ytlkddjpjhchjfaa
