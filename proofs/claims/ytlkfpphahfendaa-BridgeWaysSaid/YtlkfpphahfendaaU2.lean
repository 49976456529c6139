/- Things gathered by whose they are, in the order in which the first of each is met (pure). -/
import Derived.Test.YtlkfpphahfendaaRG
namespace Go.Proofs.Ytlkfpphahfendaa
open Go.RowKit

/-- Is i the first one of its owner? -/
def isF (own : Nat → Nat) (i : Nat) : Bool := (List.range i).all fun j => own j != own i
theorem isF_iff {own : Nat → Nat} {i : Nat} : isF own i = true ↔ ∀ j, j < i → own j ≠ own i := by
  unfold isF
  rw [List.all_eq_true]
  constructor
  · intro h j hj
    have := h j (List.mem_range.2 hj)
    simpa using this
  · intro h j hj
    have := h j (List.mem_range.1 hj)
    simpa using this
/-- The first ones of each owner among the first k. -/
def firsts (own : Nat → Nat) (k : Nat) : List Nat := (List.range k).filter (isF own)
/-- The ones of an owner among the first k. -/
def those (own : Nat → Nat) (k : Nat) (key : Nat) : List Nat := (List.range k).filter fun j => own j == key
/-- Where an owner's things are put. -/
def place (own : Nat → Nat) (k : Nat) (key : Nat) : Option Nat := (firsts own k).findIdx? fun h => own h == key
/-- All that is gathered. -/
def gath (own : Nat → Nat) (k : Nat) : List (List Nat) := (firsts own k).map fun h => those own k (own h)
theorem firsts_new {own : Nat → Nat} {k : Nat} (h : ∀ j, j < k → own j ≠ own k) : firsts own (k + 1) = firsts own k ++ [k] := by
  unfold firsts
  rw [List.range_succ, List.filter_append]
  congr 1
  simp [isF_iff.2 h]
theorem firsts_old {own : Nat → Nat} {k j : Nat} (hj : j < k) (h : own j = own k) : firsts own (k + 1) = firsts own k := by
  unfold firsts
  rw [List.range_succ, List.filter_append]
  have : isF own k = false := by
    cases hf : isF own k with
    | false => rfl
    | true => exact absurd h (isF_iff.1 hf j hj)
  simp [this]
theorem mem_firsts {own : Nat → Nat} {k h : Nat} : h ∈ firsts own k ↔ h < k ∧ ∀ j, j < h → own j ≠ own h := by
  unfold firsts
  rw [List.mem_filter, List.mem_range, isF_iff]
/-- Each owner of one has a first one. -/
theorem first_of (own : Nat → Nat) : ∀ (k j : Nat), j < k → ∃ h, h ∈ firsts own k ∧ own h = own j ∧ h ≤ j := by
  intro k j
  induction j using Nat.strongRecOn with
  | ind j ih =>
    intro hj
    by_cases hf : ∀ i, i < j → own i ≠ own j
    · exact ⟨j, mem_firsts.2 ⟨hj, hf⟩, rfl, Nat.le_refl _⟩
    · obtain ⟨i, hi, he⟩ : ∃ i, i < j ∧ own i = own j := Classical.byContradiction fun hc => hf fun i hi he => hc ⟨i, hi, he⟩
      obtain ⟨h, h1, h2, h3⟩ := ih i hi (by omega)
      exact ⟨h, h1, h2.trans he, by omega⟩
theorem place_none {own : Nat → Nat} {k key : Nat} : place own k key = none ↔ ∀ j, j < k → own j ≠ key := by
  unfold place
  rw [List.findIdx?_eq_none_iff]
  constructor
  · intro h j hj he
    obtain ⟨f, h1, h2, _⟩ := first_of own k j hj
    have := h f h1
    rw [beq_eq_false_iff_ne] at this
    exact this (h2.trans he)
  · intro h f hf
    rw [beq_eq_false_iff_ne]
    exact h f (mem_firsts.1 hf).1
theorem place_some {own : Nat → Nat} {k key at_ : Nat} (h : place own k key = some at_) : ∃ f, (firsts own k)[at_]? = some f ∧ own f = key := by
  unfold place at h
  obtain ⟨hl, h1, _⟩ := List.findIdx?_eq_some_iff_getElem.1 h
  exact ⟨_, List.getElem?_eq_getElem hl, by simpa using h1⟩
/-- Where an owner's things are put stays. -/
theorem place_new {own : Nat → Nat} {k : Nat} (h : ∀ j, j < k → own j ≠ own k) (key : Nat) : place own (k + 1) key = if key = own k then some (firsts own k).length else place own k key := by
  unfold place
  rw [firsts_new h, List.findIdx?_append]
  by_cases e : key = own k
  · subst e
    rw [if_pos rfl]
    have h1 : (firsts own k).findIdx? (fun h => own h == own k) = none := (place_none (own := own) (k := k) (key := own k)).2 h
    rw [h1]
    simp
  · rw [if_neg e]
    have h2 : (own k == key) = false := by rw [beq_eq_false_iff_ne]; exact fun h => e h.symm
    cases (firsts own k).findIdx? (fun h => own h == key) <;> simp [h2]
theorem place_old {own : Nat → Nat} {k j : Nat} (hj : j < k) (h : own j = own k) (key : Nat) : place own (k + 1) key = place own k key := by
  unfold place
  rw [firsts_old hj h]
theorem those_step (own : Nat → Nat) (k key : Nat) : those own (k + 1) key = if own k = key then those own k key ++ [k] else those own k key := by
  unfold those
  rw [List.range_succ, List.filter_append]
  by_cases e : own k = key
  · rw [if_pos e]
    simp [e]
  · rw [if_neg e]
    have : (own k == key) = false := by simpa using e
    simp [this]
theorem gath_length (own : Nat → Nat) (k : Nat) : (gath own k).length = (firsts own k).length := by simp [gath]
theorem firsts_le (own : Nat → Nat) (k : Nat) : (firsts own k).length ≤ k := by
  have := List.length_filter_le (isF own) (List.range k)
  rw [List.length_range] at this
  exact this
/-- One more, of an owner who has none yet. -/
theorem gath_new {own : Nat → Nat} {k : Nat} (h : ∀ j, j < k → own j ≠ own k) : gath own (k + 1) = gath own k ++ [[k]] := by
  unfold gath
  rw [firsts_new h, List.map_append]
  congr 1
  · apply List.map_congr_left
    intro f hf
    rw [those_step, if_neg (fun e => h f (mem_firsts.1 hf).1 e.symm)]
  · simp only [List.map_cons, List.map_nil]
    rw [those_step, if_pos rfl]
    congr 1
    have : those own k (own k) = [] := by
      unfold those
      rw [List.filter_eq_nil_iff]
      intro j hj
      simpa using h j (List.mem_range.1 hj)
    rw [this]
    rfl
/-- One more, of an owner who has some. -/
theorem gath_old {own : Nat → Nat} {k at_ : Nat} (h : place own k (own k) = some at_) : ∃ l, (gath own k)[at_]? = some l ∧ gath own (k + 1) = (gath own k).set at_ (l ++ [k]) := by
  obtain ⟨f, hf, he⟩ := place_some h
  have hmem := List.mem_of_getElem? hf
  have hfk := (mem_firsts.1 hmem).1
  refine ⟨those own k (own f), by unfold gath; rw [List.getElem?_map, hf]; rfl, ?_⟩
  apply List.ext_getElem?
  intro i
  have hl : at_ < (gath own k).length := by rw [gath_length]; exact (List.getElem?_eq_some_iff.1 hf).1
  rw [List.getElem?_set]
  unfold gath at hl ⊢
  rw [List.getElem?_map, firsts_old hfk he]
  by_cases e : at_ = i
  · subst e
    rw [if_pos rfl, if_pos hl, hf, Option.map_some, those_step, if_pos he.symm]
  · rw [if_neg e, List.getElem?_map]
    cases hi : (firsts own k)[i]? with
    | none => rfl
    | some g =>
      rw [Option.map_some, Option.map_some, those_step, if_neg]
      intro eg
      have hg := List.mem_of_getElem? hi
      have h1 := (mem_firsts.1 hg)
      have h2 := (mem_firsts.1 hmem)
      have e2 : g = f := by
        rcases Nat.lt_trichotomy g f with h | h | h
        · exact absurd (eg.symm.trans he.symm) (h2.2 g h)
        · exact h
        · exact absurd (he.trans eg) (h1.2 f h)
      subst e2
      have hnd : (firsts own k).Nodup := List.nodup_range.filter _
      obtain ⟨l1, e3⟩ := List.getElem?_eq_some_iff.1 hf
      obtain ⟨l2, e4⟩ := List.getElem?_eq_some_iff.1 hi
      exact e ((List.getElem_inj hnd).1 (e3.trans e4.symm))
end Go.Proofs.Ytlkfpphahfendaa
