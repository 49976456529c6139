/- Which part a vertex is in, as it is written down one by one (no world here). -/
import Derived.Test.YtpkiogcedfmodaaW31
import Derived.Test.YtpkiogcedfmodaaWM
namespace Go.Proofs.Ytpkiogcedfmodaa

structure Says (P : List (List Int)) (i j : Nat) (f : Int → Option Int) : Prop where
  only : ∀ x y, f x = some y → ∃ (k : Nat) (p : List Int), y = (k : Int) ∧ P[k]? = some p ∧ x ∈ p ∧ (k < i ∨ k = i ∧ x ∈ p.take j)
  all : ∀ (x : Int) (k : Nat) (p : List Int), P[k]? = some p → x ∈ p → (k < i ∨ k = i ∧ x ∈ p.take j) → f x = some (k : Int)
theorem says_zero (P : List (List Int)) : Says P 0 0 fun _ => none :=
  ⟨(by intro x y h; cases h), fun x k p _ _ h => by
    rcases h with h | ⟨_, h⟩
    · omega
    · simp at h⟩
theorem says_new {P : List (List Int)} {i j : Nat} {f : Int → Option Int} {p : List Int} {x : Int} (h : Says P i j f) (hp : P[i]? = some p) (hx : p[j]? = some x) (hup : p.Pairwise (· < ·))
    (once : ∀ (i j : Nat) (p q : List Int) (x : Int), P[i]? = some p → P[j]? = some q → x ∈ p → x ∈ q → i = j) : f x = none := by
  cases hf : f x with
  | none => rfl
  | some y =>
    exfalso
    obtain ⟨k, q, rfl, hq, hm, hc⟩ := h.only x y hf
    have e := once k i q p x hq hp hm (List.mem_of_getElem? hx)
    subst e
    rw [hp] at hq
    injection hq with hq
    subst hq
    rcases hc with hc | ⟨_, hc⟩
    · omega
    · obtain ⟨l, hl⟩ := List.getElem?_of_mem hc
      have hlt := (List.getElem?_eq_some_iff.1 hl).1
      rw [List.length_take] at hlt
      rw [List.getElem?_take_of_lt (by omega)] at hl
      obtain ⟨hl1, hl2⟩ := List.getElem?_eq_some_iff.1 hl
      obtain ⟨hj1, hj2⟩ := List.getElem?_eq_some_iff.1 hx
      rw [List.pairwise_iff_getElem] at hup
      have := hup l j hl1 hj1 (by omega)
      omega
theorem says_step {P : List (List Int)} {i j : Nat} {f : Int → Option Int} {p : List Int} {x : Int} (h : Says P i j f) (hp : P[i]? = some p) (hx : p[j]? = some x)
    (once : ∀ (i j : Nat) (p q : List Int) (x : Int), P[i]? = some p → P[j]? = some q → x ∈ p → x ∈ q → i = j) : Says P i (j + 1) (upd f x (i : Int)) := by
  have ht : p.take (j + 1) = p.take j ++ [x] := by rw [List.take_add_one, hx]; rfl
  refine ⟨fun z y hz => ?_, fun z k q hq hz hc => ?_⟩
  · by_cases e : z = x
    · subst e
      rw [upd_same] at hz
      injection hz with hz
      exact ⟨i, p, hz.symm, hp, List.mem_of_getElem? hx, .inr ⟨rfl, by rw [ht]; simp⟩⟩
    · rw [upd_other e] at hz
      obtain ⟨k, q, e1, h1, h2, h3⟩ := h.only z y hz
      refine ⟨k, q, e1, h1, h2, ?_⟩
      rcases h3 with h3 | ⟨rfl, h3⟩
      · exact .inl h3
      · rw [hp] at h1
        injection h1 with h1
        subst h1
        exact .inr ⟨rfl, by rw [ht]; simp [h3]⟩
  · by_cases e : z = x
    · subst e
      rw [upd_same, once k i q p z hq hp hz (List.mem_of_getElem? hx)]
    · rw [upd_other e]
      refine h.all z k q hq hz ?_
      rcases hc with hc | ⟨rfl, hc⟩
      · exact .inl hc
      · rw [hp] at hq
        injection hq with hq
        subst hq
        rw [ht] at hc
        rcases List.mem_append.1 hc with hc | hc
        · exact .inr ⟨rfl, hc⟩
        · exact absurd (List.mem_singleton.1 hc) e
theorem says_next {P : List (List Int)} {i : Nat} {f : Int → Option Int} {p : List Int} (h : Says P i p.length f) (hp : P[i]? = some p) : Says P (i + 1) 0 f := by
  refine ⟨fun x y hz => ?_, fun x k q hq hz hc => ?_⟩
  · obtain ⟨k, q, e1, h1, h2, h3⟩ := h.only x y hz
    exact ⟨k, q, e1, h1, h2, .inl (by omega)⟩
  · refine h.all x k q hq hz ?_
    rcases hc with hc | ⟨_, hc⟩
    · by_cases e : k = i
      · subst e
        rw [hp] at hq
        injection hq with hq
        subst hq
        exact .inr ⟨rfl, by rw [List.take_length]; exact hz⟩
      · exact .inl (by omega)
    · simp at hc
/-- How many of the first ones are known. -/
def cntN (f : Int → Option Int) : Nat → Nat
  | 0 => 0
  | n + 1 => cntN f n + if (f (n : Int)).isSome then 1 else 0
theorem cntN_out {f : Int → Option Int} {y : Int} {x : Int} : ∀ n : Nat, (n : Int) ≤ x → cntN (upd f x y) n = cntN f n
  | 0, _ => rfl
  | n + 1, h => by
    show cntN (upd f x y) n + _ = cntN f n + _
    rw [cntN_out n (by omega), upd_other (by omega)]
theorem cntN_new {f : Int → Option Int} {y : Int} {x : Nat} (h : f (x : Int) = none) : ∀ n : Nat, x < n → cntN (upd f (x : Int) y) n = cntN f n + 1
  | 0, h0 => by omega
  | n + 1, h0 => by
    show cntN (upd f x y) n + _ = cntN f n + _ + 1
    by_cases e : n = x
    · subst e
      rw [cntN_out n (Int.le_refl _), upd_same, h]
      simp
    · rw [cntN_new h n (by omega), upd_other (by omega)]
      omega
theorem cntN_full {f : Int → Option Int} : ∀ n : Nat, (∀ x : Nat, x < n → (f (x : Int)).isSome = true) → cntN f n = n
  | 0, _ => rfl
  | n + 1, h => by
    show cntN f n + _ = _
    rw [cntN_full n (fun x hx => h x (by omega)), h n (by omega)]
    simp
/-- At the end: in one part just if there is a way. -/
theorem says_end {N : Nat} {E : List (Int × Int)} {m : List Bool} {P : List (List Int)} {f : Int → Option Int} (h : PInv N E N m P) (hs : Says P P.length 0 f) {u : Nat} (hu : u < N) : ∃ k : Nat, f (u : Int) = some (k : Int) := by
  obtain ⟨i, p, hp, hx⟩ := (h.cover u hu).1 (h.asked u hu)
  exact ⟨i, hs.all u i p hp hx (.inl (List.getElem?_eq_some_iff.1 hp).1)⟩
theorem says_same {N : Nat} {E : List (Int × Int)} {m : List Bool} {P : List (List Int)} {f : Int → Option Int} (hg : rightG (N : Nat) E = true) (h : PInv N E N m P) (hs : Says P P.length 0 f) {u v : Nat} (hu : u < N) (hv : v < N) : f (u : Int) = f (v : Int) ↔ Rch N E u v := by
  obtain ⟨i, p, hp, hx⟩ := (h.cover u hu).1 (h.asked u hu)
  obtain ⟨j, q, hq, hy⟩ := (h.cover v hv).1 (h.asked v hv)
  have e1 := hs.all u i p hp hx (.inl (List.getElem?_eq_some_iff.1 hp).1)
  have e2 := hs.all v j q hq hy (.inl (List.getElem?_eq_some_iff.1 hq).1)
  obtain ⟨a, ha, rfl, _⟩ := h.part i p hp
  obtain ⟨b, hb, rfl, _⟩ := h.part j q hq
  rw [reachN_mem] at hx hy
  rw [e1, e2]
  constructor
  · intro e
    injection e with e
    have e : i = j := by omega
    subst e
    rw [hp] at hq
    injection hq with hq
    have hy' : (v : Int) ∈ reachN (distOf (tabG N E) N a) N := by rw [hq]; exact reachN_mem.2 hy
    rw [reachN_mem] at hy'
    exact Rch.trans_ hg hu ha hv (Rch.symm_ hg ha hu hx.2) hy'.2
  · intro hr
    have hv2 : (v : Int) ∈ reachN (distOf (tabG N E) N a) N := reachN_mem.2 ⟨hv, Rch.trans_ hg ha hu hv hx.2 hr⟩
    have := h.once i j _ _ (v : Int) hp hq hv2 (reachN_mem.2 hy)
    rw [this]
theorem edge_rch {N : Nat} {E : List (Int × Int)} (hg : rightG (N : Nat) E = true) {p q : Nat} (hp : p < N) (h : adj (tabG N E) p q) : Rch N E p q := by
  have hd := dist_is hg hp
  have := hd.step p hp (by rw [hd.zero]; exact Int.le_refl _) q h
  exact this.1
end Go.Proofs.Ytpkiogcedfmodaa
