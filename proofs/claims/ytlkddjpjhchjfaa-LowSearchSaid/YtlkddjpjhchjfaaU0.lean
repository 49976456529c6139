/- Sets that are joined, by heads (pure): who is whose head; paths made shorter; two sets made one. -/
import Derived.Test.YtlkddjpjhchjfaaRG
namespace Go.Proofs.Ytlkddjpjhchjfaa
open Go.RowKit

/-- A row of numbers at a place. -/
def hd (H : List Nat) (v : Nat) : Nat := H.getD v 0
theorem hd_at {H : List Nat} {v : Nat} (h : v < H.length) : H[v]? = some (hd H v) := by simp [hd, List.getD, h]
theorem hd_set {H : List Nat} {u v x : Nat} (h : u < H.length) : hd (H.set u x) v = if v = u then x else hd H v := by
  unfold hd
  rw [List.getD_eq_getElem?_getD, List.getD_eq_getElem?_getD, List.getElem?_set]
  by_cases e : u = v
  · subst e
    simp [h]
  · rw [if_neg e, if_neg (fun h => e h.symm)]
/-- r tells of each its set's head; d goes down on the way there. -/
structure UF (n : Nat) (H : List Nat) (r : Nat → Nat) (d : Nat → Nat) : Prop where
  len : H.length = n
  lt : ∀ v, v < n → hd H v < n
  root : ∀ v, v < n → r (hd H v) = r v
  top : ∀ v, v < n → hd H v = v → r v = v
  fix : ∀ v, v < n → hd H (r v) = r v
  rlt : ∀ v, v < n → r v < n
  down : ∀ v, v < n → hd H v ≠ v → d (hd H v) < d v
theorem UF.idem {n : Nat} {H : List Nat} {r d : Nat → Nat} (h : UF n H r d) {v : Nat} (hv : v < n) : r (r v) = r v := h.top _ (h.rlt v hv) (h.fix v hv)
theorem UF.self {n : Nat} {H : List Nat} {r d : Nat → Nat} (h : UF n H r d) {v : Nat} (hv : v < n) (e : hd H v ≠ v) : r v ≠ v := fun e2 => e (by have := h.fix v hv; rw [e2] at this; exact this)
theorem UF.start (n : Nat) : UF n (List.range n) id (fun _ => 0) := by
  have h : ∀ v, v < n → hd (List.range n) v = v := fun v hv => by simp [hd, List.getD, hv]
  refine ⟨List.length_range, fun v hv => ?_, fun v hv => ?_, fun v _ _ => rfl, fun v hv => h v hv, fun v hv => hv, fun v hv hne => absurd (h v hv) hne⟩
  · rw [h v hv]; exact hv
  · rw [h v hv]
/-- A path made shorter. -/
theorem UF.half {n : Nat} {H : List Nat} {r d : Nat → Nat} (h : UF n H r d) {v : Nat} (hv : v < n) (hne : hd H v ≠ v) : UF n (H.set v (hd H (hd H v))) r d := by
  have hl : v < H.length := by rw [h.len]; exact hv
  have h1 := h.lt v hv
  have h2 := h.lt _ h1
  have hdn : d (hd H (hd H v)) < d v := by
    have a := h.down v hv hne
    by_cases e : hd H (hd H v) = hd H v
    · rw [e]; exact a
    · exact Nat.lt_trans (h.down _ h1 e) a
  refine ⟨by rw [List.length_set]; exact h.len, fun u hu => ?_, fun u hu => ?_, fun u hu e => ?_, fun u hu => ?_, h.rlt, fun u hu e => ?_⟩
  · rw [hd_set hl]; split
    · exact h2
    · exact h.lt u hu
  · rw [hd_set hl]; split
    · next e => subst e; rw [h.root _ h1, h.root _ hv]
    · exact h.root u hu
  · rw [hd_set hl] at e
    split at e
    · next e2 =>
      subst e2
      rw [e] at hdn
      exact absurd hdn (Nat.lt_irrefl _)
    · exact h.top u hu e
  · rw [hd_set hl]; split
    · next e => exact absurd e (fun e => by have := h.fix u hu; rw [e] at this; exact hne this)
    · exact h.fix u hu
  · rw [hd_set hl] at e ⊢
    split
    · next e2 => subst e2; exact hdn
    · next e2 => rw [if_neg e2] at e; exact h.down u hu e
/-- Whose set a's is when it is joined to b's. -/
def joinR (r : Nat → Nat) (a b : Nat) : Nat → Nat := fun x => if r x = r a then r b else r x
theorem joinR_iff (r : Nat → Nat) (a b x y : Nat) : joinR r a b x = joinR r a b y ↔ r x = r y ∨ (r x = r a ∧ r y = r b) ∨ (r x = r b ∧ r y = r a) := by
  unfold joinR
  split <;> split <;> omega
theorem UF.join {n : Nat} {H : List Nat} {r d : Nat → Nat} (h : UF n H r d) {a b : Nat} (ha : a < n) (hb : b < n) :
    ∃ d', UF n (H.set (r a) (r b)) (joinR r a b) d' := by
  have hra := h.rlt a ha
  have hrb := h.rlt b hb
  have hl : r a < H.length := by rw [h.len]; exact hra
  by_cases e : r a = r b
  · have e1 : H.set (r a) (r b) = H := by
      apply List.ext_getElem?
      intro i
      rw [List.getElem?_set]
      split
      · next e2 =>
        subst e2
        rw [hd_at hl, h.fix a ha, e]
      · rfl
    have e2 : joinR r a b = r := by
      funext x
      unfold joinR
      split
      · next e3 => rw [e3, e]
      · rfl
    rw [e1, e2]
    exact ⟨d, h⟩
  · refine ⟨fun x => if r x = r a then d x + d (r b) + 1 else d x, ⟨by rw [List.length_set]; exact h.len, fun u hu => ?_, fun u hu => ?_, fun u hu e2 => ?_, fun u hu => ?_, fun u hu => ?_, fun u hu e2 => ?_⟩⟩
    · rw [hd_set hl]; split
      · exact hrb
      · exact h.lt u hu
    · rw [hd_set hl]; split
      · next e2 =>
        subst e2
        unfold joinR
        rw [h.idem hb, h.idem ha, if_neg (fun h => e h.symm), if_pos rfl]
      · unfold joinR
        rw [h.root u hu]
    · rw [hd_set hl] at e2
      split at e2
      · next e3 => exact absurd (e3.symm.trans e2.symm) (by rw [e3] at e2; exact fun _ => e e2.symm)
      · next e3 =>
        have h1 := h.top u hu e2
        unfold joinR
        rw [h1, if_neg e3]
    · unfold joinR
      split
      · rw [hd_set hl, if_neg (fun h => e h.symm)]
        exact h.fix b hb
      · next e3 =>
        rw [hd_set hl, if_neg e3]
        exact h.fix u hu
    · unfold joinR
      split
      · exact hrb
      · exact h.rlt u hu
    · rw [hd_set hl] at e2 ⊢
      split
      · next e3 =>
        subst e3
        rw [if_pos (h.idem ha)]
        simp only [h.idem hb]
        rw [if_neg (fun h => e h.symm)]
        omega
      · next e3 =>
        rw [if_neg e3] at e2
        have h1 := h.down u hu e2
        simp only [h.root u hu]
        split <;> omega

/-- One edge more: the web's next one, or one that is left. -/
def lstep (W : List (Int × Int)) (s : List (Int × Int) × Nat) (e : Int × Int) : List (Int × Int) × Nat := if W[s.2]? = some e then (s.1, s.2 + 1) else (s.1 ++ [e], s.2)
def leftP (W E : List (Int × Int)) (k : Nat) : List (Int × Int) × Nat := (E.take k).foldl (lstep W) ([], 0)
theorem leftP_zero (W E : List (Int × Int)) : leftP W E 0 = ([], 0) := rfl
theorem leftP_step {W E : List (Int × Int)} {k : Nat} {e : Int × Int} (he : E[k]? = some e) : leftP W E (k + 1) = lstep W (leftP W E k) e := by
  unfold leftP
  rw [List.take_add_one, he, Option.toList_some, List.foldl_append]
  rfl
theorem leftP_yes {W E : List (Int × Int)} {k : Nat} {e : Int × Int} (he : E[k]? = some e) (h : W[(leftP W E k).2]? = some e) : leftP W E (k + 1) = ((leftP W E k).1, (leftP W E k).2 + 1) := by
  rw [leftP_step he]
  unfold lstep
  rw [if_pos h]
theorem leftP_no {W E : List (Int × Int)} {k : Nat} {e : Int × Int} (he : E[k]? = some e) (h : W[(leftP W E k).2]? ≠ some e) : leftP W E (k + 1) = ((leftP W E k).1 ++ [e], (leftP W E k).2) := by
  rw [leftP_step he]
  unfold lstep
  rw [if_neg h]
theorem leftP_le (W E : List (Int × Int)) : ∀ k, (leftP W E k).2 ≤ W.length ∧ (leftP W E k).1.length + (leftP W E k).2 ≤ k
  | 0 => by simp [leftP_zero]
  | k + 1 => by
    have h := leftP_le W E k
    cases he : E[k]? with
    | none =>
      have hk : E.length ≤ k := List.getElem?_eq_none_iff.1 he
      have e1 : leftP W E (k + 1) = leftP W E k := by
        unfold leftP
        rw [List.take_of_length_le (by omega), List.take_of_length_le hk]
      rw [e1]
      omega
    | some e =>
      by_cases hw : W[(leftP W E k).2]? = some e
      · rw [leftP_yes he hw]
        have := (List.getElem?_eq_some_iff.1 hw).1
        exact ⟨this, by simp only; omega⟩
      · rw [leftP_no he hw]
        simp only [List.length_append, List.length_singleton]
        omega
/-- What is left so far, and what of the web was met, are the edges so far. -/
theorem leftP_perm (W E : List (Int × Int)) : ∀ k, ((leftP W E k).1 ++ W.take (leftP W E k).2).Perm (E.take k)
  | 0 => by simp [leftP_zero]
  | k + 1 => by
    have h := leftP_perm W E k
    cases he : E[k]? with
    | none =>
      have hk : E.length ≤ k := List.getElem?_eq_none_iff.1 he
      have e1 : E.take (k + 1) = E.take k := by rw [List.take_of_length_le (by omega), List.take_of_length_le hk]
      have e2 : leftP W E (k + 1) = leftP W E k := by
        unfold leftP
        rw [e1]
      rw [e1, e2]
      exact h
    | some x =>
      rw [List.take_add_one, he, Option.toList_some]
      by_cases hw : W[(leftP W E k).2]? = some x
      · rw [leftP_yes he hw]
        simp only
        rw [List.take_add_one, hw, Option.toList_some, ← List.append_assoc]
        exact h.append_right _
      · rw [leftP_no he hw]
        simp only
        refine List.Perm.trans ?_ (h.append_right [x])
        rw [List.append_assoc, List.append_assoc]
        exact List.Perm.append_left _ List.perm_append_comm
theorem leftP_mono (W E : List (Int × Int)) (k : Nat) : (leftP W E k).2 ≤ (leftP W E (k + 1)).2 := by
  cases he : E[k]? with
  | none =>
    have hk : E.length ≤ k := List.getElem?_eq_none_iff.1 he
    have e2 : leftP W E (k + 1) = leftP W E k := by
      unfold leftP
      rw [List.take_of_length_le (by omega), List.take_of_length_le hk]
    rw [e2]
    exact Nat.le_refl _
  | some x =>
    by_cases hw : W[(leftP W E k).2]? = some x
    · rw [leftP_yes he hw]; exact Nat.le_succ _
    · rw [leftP_no he hw]; exact Nat.le_refl _
theorem leftP_mono2 (W E : List (Int × Int)) (k : Nat) : ∀ d, (leftP W E k).2 ≤ (leftP W E (k + d)).2
  | 0 => Nat.le_refl _
  | d + 1 => Nat.le_trans (leftP_mono2 W E k d) (leftP_mono W E (k + d))
/-- If both rise, and all of the web are edges, all of it is met. -/
theorem leftP_all {W E : List (Int × Int)} {R : Int × Int → Int × Int → Prop} (irr : ∀ x, ¬ R x x) (tr : ∀ x y, R x y → ¬ R y x) (hE : E.Pairwise R) (hW : W.Pairwise R) (hs : ∀ e ∈ W, e ∈ E) : (leftP W E E.length).2 = W.length := by
  have key : ∀ t i x, W[t]? = some x → E[i]? = some x → t + 1 ≤ (leftP W E (i + 1)).2 := by
    intro t
    induction t with
    | zero =>
      intro i x hx hi
      by_cases h0 : (leftP W E i).2 = 0
      · rw [leftP_yes hi (by rw [h0]; exact hx)]
        omega
      · have := leftP_mono W E i
        omega
    | succ t ih =>
      intro i x hx hi
      have htl := (List.getElem?_eq_some_iff.1 hx).1
      obtain ⟨y, hy⟩ : ∃ y, W[t]? = some y := ⟨_, List.getElem?_eq_getElem (by omega)⟩
      obtain ⟨q, hq⟩ := List.getElem?_of_mem (hs y (List.mem_of_getElem? hy))
      have h1 := ih q y hy hq
      have hyx : R y x := by
        obtain ⟨l1, e1⟩ := List.getElem?_eq_some_iff.1 hy
        obtain ⟨l2, e2⟩ := List.getElem?_eq_some_iff.1 hx
        rw [← e1, ← e2]
        exact (List.pairwise_iff_getElem.1 hW) t (t + 1) l1 l2 (by omega)
      have hqi : q < i := by
        obtain ⟨l1, e1⟩ := List.getElem?_eq_some_iff.1 hq
        obtain ⟨l2, e2⟩ := List.getElem?_eq_some_iff.1 hi
        by_cases h : q < i
        · exact h
        · exfalso
          by_cases e : q = i
          · subst e
            rw [hq] at hi
            injection hi with hi
            rw [hi] at hyx
            exact irr _ hyx
          · have h3 := (List.pairwise_iff_getElem.1 hE) i q l2 l1 (by omega)
            rw [e1, e2] at h3
            exact tr _ _ hyx h3
      have h2 : (leftP W E (q + 1)).2 ≤ (leftP W E i).2 := by
        have := leftP_mono2 W E (q + 1) (i - (q + 1))
        rwa [show q + 1 + (i - (q + 1)) = i by omega] at this
      by_cases h0 : (leftP W E i).2 = t + 1
      · rw [leftP_yes hi (by rw [h0]; exact hx)]
        simp only
        omega
      · have := leftP_mono W E i
        omega
  have h1 := (leftP_le W E E.length).1
  by_cases h0 : W.length = 0
  · omega
  · obtain ⟨x, hx⟩ : ∃ x, W[W.length - 1]? = some x := ⟨_, List.getElem?_eq_getElem (by omega)⟩
    obtain ⟨q, hq⟩ := List.getElem?_of_mem (hs x (List.mem_of_getElem? hx))
    have h2 := key _ q x hx hq
    have hql := (List.getElem?_eq_some_iff.1 hq).1
    have h3 := leftP_mono2 W E (q + 1) (E.length - (q + 1))
    rw [show q + 1 + (E.length - (q + 1)) = E.length by omega] at h3
    omega
/-- What is left is met in the edges' own order. -/
theorem leftP_sub (W E : List (Int × Int)) : ∀ k, (leftP W E k).1.Sublist (E.take k)
  | 0 => by simp [leftP_zero]
  | k + 1 => by
    have h := leftP_sub W E k
    cases he : E[k]? with
    | none =>
      have hk : E.length ≤ k := List.getElem?_eq_none_iff.1 he
      have e1 : E.take (k + 1) = E.take k := by rw [List.take_of_length_le (by omega), List.take_of_length_le hk]
      have e2 : leftP W E (k + 1) = leftP W E k := by
        unfold leftP
        rw [e1]
      rw [e1, e2]
      exact h
    | some x =>
      rw [List.take_add_one, he, Option.toList_some]
      by_cases hw : W[(leftP W E k).2]? = some x
      · rw [leftP_yes he hw]
        exact h.trans (List.sublist_append_left _ _)
      · rw [leftP_no he hw]
        exact List.Sublist.append h (List.Sublist.refl _)
/-- What was met of the web is met in the edges' own order. -/
theorem leftP_web (W E : List (Int × Int)) : ∀ k, (W.take (leftP W E k).2).Sublist (E.take k)
  | 0 => by simp [leftP_zero]
  | k + 1 => by
    have h := leftP_web W E k
    cases he : E[k]? with
    | none =>
      have hk : E.length ≤ k := List.getElem?_eq_none_iff.1 he
      have e1 : E.take (k + 1) = E.take k := by rw [List.take_of_length_le (by omega), List.take_of_length_le hk]
      have e2 : leftP W E (k + 1) = leftP W E k := by
        unfold leftP
        rw [e1]
      rw [e1, e2]
      exact h
    | some x =>
      rw [List.take_add_one, he, Option.toList_some]
      by_cases hw : W[(leftP W E k).2]? = some x
      · rw [leftP_yes he hw]
        simp only
        rw [List.take_add_one, hw, Option.toList_some]
        exact List.Sublist.append h (List.Sublist.refl _)
      · rw [leftP_no he hw]
        exact h.trans (List.sublist_append_left _ _)
/-- If all of it is met, it is of the edges, and what is left is what is not of it. -/
theorem leftP_rest {W E : List (Int × Int)} (hE : E.Nodup) (h : (leftP W E E.length).2 = W.length) : W.Sublist E ∧ (leftP W E E.length).1 = E.filter (fun e => decide (e ∉ W)) := by
  have hp := leftP_perm W E E.length
  rw [h, List.take_length, List.take_length] at hp
  have hsub := leftP_sub W E E.length
  rw [List.take_length] at hsub
  have hweb := leftP_web W E E.length
  rw [h, List.take_length, List.take_length] at hweb
  refine ⟨hweb, ?_⟩
  have hnd := (hp.nodup_iff).2 hE
  have hdis := (List.nodup_append.1 hnd).2.2
  have e1 : ((leftP W E E.length).1).filter (fun e => decide (e ∉ W)) = (leftP W E E.length).1 := List.filter_eq_self.2 fun e he => by
    rw [decide_eq_true_iff]
    exact fun hw => hdis e he e hw rfl
  have hs2 := hsub.filter (fun e => decide (e ∉ W))
  rw [e1] at hs2
  refine hs2.eq_of_length ?_
  have h3 := (hp.filter (fun e => decide (e ∉ W))).length_eq
  rw [List.filter_append, e1] at h3
  have e2 : W.filter (fun e => decide (e ∉ W)) = [] := List.filter_eq_nil_iff.2 fun e he => by simp [he]
  rw [e2, List.append_nil] at h3
  exact h3

/-- Is i the first one of its owner? -/
def isF (own : Nat → Nat) (i : Nat) : Bool := (List.range i).all fun j => own j != own i
theorem isF_iff {own : Nat → Nat} {i : Nat} : isF own i = true ↔ ∀ j, j < i → own j ≠ own i := by
  unfold isF
  rw [List.all_eq_true]
  constructor
  · intro h j hj
    have := h j (List.mem_range.2 hj)
    simpa using this
  · intro h j hj
    have := h j (List.mem_range.1 hj)
    simpa using this
/-- The first ones of each owner among the first k. -/
def firsts (own : Nat → Nat) (k : Nat) : List Nat := (List.range k).filter (isF own)
/-- The ones of an owner among the first k. -/
def those (own : Nat → Nat) (k : Nat) (key : Nat) : List Nat := (List.range k).filter fun j => own j == key
/-- Where an owner's things are put. -/
def place (own : Nat → Nat) (k : Nat) (key : Nat) : Option Nat := (firsts own k).findIdx? fun h => own h == key
/-- All that is gathered. -/
def gath (own : Nat → Nat) (k : Nat) : List (List Nat) := (firsts own k).map fun h => those own k (own h)
theorem firsts_new {own : Nat → Nat} {k : Nat} (h : ∀ j, j < k → own j ≠ own k) : firsts own (k + 1) = firsts own k ++ [k] := by
  unfold firsts
  rw [List.range_succ, List.filter_append]
  congr 1
  simp [isF_iff.2 h]
theorem firsts_old {own : Nat → Nat} {k j : Nat} (hj : j < k) (h : own j = own k) : firsts own (k + 1) = firsts own k := by
  unfold firsts
  rw [List.range_succ, List.filter_append]
  have : isF own k = false := by
    cases hf : isF own k with
    | false => rfl
    | true => exact absurd h (isF_iff.1 hf j hj)
  simp [this]
theorem mem_firsts {own : Nat → Nat} {k h : Nat} : h ∈ firsts own k ↔ h < k ∧ ∀ j, j < h → own j ≠ own h := by
  unfold firsts
  rw [List.mem_filter, List.mem_range, isF_iff]
/-- Each owner of one has a first one. -/
theorem first_of (own : Nat → Nat) : ∀ (k j : Nat), j < k → ∃ h, h ∈ firsts own k ∧ own h = own j ∧ h ≤ j := by
  intro k j
  induction j using Nat.strongRecOn with
  | ind j ih =>
    intro hj
    by_cases hf : ∀ i, i < j → own i ≠ own j
    · exact ⟨j, mem_firsts.2 ⟨hj, hf⟩, rfl, Nat.le_refl _⟩
    · obtain ⟨i, hi, he⟩ : ∃ i, i < j ∧ own i = own j := Classical.byContradiction fun hc => hf fun i hi he => hc ⟨i, hi, he⟩
      obtain ⟨h, h1, h2, h3⟩ := ih i hi (by omega)
      exact ⟨h, h1, h2.trans he, by omega⟩
theorem place_none {own : Nat → Nat} {k key : Nat} : place own k key = none ↔ ∀ j, j < k → own j ≠ key := by
  unfold place
  rw [List.findIdx?_eq_none_iff]
  constructor
  · intro h j hj he
    obtain ⟨f, h1, h2, _⟩ := first_of own k j hj
    have := h f h1
    rw [beq_eq_false_iff_ne] at this
    exact this (h2.trans he)
  · intro h f hf
    rw [beq_eq_false_iff_ne]
    exact h f (mem_firsts.1 hf).1
theorem place_some {own : Nat → Nat} {k key at_ : Nat} (h : place own k key = some at_) : ∃ f, (firsts own k)[at_]? = some f ∧ own f = key := by
  unfold place at h
  obtain ⟨hl, h1, _⟩ := List.findIdx?_eq_some_iff_getElem.1 h
  exact ⟨_, List.getElem?_eq_getElem hl, by simpa using h1⟩
/-- Where an owner's things are put stays. -/
theorem place_new {own : Nat → Nat} {k : Nat} (h : ∀ j, j < k → own j ≠ own k) (key : Nat) : place own (k + 1) key = if key = own k then some (firsts own k).length else place own k key := by
  unfold place
  rw [firsts_new h, List.findIdx?_append]
  by_cases e : key = own k
  · subst e
    rw [if_pos rfl]
    have h1 : (firsts own k).findIdx? (fun h => own h == own k) = none := (place_none (own := own) (k := k) (key := own k)).2 h
    rw [h1]
    simp
  · rw [if_neg e]
    have h2 : (own k == key) = false := by rw [beq_eq_false_iff_ne]; exact fun h => e h.symm
    cases (firsts own k).findIdx? (fun h => own h == key) <;> simp [h2]
theorem place_old {own : Nat → Nat} {k j : Nat} (hj : j < k) (h : own j = own k) (key : Nat) : place own (k + 1) key = place own k key := by
  unfold place
  rw [firsts_old hj h]
theorem those_step (own : Nat → Nat) (k key : Nat) : those own (k + 1) key = if own k = key then those own k key ++ [k] else those own k key := by
  unfold those
  rw [List.range_succ, List.filter_append]
  by_cases e : own k = key
  · rw [if_pos e]
    simp [e]
  · rw [if_neg e]
    have : (own k == key) = false := by simpa using e
    simp [this]
theorem gath_length (own : Nat → Nat) (k : Nat) : (gath own k).length = (firsts own k).length := by simp [gath]
theorem firsts_le (own : Nat → Nat) (k : Nat) : (firsts own k).length ≤ k := by
  have := List.length_filter_le (isF own) (List.range k)
  rw [List.length_range] at this
  exact this
/-- One more, of an owner who has none yet. -/
theorem gath_new {own : Nat → Nat} {k : Nat} (h : ∀ j, j < k → own j ≠ own k) : gath own (k + 1) = gath own k ++ [[k]] := by
  unfold gath
  rw [firsts_new h, List.map_append]
  congr 1
  · apply List.map_congr_left
    intro f hf
    rw [those_step, if_neg (fun e => h f (mem_firsts.1 hf).1 e.symm)]
  · simp only [List.map_cons, List.map_nil]
    rw [those_step, if_pos rfl]
    congr 1
    have : those own k (own k) = [] := by
      unfold those
      rw [List.filter_eq_nil_iff]
      intro j hj
      simpa using h j (List.mem_range.1 hj)
    rw [this]
    rfl
/-- One more, of an owner who has some. -/
theorem gath_old {own : Nat → Nat} {k at_ : Nat} (h : place own k (own k) = some at_) : ∃ l, (gath own k)[at_]? = some l ∧ gath own (k + 1) = (gath own k).set at_ (l ++ [k]) := by
  obtain ⟨f, hf, he⟩ := place_some h
  have hmem := List.mem_of_getElem? hf
  have hfk := (mem_firsts.1 hmem).1
  refine ⟨those own k (own f), by unfold gath; rw [List.getElem?_map, hf]; rfl, ?_⟩
  apply List.ext_getElem?
  intro i
  have hl : at_ < (gath own k).length := by rw [gath_length]; exact (List.getElem?_eq_some_iff.1 hf).1
  rw [List.getElem?_set]
  unfold gath at hl ⊢
  rw [List.getElem?_map, firsts_old hfk he]
  by_cases e : at_ = i
  · subst e
    rw [if_pos rfl, if_pos hl, hf, Option.map_some, those_step, if_pos he.symm]
  · rw [if_neg e, List.getElem?_map]
    cases hi : (firsts own k)[i]? with
    | none => rfl
    | some g =>
      rw [Option.map_some, Option.map_some, those_step, if_neg]
      intro eg
      have hg := List.mem_of_getElem? hi
      have h1 := (mem_firsts.1 hg)
      have h2 := (mem_firsts.1 hmem)
      have e2 : g = f := by
        rcases Nat.lt_trichotomy g f with h | h | h
        · exact absurd (eg.symm.trans he.symm) (h2.2 g h)
        · exact h
        · exact absurd (he.trans eg) (h1.2 f h)
      subst e2
      have hnd : (firsts own k).Nodup := List.nodup_range.filter _
      obtain ⟨l1, e3⟩ := List.getElem?_eq_some_iff.1 hf
      obtain ⟨l2, e4⟩ := List.getElem?_eq_some_iff.1 hi
      exact e ((List.getElem_inj hnd).1 (e3.trans e4.symm))
end Go.Proofs.Ytlkddjpjhchjfaa
