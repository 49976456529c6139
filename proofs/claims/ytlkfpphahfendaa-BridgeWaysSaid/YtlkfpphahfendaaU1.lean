/- What is left of edges beside a web (pure): both rise, so each of the web's is met in its turn. -/
import Derived.Test.YtlkfpphahfendaaRG
namespace Go.Proofs.Ytlkfpphahfendaa
open Go.RowKit

/-- One edge more: the web's next one, or one that is left. -/
def lstep (W : List (Int × Int)) (s : List (Int × Int) × Nat) (e : Int × Int) : List (Int × Int) × Nat := if W[s.2]? = some e then (s.1, s.2 + 1) else (s.1 ++ [e], s.2)
def leftP (W E : List (Int × Int)) (k : Nat) : List (Int × Int) × Nat := (E.take k).foldl (lstep W) ([], 0)
theorem leftP_zero (W E : List (Int × Int)) : leftP W E 0 = ([], 0) := rfl
theorem leftP_step {W E : List (Int × Int)} {k : Nat} {e : Int × Int} (he : E[k]? = some e) : leftP W E (k + 1) = lstep W (leftP W E k) e := by
  unfold leftP
  rw [List.take_add_one, he, Option.toList_some, List.foldl_append]
  rfl
theorem leftP_yes {W E : List (Int × Int)} {k : Nat} {e : Int × Int} (he : E[k]? = some e) (h : W[(leftP W E k).2]? = some e) : leftP W E (k + 1) = ((leftP W E k).1, (leftP W E k).2 + 1) := by
  rw [leftP_step he]
  unfold lstep
  rw [if_pos h]
theorem leftP_no {W E : List (Int × Int)} {k : Nat} {e : Int × Int} (he : E[k]? = some e) (h : W[(leftP W E k).2]? ≠ some e) : leftP W E (k + 1) = ((leftP W E k).1 ++ [e], (leftP W E k).2) := by
  rw [leftP_step he]
  unfold lstep
  rw [if_neg h]
theorem leftP_le (W E : List (Int × Int)) : ∀ k, (leftP W E k).2 ≤ W.length ∧ (leftP W E k).1.length + (leftP W E k).2 ≤ k
  | 0 => by simp [leftP_zero]
  | k + 1 => by
    have h := leftP_le W E k
    cases he : E[k]? with
    | none =>
      have hk : E.length ≤ k := List.getElem?_eq_none_iff.1 he
      have e1 : leftP W E (k + 1) = leftP W E k := by
        unfold leftP
        rw [List.take_of_length_le (by omega), List.take_of_length_le hk]
      rw [e1]
      omega
    | some e =>
      by_cases hw : W[(leftP W E k).2]? = some e
      · rw [leftP_yes he hw]
        have := (List.getElem?_eq_some_iff.1 hw).1
        exact ⟨this, by simp only; omega⟩
      · rw [leftP_no he hw]
        simp only [List.length_append, List.length_singleton]
        omega
/-- What is left so far, and what of the web was met, are the edges so far. -/
theorem leftP_perm (W E : List (Int × Int)) : ∀ k, ((leftP W E k).1 ++ W.take (leftP W E k).2).Perm (E.take k)
  | 0 => by simp [leftP_zero]
  | k + 1 => by
    have h := leftP_perm W E k
    cases he : E[k]? with
    | none =>
      have hk : E.length ≤ k := List.getElem?_eq_none_iff.1 he
      have e1 : E.take (k + 1) = E.take k := by rw [List.take_of_length_le (by omega), List.take_of_length_le hk]
      have e2 : leftP W E (k + 1) = leftP W E k := by
        unfold leftP
        rw [e1]
      rw [e1, e2]
      exact h
    | some x =>
      rw [List.take_add_one, he, Option.toList_some]
      by_cases hw : W[(leftP W E k).2]? = some x
      · rw [leftP_yes he hw]
        simp only
        rw [List.take_add_one, hw, Option.toList_some, ← List.append_assoc]
        exact h.append_right _
      · rw [leftP_no he hw]
        simp only
        refine List.Perm.trans ?_ (h.append_right [x])
        rw [List.append_assoc, List.append_assoc]
        exact List.Perm.append_left _ List.perm_append_comm
theorem leftP_mono (W E : List (Int × Int)) (k : Nat) : (leftP W E k).2 ≤ (leftP W E (k + 1)).2 := by
  cases he : E[k]? with
  | none =>
    have hk : E.length ≤ k := List.getElem?_eq_none_iff.1 he
    have e2 : leftP W E (k + 1) = leftP W E k := by
      unfold leftP
      rw [List.take_of_length_le (by omega), List.take_of_length_le hk]
    rw [e2]
    exact Nat.le_refl _
  | some x =>
    by_cases hw : W[(leftP W E k).2]? = some x
    · rw [leftP_yes he hw]; exact Nat.le_succ _
    · rw [leftP_no he hw]; exact Nat.le_refl _
theorem leftP_mono2 (W E : List (Int × Int)) (k : Nat) : ∀ d, (leftP W E k).2 ≤ (leftP W E (k + d)).2
  | 0 => Nat.le_refl _
  | d + 1 => Nat.le_trans (leftP_mono2 W E k d) (leftP_mono W E (k + d))
/-- If both rise, and all of the web are edges, all of it is met. -/
theorem leftP_all {W E : List (Int × Int)} {R : Int × Int → Int × Int → Prop} (irr : ∀ x, ¬ R x x) (tr : ∀ x y, R x y → ¬ R y x) (hE : E.Pairwise R) (hW : W.Pairwise R) (hs : ∀ e ∈ W, e ∈ E) : (leftP W E E.length).2 = W.length := by
  have key : ∀ t i x, W[t]? = some x → E[i]? = some x → t + 1 ≤ (leftP W E (i + 1)).2 := by
    intro t
    induction t with
    | zero =>
      intro i x hx hi
      by_cases h0 : (leftP W E i).2 = 0
      · rw [leftP_yes hi (by rw [h0]; exact hx)]
        omega
      · have := leftP_mono W E i
        omega
    | succ t ih =>
      intro i x hx hi
      have htl := (List.getElem?_eq_some_iff.1 hx).1
      obtain ⟨y, hy⟩ : ∃ y, W[t]? = some y := ⟨_, List.getElem?_eq_getElem (by omega)⟩
      obtain ⟨q, hq⟩ := List.getElem?_of_mem (hs y (List.mem_of_getElem? hy))
      have h1 := ih q y hy hq
      have hyx : R y x := by
        obtain ⟨l1, e1⟩ := List.getElem?_eq_some_iff.1 hy
        obtain ⟨l2, e2⟩ := List.getElem?_eq_some_iff.1 hx
        rw [← e1, ← e2]
        exact (List.pairwise_iff_getElem.1 hW) t (t + 1) l1 l2 (by omega)
      have hqi : q < i := by
        obtain ⟨l1, e1⟩ := List.getElem?_eq_some_iff.1 hq
        obtain ⟨l2, e2⟩ := List.getElem?_eq_some_iff.1 hi
        by_cases h : q < i
        · exact h
        · exfalso
          by_cases e : q = i
          · subst e
            rw [hq] at hi
            injection hi with hi
            rw [hi] at hyx
            exact irr _ hyx
          · have h3 := (List.pairwise_iff_getElem.1 hE) i q l2 l1 (by omega)
            rw [e1, e2] at h3
            exact tr _ _ hyx h3
      have h2 : (leftP W E (q + 1)).2 ≤ (leftP W E i).2 := by
        have := leftP_mono2 W E (q + 1) (i - (q + 1))
        rwa [show q + 1 + (i - (q + 1)) = i by omega] at this
      by_cases h0 : (leftP W E i).2 = t + 1
      · rw [leftP_yes hi (by rw [h0]; exact hx)]
        simp only
        omega
      · have := leftP_mono W E i
        omega
  have h1 := (leftP_le W E E.length).1
  by_cases h0 : W.length = 0
  · omega
  · obtain ⟨x, hx⟩ : ∃ x, W[W.length - 1]? = some x := ⟨_, List.getElem?_eq_getElem (by omega)⟩
    obtain ⟨q, hq⟩ := List.getElem?_of_mem (hs x (List.mem_of_getElem? hx))
    have h2 := key _ q x hx hq
    have hql := (List.getElem?_eq_some_iff.1 hq).1
    have h3 := leftP_mono2 W E (q + 1) (E.length - (q + 1))
    rw [show q + 1 + (E.length - (q + 1)) = E.length by omega] at h3
    omega
/-- What is left is met in the edges' own order. -/
theorem leftP_sub (W E : List (Int × Int)) : ∀ k, (leftP W E k).1.Sublist (E.take k)
  | 0 => by simp [leftP_zero]
  | k + 1 => by
    have h := leftP_sub W E k
    cases he : E[k]? with
    | none =>
      have hk : E.length ≤ k := List.getElem?_eq_none_iff.1 he
      have e1 : E.take (k + 1) = E.take k := by rw [List.take_of_length_le (by omega), List.take_of_length_le hk]
      have e2 : leftP W E (k + 1) = leftP W E k := by
        unfold leftP
        rw [e1]
      rw [e1, e2]
      exact h
    | some x =>
      rw [List.take_add_one, he, Option.toList_some]
      by_cases hw : W[(leftP W E k).2]? = some x
      · rw [leftP_yes he hw]
        exact h.trans (List.sublist_append_left _ _)
      · rw [leftP_no he hw]
        exact List.Sublist.append h (List.Sublist.refl _)
/-- What was met of the web is met in the edges' own order. -/
theorem leftP_web (W E : List (Int × Int)) : ∀ k, (W.take (leftP W E k).2).Sublist (E.take k)
  | 0 => by simp [leftP_zero]
  | k + 1 => by
    have h := leftP_web W E k
    cases he : E[k]? with
    | none =>
      have hk : E.length ≤ k := List.getElem?_eq_none_iff.1 he
      have e1 : E.take (k + 1) = E.take k := by rw [List.take_of_length_le (by omega), List.take_of_length_le hk]
      have e2 : leftP W E (k + 1) = leftP W E k := by
        unfold leftP
        rw [e1]
      rw [e1, e2]
      exact h
    | some x =>
      rw [List.take_add_one, he, Option.toList_some]
      by_cases hw : W[(leftP W E k).2]? = some x
      · rw [leftP_yes he hw]
        simp only
        rw [List.take_add_one, hw, Option.toList_some]
        exact List.Sublist.append h (List.Sublist.refl _)
      · rw [leftP_no he hw]
        exact h.trans (List.sublist_append_left _ _)
/-- If all of it is met, it is of the edges, and what is left is what is not of it. -/
theorem leftP_rest {W E : List (Int × Int)} (hE : E.Nodup) (h : (leftP W E E.length).2 = W.length) : W.Sublist E ∧ (leftP W E E.length).1 = E.filter (fun e => decide (e ∉ W)) := by
  have hp := leftP_perm W E E.length
  rw [h, List.take_length, List.take_length] at hp
  have hsub := leftP_sub W E E.length
  rw [List.take_length] at hsub
  have hweb := leftP_web W E E.length
  rw [h, List.take_length, List.take_length] at hweb
  refine ⟨hweb, ?_⟩
  have hnd := (hp.nodup_iff).2 hE
  have hdis := (List.nodup_append.1 hnd).2.2
  have e1 : ((leftP W E E.length).1).filter (fun e => decide (e ∉ W)) = (leftP W E E.length).1 := List.filter_eq_self.2 fun e he => by
    rw [decide_eq_true_iff]
    exact fun hw => hdis e he e hw rfl
  have hs2 := hsub.filter (fun e => decide (e ∉ W))
  rw [e1] at hs2
  refine hs2.eq_of_length ?_
  have h3 := (hp.filter (fun e => decide (e ∉ W))).length_eq
  rw [List.filter_append, e1] at h3
  have e2 : W.filter (fun e => decide (e ∉ W)) = [] := List.filter_eq_nil_iff.2 fun e he => by simp [he]
  rw [e2, List.append_nil] at h3
  exact h3
end Go.Proofs.Ytlkfpphahfendaa
