/- The reference's fragments are the program's (pure, layer 8). -/
import Derived.Test.YtlkfpphahfendaaU5
import Derived.Test.YtlkfpphahfendaaH12
namespace Go.Proofs.Ytlkfpphahfendaa
set_option maxRecDepth 100000
open Go.RowKit

/-- A row that rises, each once. -/
theorem comp_lt {zs : List Int} (h : zs.Pairwise (· ≤ ·)) : (Lib.compact zs).Pairwise (· < ·) := by
  have hle : ∀ i j : Nat, i ≤ j → j < zs.length → zs.toArray[i]! ≤ zs.toArray[j]! := by
    intro i j hij hj
    rw [List.pairwise_iff_getElem] at h
    have hi : i < zs.length := by omega
    simp only [List.getElem!_toArray, List.getElem!_eq_getElem?_getD, List.getElem?_eq_getElem hi, List.getElem?_eq_getElem hj, Option.getD_some]
    rcases Nat.lt_or_ge i j with h1 | h1
    · exact h i j hi hj h1
    · have : i = j := by omega
      subst this
      exact Int.le_refl _
  unfold Lib.compact Lib.compactUpTo
  rw [List.pairwise_map, List.pairwise_filter]
  refine List.Pairwise.imp_of_mem ?_ List.pairwise_lt_range
  intro a b ha hb hab _ hk
  have hb := List.mem_range.1 hb
  unfold Lib.keeps at hk
  rw [decide_eq_true_iff] at hk
  rcases hk with hk | hk
  · omega
  · have h1 := hle a (b - 1) (by omega) (by omega)
    have h2 := hle (b - 1) b (by omega) hb
    omega
theorem comp_mem {zs : List Int} {x : Int} : x ∈ Lib.compact zs ↔ x ∈ zs := by
  have hg : ∀ j : Nat, j < zs.length → zs.toArray[j]! ∈ zs := by
    intro j hj
    simp only [List.getElem!_toArray, List.getElem!_eq_getElem?_getD, List.getElem?_eq_getElem hj, Option.getD_some]
    exact List.getElem_mem hj
  unfold Lib.compact Lib.compactUpTo
  rw [List.mem_map]
  constructor
  · rintro ⟨j, hj, rfl⟩
    exact hg j (List.mem_range.1 (List.mem_filter.1 hj).1)
  · intro hx
    obtain ⟨j, hj⟩ := List.getElem?_of_mem hx
    obtain ⟨hl, he⟩ := List.getElem?_eq_some_iff.1 hj
    have key : ∀ j : Nat, j < zs.length → ∃ q, q ∈ (List.range zs.length).filter (Lib.keeps zs.toArray) ∧ zs.toArray[q]! = zs.toArray[j]! := by
      intro j
      induction j using Nat.strongRecOn with
      | ind j ih =>
        intro hl
        cases hk : Lib.keeps zs.toArray j with
        | true => exact ⟨j, List.mem_filter.2 ⟨List.mem_range.2 hl, hk⟩, rfl⟩
        | false =>
          unfold Lib.keeps at hk
          rw [decide_eq_false_iff_not] at hk
          have h1 : ¬ j = 0 := fun h => hk (.inl h)
          have h2 : zs.toArray[j]! = zs.toArray[j - 1]! := Classical.byContradiction fun h => hk (.inr h)
          obtain ⟨q, hq, e⟩ := ih (j - 1) (by omega) (by omega)
          exact ⟨q, hq, e.trans h2.symm⟩
    obtain ⟨q, hq, e⟩ := key j hl
    refine ⟨q, hq, e.trans ?_⟩
    simp only [List.getElem!_toArray, List.getElem!_eq_getElem?_getD, List.getElem?_eq_getElem hl, Option.getD_some]
    exact he
theorem rise_eq {l l' : List Int} (h : l.Pairwise (· < ·)) (h' : l'.Pairwise (· < ·)) (hm : ∀ x, x ∈ l ↔ x ∈ l') : l = l' := by
  have nd : ∀ {l : List Int}, l.Pairwise (· < ·) → l.Nodup := fun hp => hp.imp (fun hlt e => by subst e; omega)
  exact List.Perm.eq_of_pairwise (le := fun a b : Int => a < b) (fun a b _ _ h1 h2 => by omega) h h' ((List.perm_ext_iff_of_nodup (nd h) (nd h')).2 hm)
theorem srtZ_le (l : List Int) : (srtZ l).Pairwise (· ≤ ·) := by
  have := List.pairwise_mergeSort (le := fun x y : Int => decide (x ≤ y)) (fun a b c h1 h2 => by simp at h1 h2 ⊢; omega) (fun a b => by simp; omega) l
  exact this.imp fun h => by simpa using h
theorem srtZ_mem {l : List Int} {x : Int} : x ∈ srtZ l ↔ x ∈ l := by unfold srtZ; exact List.mem_mergeSort
theorem feetR_lt (W l : List (Int × Int)) (k : Nat) : (feetR W l k).Pairwise (· < ·) := by
  unfold feetR
  rw [List.pairwise_map, List.pairwise_filter]
  exact List.pairwise_lt_range.imp fun h _ _ => by omega
theorem feetR_mem {W l : List (Int × Int)} {k : Nat} {x : Int} : x ∈ feetR W l k ↔ ∃ v : Nat, v < k ∧ x = (v : Int) ∧ onZ W x = true ∧ onZ l x = true := by
  unfold feetR
  rw [List.mem_map]
  constructor
  · rintro ⟨v, hv, rfl⟩
    rw [List.mem_filter, List.mem_range, Bool.and_eq_true] at hv
    exact ⟨v, hv.1, rfl, hv.2.1, hv.2.2⟩
  · rintro ⟨v, h1, rfl, h2, h3⟩
    exact ⟨v, List.mem_filter.2 ⟨List.mem_range.2 h1, by rw [h2, h3]; rfl⟩, rfl⟩
theorem feetOf_mem {on : Nat → Bool} {e : Int × Int} {x : Int} : x ∈ feetOf on e ↔ EndOf e x ∧ on x.toNat = true := by
  unfold feetOf EndOf
  rw [List.mem_append]
  constructor
  · rintro (h | h)
    · split at h
      · rename_i h1; simp at h; subst h; exact ⟨.inl rfl, h1⟩
      · cases h
    · split at h
      · rename_i h1; simp at h; subst h; exact ⟨.inr rfl, h1⟩
      · cases h
  · rintro ⟨h | h, h1⟩
    · subst h; left; rw [if_pos h1]; simp
    · subst h; right; rw [if_pos h1]; simp
/-- The feet of a fragment's edges. -/
theorem feet_is {n : Nat} {W l : List (Int × Int)} (hl : ∀ e ∈ l, 0 ≤ e.1 ∧ e.1 < n ∧ 0 ≤ e.2 ∧ e.2 < n) : Lib.compact (srtZ (l.flatMap (feetOf (onW W)))) = feetR W l n := by
  refine rise_eq (comp_lt (srtZ_le _)) (feetR_lt _ _ _) fun x => ?_
  rw [comp_mem, srtZ_mem, feetR_mem, List.mem_flatMap]
  constructor
  · rintro ⟨e, he, hx⟩
    obtain ⟨h1, h2⟩ := feetOf_mem.1 hx
    have h4 := hl e he
    have hx0 : 0 ≤ x ∧ x < n := by rcases h1 with h1 | h1 <;> omega
    have hx1 : x = ((x.toNat : Nat) : Int) := by omega
    refine ⟨x.toNat, by omega, hx1, ?_, ?_⟩
    · rw [hx1]; exact h2
    · unfold onZ
      rw [List.any_eq_true]
      exact ⟨e, he, by rcases h1 with h1 | h1 <;> simp [h1]⟩
  · rintro ⟨v, h1, rfl, h2, h3⟩
    unfold onZ at h3
    rw [List.any_eq_true] at h3
    obtain ⟨e, he, h4⟩ := h3
    refine ⟨e, he, feetOf_mem.2 ⟨?_, by rw [Int.toNat_natCast]; exact h2⟩⟩
    simpa [EndOf] using h4
theorem grp_rest {n : Nat} {W E L : List (Int × Int)} {r : Nat → Nat} (h : Rest n W E L r) {q : Nat} {e : Int × Int} (he : L[q]? = some e) : (those (ownF n (onW W) r L) L.length (ownF n (onW W) r L q)).map (fun i => L.getD i (0, 0)) = grp W E e := by
  have h1 : grp W E e = L.filter fun x => @decide (Cn W E e x) (Classical.propDecidable _) := by
    unfold grp
    rw [h.is, List.filter_filter]
    apply List.filter_congr
    intro x hx
    rw [Bool.eq_iff_iff, Bool.and_eq_true, @decide_eq_true_iff _ (Classical.propDecidable _)]
    constructor
    · intro hc
      obtain ⟨j, hj, _⟩ := h.own_cn he hc
      exact ⟨hc, by simpa using (h.mem.1 (List.mem_of_getElem? hj)).2⟩
    · exact fun hc => hc.1
  rw [h1]
  unfold those
  conv => rhs; rw [← range_getD L]
  rw [List.filter_map]
  congr 1
  apply List.filter_congr
  intro j hj
  have hj := List.mem_range.1 hj
  have hg : L[j]? = some (L.getD j (0, 0)) := by rw [List.getD_eq_getElem?_getD, List.getElem?_eq_getElem hj]; rfl
  rw [Bool.eq_iff_iff, beq_iff_eq]
  simp only [Function.comp]
  rw [@decide_eq_true_iff _ (Classical.propDecidable _), eq_comm]
  exact h.own_iff he hg
/-- What the reference has gathered of the first k edges. -/
noncomputable def refS (W E : List (Int × Int)) (n : Nat) : Nat → List (List (Int × Int) × List Int) × List (Int × Int)
  | 0 => ([], [])
  | k + 1 => match E[k]? with
    | none => refS W E n k
    | some e => if e ∈ W ∨ e ∈ (refS W E n k).2 then refS W E n k else ((refS W E n k).1 ++ [(grp W E e, feetR W (grp W E e) n)], (refS W E n k).2 ++ grp W E e)
theorem refS_old {W E : List (Int × Int)} {n k : Nat} {e : Int × Int} (he : E[k]? = some e) (h : e ∈ W ∨ e ∈ (refS W E n k).2) : refS W E n (k + 1) = refS W E n k := by
  show (match E[k]? with | none => _ | some e => _) = _
  rw [he]
  simp only [if_pos h]
theorem refS_new {W E : List (Int × Int)} {n k : Nat} {e : Int × Int} (he : E[k]? = some e) (h : ¬ (e ∈ W ∨ e ∈ (refS W E n k).2)) : refS W E n (k + 1) = ((refS W E n k).1 ++ [(grp W E e, feetR W (grp W E e) n)], (refS W E n k).2 ++ grp W E e) := by
  show (match E[k]? with | none => _ | some e => _) = _
  rw [he]
  simp only [if_neg h]
/-- All that is done is edges, each once. -/
theorem refS_inv {n : Nat} {W E L : List (Int × Int)} {r : Nat → Nat} (h : Rest n W E L r) : ∀ k, k ≤ E.length → ∃ q, ((E.take k).filter fun e => decide (e ∉ W)).length = q ∧
    (refS W E n k).1 = (firsts (ownF n (onW W) r L) q).map (fun i => (grp W E (L.getD i (0, 0)), feetR W (grp W E (L.getD i (0, 0))) n)) ∧ (refS W E n k).2 = (firsts (ownF n (onW W) r L) q).flatMap (fun i => grp W E (L.getD i (0, 0)))
  | 0, _ => ⟨0, rfl, rfl, rfl⟩
  | k + 1, hk => by
    obtain ⟨q, h1, h2, h3⟩ := refS_inv h k (by omega)
    have he : E[k]? = some E[k] := List.getElem?_eq_getElem (by omega)
    generalize E[k] = e at he
    have hsplit : E = E.take k ++ (e :: E.drop (k + 1)) := by
      conv => lhs; rw [← List.take_append_drop k E]
      rw [List.drop_eq_getElem_cons (by omega)]
      congr 2
      have := (List.getElem?_eq_some_iff.1 he).2
      exact this
    have htk : E.take (k + 1) = E.take k ++ [e] := by rw [List.take_add_one, he]; rfl
    by_cases hw : e ∈ W
    · refine ⟨q, ?_, ?_, ?_⟩
      · rw [htk, List.filter_append, List.length_append, h1]
        simp [hw]
      · rw [refS_old he (.inl hw)]; exact h2
      · rw [refS_old he (.inl hw)]; exact h3
    · have hLq : L[q]? = some e := by
        rw [h.is, hsplit, List.filter_append, List.getElem?_append_right (by omega), h1, Nat.sub_self, List.filter_cons_of_pos (by simpa using hw)]
        rfl
      have hgq : L.getD q (0, 0) = e := by rw [List.getD_eq_getElem?_getD, hLq]; rfl
      have hql := (List.getElem?_eq_some_iff.1 hLq).1
      have hlen : ((E.take (k + 1)).filter fun e => decide (e ∉ W)).length = q + 1 := by
        rw [htk, List.filter_append, List.length_append, h1]
        simp [hw]
      have hdone : e ∈ (refS W E n k).2 ↔ ∃ j, j < q ∧ ownF n (onW W) r L j = ownF n (onW W) r L q := by
        rw [h3, List.mem_flatMap]
        constructor
        · rintro ⟨f, hf, hm⟩
          have hfq := (mem_firsts.1 hf).1
          have hgf : L[f]? = some (L.getD f (0, 0)) := by rw [List.getD_eq_getElem?_getD, List.getElem?_eq_getElem (by omega)]; rfl
          exact ⟨f, hfq, (h.own_iff hgf hLq).2 (grp_mem.1 hm).2⟩
        · rintro ⟨j, hj, ho⟩
          obtain ⟨f, hf, hfo, _⟩ := first_of (ownF n (onW W) r L) q j hj
          have hfq := (mem_firsts.1 hf).1
          have hgf : L[f]? = some (L.getD f (0, 0)) := by rw [List.getD_eq_getElem?_getD, List.getElem?_eq_getElem (by omega)]; rfl
          exact ⟨f, hf, grp_mem.2 ⟨List.mem_of_getElem? he, (h.own_iff hgf hLq).1 (hfo.trans ho)⟩⟩
      by_cases hd : e ∈ (refS W E n k).2
      · obtain ⟨j, hj, ho⟩ := hdone.1 hd
        refine ⟨q + 1, hlen, ?_, ?_⟩
        · rw [refS_old he (.inr hd), firsts_old hj ho]; exact h2
        · rw [refS_old he (.inr hd), firsts_old hj ho]; exact h3
      · have hn : ∀ j, j < q → ownF n (onW W) r L j ≠ ownF n (onW W) r L q := fun j hj ho => hd (hdone.2 ⟨j, hj, ho⟩)
        refine ⟨q + 1, hlen, ?_, ?_⟩
        · rw [refS_new he (fun hc => hc.elim hw hd), firsts_new hn, List.map_append, h2]
          simp only [List.map_cons, List.map_nil, hgq]
        · rw [refS_new he (fun hc => hc.elim hw hd), firsts_new hn, List.flatMap_append, h3]
          simp only [List.flatMap_cons, List.flatMap_nil, hgq, List.append_nil]
theorem refS_all {n : Nat} {W E L : List (Int × Int)} {r : Nat → Nat} (h : Rest n W E L r) : (refS W E n E.length).1 = (fragsO (onW W) L (ownF n (onW W) r L) L.length).map fin1 := by
  obtain ⟨q, h1, h2, _⟩ := refS_inv h E.length (Nat.le_refl _)
  rw [List.take_length, ← h.is] at h1
  subst h1
  rw [h2]
  unfold fragsO gath
  rw [List.map_map, List.map_map]
  apply List.map_congr_left
  intro f hf
  have hfq := (mem_firsts.1 hf).1
  have hgf : L[f]? = some (L.getD f (0, 0)) := by rw [List.getD_eq_getElem?_getD, List.getElem?_eq_getElem hfq]; rfl
  have hg := grp_rest h hgf
  simp only [Function.comp, fin1, fragO]
  rw [hg]
  congr 1
  rw [← feet_is (n := n) (W := W) (l := grp W E (L.getD f (0, 0))) (fun e he => by have := h.inn e (grp_mem.1 he).1; omega), ← hg, List.flatMap_map]
end Go.Proofs.Ytlkfpphahfendaa
