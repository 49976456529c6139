/- Of rows made to rise, each once; what is left beside a web (pure; layer 8). -/
import Derived.Test.YtlkddjpjhchjfaaU5
import Derived.Test.YtlkddjpjhchjfaaUE
import Derived.Test.YtlkddjpjhchjfaaH9
namespace Go.Proofs.Ytlkddjpjhchjfaa
set_option maxRecDepth 100000
open Go.RowKit

theorem comp_mem {zs : List Int} {x : Int} : x ∈ Lib.compact zs ↔ x ∈ zs := by
  have hg : ∀ j : Nat, j < zs.length → zs.toArray[j]! ∈ zs := by
    intro j hj
    simp only [List.getElem!_toArray, List.getElem!_eq_getElem?_getD, List.getElem?_eq_getElem hj, Option.getD_some]
    exact List.getElem_mem hj
  unfold Lib.compact Lib.compactUpTo
  rw [List.mem_map]
  constructor
  · rintro ⟨j, hj, rfl⟩
    exact hg j (List.mem_range.1 (List.mem_filter.1 hj).1)
  · intro hx
    obtain ⟨j, hj⟩ := List.getElem?_of_mem hx
    obtain ⟨hl, he⟩ := List.getElem?_eq_some_iff.1 hj
    have key : ∀ j : Nat, j < zs.length → ∃ q, q ∈ (List.range zs.length).filter (Lib.keeps zs.toArray) ∧ zs.toArray[q]! = zs.toArray[j]! := by
      intro j
      induction j using Nat.strongRecOn with
      | ind j ih =>
        intro hl
        cases hk : Lib.keeps zs.toArray j with
        | true => exact ⟨j, List.mem_filter.2 ⟨List.mem_range.2 hl, hk⟩, rfl⟩
        | false =>
          unfold Lib.keeps at hk
          rw [decide_eq_false_iff_not] at hk
          have h1 : ¬ j = 0 := fun h => hk (.inl h)
          have h2 : zs.toArray[j]! = zs.toArray[j - 1]! := Classical.byContradiction fun h => hk (.inr h)
          obtain ⟨q, hq, e⟩ := ih (j - 1) (by omega) (by omega)
          exact ⟨q, hq, e.trans h2.symm⟩
    obtain ⟨q, hq, e⟩ := key j hl
    refine ⟨q, hq, e.trans ?_⟩
    simp only [List.getElem!_toArray, List.getElem!_eq_getElem?_getD, List.getElem?_eq_getElem hl, Option.getD_some]
    exact he
theorem srtZ_mem {l : List Int} {x : Int} : x ∈ srtZ l ↔ x ∈ l := by unfold srtZ; exact List.mem_mergeSort
/-- What is known of a graph, a web in it, and what is left. -/
theorem rest_of {n : Nat} {E W : List (Int × Int)} (h : rightG (n : Nat) E = true) (hok : (leftP W E E.length).2 = W.length) : Rest n W E (leftP W E E.length).1 (fun v => (rT (onW W) (leftP W E E.length).1 n (leftP W E E.length).1.length).getD v 0) := by
  obtain ⟨_, h2⟩ := leftP_rest (rightG_nodup h) hok
  have hin : ∀ e ∈ E, 0 ≤ e.1 ∧ e.1 < e.2 ∧ e.2 < n := fun e he => by
    obtain ⟨q, hq⟩ := List.getElem?_of_mem he
    exact rightG_edge h hq
  have hin2 : ∀ e ∈ (leftP W E E.length).1, 0 ≤ e.1 ∧ e.1 < n ∧ 0 ≤ e.2 ∧ e.2 < n := fun e he => by
    rw [h2] at he
    have := hin e (List.mem_filter.1 he).1
    omega
  exact ⟨hin, rightG_nodup h, h2, rT_lt _ _ n hin2 _, rT_iff _ _ n hin2 _⟩
/-- A web is met whole just if it is right, and its edges are edges. -/
theorem web_ok {N : Int} {E W : List (Int × Int)} (h : rightG N E = true) : (leftP W E E.length).2 = W.length ↔ rightG N W = true ∧ ∀ e ∈ W, e ∈ E := by
  constructor
  · intro h1
    obtain ⟨h2, _⟩ := leftP_rest (rightG_nodup h) h1
    obtain ⟨b1, b2, b3⟩ := rightG_bounds h
    refine ⟨rightG_of8 ⟨b1, b2⟩ (Nat.le_trans h2.length_le b3) (fun e he => ?_) ((rightG_pw8 h).sublist h2), fun e he => h2.subset he⟩
    obtain ⟨q, hq⟩ := List.getElem?_of_mem (h2.subset he)
    exact rightG_edge h hq
  · rintro ⟨h1, h2⟩
    refine leftP_all (R := fun a b => cmpP a b < 0) (fun x hx => ?_) (fun x y h3 h4 => ?_) (rightG_pw8 h) (rightG_pw8 h1) h2
    · rw [(cmpP_zero x x).2 rfl] at hx
      omega
    · have := cmpP_trans h3 h4
      rw [(cmpP_zero x x).2 rfl] at this
      omega
theorem mkd_sub {E : List (Int × Int)} {bs : List Bool} {n : Nat} (hn : n = E.length) : (mkd E bs n).Sublist E := by
  subst hn
  unfold mkd
  have h := (List.filter_sublist (p := fun i => bs.getD i false) (l := List.range E.length)).map fun i => E.getD i (0, 0)
  rwa [range_getD] at h
/-- What is chosen is a web. -/
theorem chosen_web {n : Nat} {N : Int} {E : List (Int × Int)} {bs : List Bool} (hg : rightG N E = true) (hn : n = E.length) : (leftP (mkd E bs n) E E.length).2 = (mkd E bs n).length ∧ ∀ e ∈ mkd E bs n, 0 ≤ e.1 ∧ e.1 < e.2 ∧ e.2 < N := by
  have hs := mkd_sub (bs := bs) hn
  refine ⟨(web_ok hg).2 ⟨sub_right hg hs, fun e he => hs.subset he⟩, fun e he => ?_⟩
  obtain ⟨q, hq⟩ := List.getElem?_of_mem (hs.subset he)
  exact rightG_edge hg hq
end Go.Proofs.Ytlkddjpjhchjfaa
