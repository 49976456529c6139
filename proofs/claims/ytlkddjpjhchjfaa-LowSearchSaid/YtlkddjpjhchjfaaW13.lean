/- Which parts there are: what comes of it, and rows that are put behind one another. -/
import Derived.Test.YtlkddjpjhchjfaaW8
import Derived.Test.YtlkddjpjhchjfaaW10
namespace Go.Proofs.Ytlkddjpjhchjfaa
set_option maxRecDepth 100000
open Go.RowKit

/-- Whom one comes to, among the first ones. -/
def reachN (d : List Int) (i : Nat) : List Int := ((List.range i).filter fun w => decide (0 ≤ gd d w)).map fun (w : Nat) => (w : Int)
theorem reachN_step (d : List Int) (i : Nat) : reachN d (i + 1) = reachN d i ++ (if 0 ≤ gd d i then [(i : Int)] else []) := by
  unfold reachN
  rw [List.range_succ, List.filter_append, List.map_append]
  congr 1
  by_cases h : 0 ≤ gd d i <;> simp [h]
def metN (m : List Bool) (d : List Int) (i : Nat) : List Bool := (List.range m.length).map fun w => m.getD w false || (decide (w < i) && decide (0 ≤ gd d w))
theorem metN_length (m : List Bool) (d : List Int) (i : Nat) : (metN m d i).length = m.length := by simp [metN]
theorem metN_zero (m : List Bool) (d : List Int) : metN m d 0 = m := by
  apply List.ext_getElem?
  intro j
  by_cases h : j < m.length
  · simp [metN, h, List.getD]
  · rw [List.getElem?_eq_none (by rw [metN_length]; omega), List.getElem?_eq_none (by omega)]
theorem metN_step (m : List Bool) (d : List Int) (i : Nat) (hi : i < m.length) : metN m d (i + 1) = if 0 ≤ gd d i then (metN m d i).set i true else metN m d i := by
  apply List.ext_getElem?
  intro j
  by_cases h : j < m.length
  · have e1 : (metN m d (i + 1))[j]? = some (m.getD j false || (decide (j < i + 1) && decide (0 ≤ gd d j))) := by simp [metN, h]
    have e2 : (metN m d i)[j]? = some (m.getD j false || (decide (j < i) && decide (0 ≤ gd d j))) := by simp [metN, h]
    rw [e1]
    by_cases hd : 0 ≤ gd d i
    · rw [if_pos hd]
      by_cases hj : j = i
      · subst hj
        rw [List.getElem?_set_self (by rw [metN_length]; exact h)]
        simp [hd]
      · rw [List.getElem?_set_ne (fun e => hj e.symm), e2]
        congr 2
        have : decide (j < i + 1) = decide (j < i) := by by_cases h1 : j < i <;> simp [h1] <;> omega
        rw [this]
    · rw [if_neg hd, e2]
      congr 2
      by_cases hj : j = i
      · subst hj; simp [hd]
      · have : decide (j < i + 1) = decide (j < i) := by by_cases h1 : j < i <;> simp [h1] <;> omega
        rw [this]
  · rw [List.getElem?_eq_none (by rw [metN_length]; omega)]
    split
    · rw [List.getElem?_eq_none (by rw [List.length_set, metN_length]; omega)]
    · rw [List.getElem?_eq_none (by rw [metN_length]; omega)]
/-- How far all are from one: there is one answer alone. -/
noncomputable def distOf (T : List (List Int)) (N v : Nat) : List Int := by
  classical
  exact if h : ∃ ds, Dist T N v ds then h.choose else []
theorem distOf_eq {T : List (List Int)} {N v : Nat} {ds : List Int} (h : Dist T N v ds) : distOf T N v = ds := by
  classical
  have hx : ∃ ds, Dist T N v ds := ⟨ds, h⟩
  unfold distOf
  rw [dif_pos hx]
  exact hx.choose_spec.eq h
noncomputable def pstep (T : List (List Int)) (N : Nat) (s : List Bool × List (List Int)) (v : Nat) : List Bool × List (List Int) :=
  if s.1.getD v false = true then s else (metN s.1 (distOf T N v) N, s.2 ++ [reachN (distOf T N v) N])
noncomputable def prun (T : List (List Int)) (N : Nat) : Nat → List Bool × List (List Int)
  | 0 => (List.replicate N false, [])
  | k + 1 => pstep T N (prun T N k) k
theorem prun_len (T : List (List Int)) (N : Nat) : ∀ k, (prun T N k).1.length = N
  | 0 => by simp [prun]
  | k + 1 => by
    have := prun_len T N k
    unfold prun pstep
    split
    · exact this
    · simp only [metN_length]; exact this
theorem prun_out (T : List (List Int)) (N : Nat) : ∀ k, (prun T N k).2.length ≤ k
  | 0 => by simp [prun]
  | k + 1 => by
    have := prun_out T N k
    unfold prun pstep
    split
    · omega
    · simp only [List.length_append, List.length_singleton]; omega
theorem reachN_le (d : List Int) (i : Nat) : (reachN d i).length ≤ i := by
  unfold reachN
  rw [List.length_map]
  exact Nat.le_trans (List.length_filter_le _ _) (by simp)

/-- Rows in memory of their own, no two in one, and the row of them. -/
def PRows (w : World) (base : Nat) (V : Value) (us : List Value) (T : List (List Int)) : Prop :=
  w.ownsRow base 35 1 V T.length us ∧ us.length = T.length ∧
  (∀ (j : Nat) (u : Value) (xs : List Int), us[j]? = some u → T[j]? = some xs → w.ownsRow base 3 1 u xs.length (zs xs)) ∧
  ∀ (i j : Nat) (u v : Value) (g : Nat), i ≠ j → us[i]? = some u → us[j]? = some v → u.ownBlock = some g → v.ownBlock ≠ some g
theorem PRows.nil (w : World) (base : Nat) : PRows w base (.slice none 0 0) [] [] := ⟨World.ownsRow_nil _ _ _ _, rfl, (fun j u xs h => by simp at h), (fun i j u v g _ h => by simp at h)⟩
theorem PRows.below {w w' : World} {base : Nat} {V : Value} {us : List Value} {T : List (List Int)} (h : PRows w base V us T) (hb : Below w.heap.size w w') : PRows w' base V us T :=
  ⟨row_below h.1 hb, h.2.1, fun j u xs a b => row_below (h.2.2.1 j u xs a b) hb, h.2.2.2⟩
/-- What touches none of their blocks leaves them. -/
theorem PRows.kept {w w' : World} {base : Nat} {V : Value} {us : List Value} {T : List (List Int)} {row : Option Nat} (h : PRows w base V us T) (hg : w.grownBy w' row) (h1 : V.ownBlock = none ∨ V.ownBlock ≠ row) (h2 : ∀ u ∈ us, u.ownBlock = none ∨ u.ownBlock ≠ row) : PRows w' base V us T :=
  ⟨h.1.kept hg h1, h.2.1, fun j u xs a b => (h.2.2.1 j u xs a b).kept hg (h2 u (List.mem_of_getElem? a)), h.2.2.2⟩
theorem PRows.rd {w : World} {base : Nat} {A : Option Addr} {n c : Nat} {us : List Value} {T : List (List Int)} (h : PRows w base (.slice A n c) us T) : RdR w A T := by
  intro j xs hj
  have hjl : j < us.length := by have := (List.getElem?_eq_some_iff.1 hj).1; have := h.2.1; omega
  obtain ⟨u, hu⟩ : ∃ u, us[j]? = some u := ⟨_, List.getElem?_eq_getElem hjl⟩
  have ho := h.2.2.1 j u xs hu hj
  have hTl : 0 < T.length := by have := (List.getElem?_eq_some_iff.1 hj).1; omega
  rcases Joins.ownsRow_form h.1 hTl with ⟨g, cap, ev⟩
  injection ev with e1 e2 e3
  subst e1
  have hc := h.1.cells rfl j u hu
  have hgl := (h.1.lt g rfl).2
  rcases Joins.ownsRow_forms ho with ⟨rfl, hn⟩ | ⟨g2, cap2, rfl⟩
  · refine ⟨_, none, 0, rfl, hgl, by rw [hn]; exact hc, ?_⟩
    intro q x hq
    have := (List.getElem?_eq_some_iff.1 hq).1
    omega
  · exact ⟨_, _, cap2, rfl, hgl, hc, owns_rd ho⟩
end Go.Proofs.Ytlkddjpjhchjfaa
