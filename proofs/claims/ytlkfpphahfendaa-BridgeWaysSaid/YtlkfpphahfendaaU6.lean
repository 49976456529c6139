/- All that hangs together with an edge, as the reference finds it (pure, layer 8). -/
import Derived.Test.YtlkfpphahfendaaU5
namespace Go.Proofs.Ytlkfpphahfendaa
set_option maxRecDepth 100000
open Go.RowKit

def unm (S : List Bool) : Nat := (S.filter fun b => !b).length
theorem unm_set : ∀ (S : List Bool) (i : Nat), S[i]? = some false → unm (S.set i true) + 1 = unm S
  | [], i, h => by simp at h
  | b :: S, 0, h => by
    simp at h
    subst h
    simp [unm]
  | b :: S, i + 1, h => by
    have ih := unm_set S i (by simpa using h)
    unfold unm at ih ⊢
    cases b <;> simp at ih ⊢ <;> omega
def nowR (W E : List (Int × Int)) (S : List Bool) (e x : Int × Int) (k : Nat) : Bool := (x.1 == e.1 && x.2 == e.2) || (List.range k).any fun j => S.getD j false && meetP W x (E.getD j (0, 0))
theorem nowR_zero (W E : List (Int × Int)) (S : List Bool) (e x : Int × Int) : nowR W E S e x 0 = (x.1 == e.1 && x.2 == e.2) := by simp [nowR]
theorem nowR_step (W E : List (Int × Int)) (S : List Bool) (e x : Int × Int) (k : Nat) : nowR W E S e x (k + 1) = (nowR W E S e x k || (S.getD k false && meetP W x (E.getD k (0, 0)))) := by
  unfold nowR
  rw [List.range_succ, List.any_append]
  simp [Bool.or_assoc]
structure GS (W E : List (Int × Int)) (e : Int × Int) (S : List Bool) : Prop where
  len : S.length = E.length
  sound : ∀ (i : Nat) (x : Int × Int), S[i]? = some true → E[i]? = some x → Cn W E e x
theorem GS.start (W E : List (Int × Int)) (e : Int × Int) {n : Nat} (hn : n = E.length) : GS W E e (List.replicate n false) :=
  ⟨by simp [hn], fun i x h => by rw [List.getElem?_replicate] at h; split at h <;> simp at h⟩
theorem GS.mark {W E : List (Int × Int)} {e x : Int × Int} {S : List Bool} {i : Nat} (h : GS W E e S) (hx : E[i]? = some x) (hn : nowR W E S e x E.length = true) : GS W E e (S.set i true) := by
  refine ⟨by rw [List.length_set]; exact h.len, fun j y h1 h2 => ?_⟩
  by_cases e1 : i = j
  · subst e1
    rw [hx] at h2
    injection h2 with h2
    subst h2
    unfold nowR at hn
    rw [Bool.or_eq_true] at hn
    rcases hn with hn | hn
    · simp only [Bool.and_eq_true, beq_iff_eq] at hn
      rw [show x = e from Prod.ext hn.1 hn.2]
      exact .refl
    · rw [List.any_eq_true] at hn
      obtain ⟨q, hq, hn⟩ := hn
      have hq := List.mem_range.1 hq
      rw [Bool.and_eq_true] at hn
      have hs : S[q]? = some true := by
        have := hn.1
        rw [List.getD_eq_getElem?_getD, List.getElem?_eq_getElem (by rw [h.len]; exact hq)] at this
        rw [List.getElem?_eq_getElem (by rw [h.len]; exact hq)]
        simpa using this
      have he : E[q]? = some (E.getD q (0, 0)) := by rw [List.getD_eq_getElem?_getD, List.getElem?_eq_getElem hq]; rfl
      exact (h.sound q _ hs he).step (List.mem_of_getElem? hx) hn.2
  · rw [List.getElem?_set_ne e1] at h1
    exact h.sound j y h1 h2
def Closed (W E : List (Int × Int)) (e : Int × Int) (S : List Bool) : Prop := ∀ (i : Nat) (x : Int × Int), S[i]? = some false → E[i]? = some x → nowR W E S e x E.length = false
theorem closed_all {W E : List (Int × Int)} {e : Int × Int} {S : List Bool} (h : GS W E e S) (hc : Closed W E e S) (he : e ∈ E) {x : Int × Int} (hx : Cn W E e x) : ∀ i : Nat, E[i]? = some x → S[i]? = some true := by
  have hb : ∀ (i : Nat) (y : Int × Int), E[i]? = some y → S[i]? = some true ∨ S[i]? = some false := fun i y hi => by
    have hl : i < S.length := by rw [h.len]; exact (List.getElem?_eq_some_iff.1 hi).1
    rw [List.getElem?_eq_getElem hl]
    cases S[i] <;> simp
  induction hx with
  | refl =>
    intro i hi
    rcases hb i _ hi with h1 | h1
    · exact h1
    · have := hc i _ h1 hi
      unfold nowR at this
      simp at this
  | @step b c _ hm hp ih =>
    intro i hi
    rcases hb i _ hi with h1 | h1
    · exact h1
    · have h2 := hc i _ h1 hi
      have hbE : b ∈ E := by
        rename_i hcn
        cases hcn with
        | refl => exact he
        | step _ hm2 _ => exact hm2
      obtain ⟨q, hq⟩ := List.getElem?_of_mem hbE
      have hs := ih q hq
      unfold nowR at h2
      rw [Bool.or_eq_false_iff, List.any_eq_false] at h2
      have h3 := h2.2 q (List.mem_range.2 (List.getElem?_eq_some_iff.1 hq).1)
      rw [List.getD_eq_getElem?_getD, hs, List.getD_eq_getElem?_getD, hq] at h3
      simp [hp] at h3
structure Pass (W E : List (Int × Int)) (e : Int × Int) (S0 : List Bool) (i : Nat) (ch : Bool) (S : List Bool) : Prop where
  gs : GS W E e S
  le : unm S ≤ unm S0
  yes : ch = true → unm S < unm S0
  no : ch = false → S = S0 ∧ ∀ (q : Nat) (x : Int × Int), q < i → S[q]? = some false → E[q]? = some x → nowR W E S e x E.length = false
theorem Pass.start {W E : List (Int × Int)} {e : Int × Int} {S : List Bool} (h : GS W E e S) : Pass W E e S 0 false S := ⟨h, Nat.le_refl _, (fun h => by cases h), fun _ => ⟨rfl, fun q x hq => by omega⟩⟩
theorem Pass.old {W E : List (Int × Int)} {e : Int × Int} {S0 S : List Bool} {i : Nat} {ch : Bool} (h : Pass W E e S0 i ch S) (hs : S[i]? = some true) : Pass W E e S0 (i + 1) ch S :=
  ⟨h.gs, h.le, h.yes, fun hc => ⟨(h.no hc).1, fun q x hq h1 h2 => by
    by_cases e1 : q = i
    · subst e1
      rw [hs] at h1
      cases h1
    · exact (h.no hc).2 q x (by omega) h1 h2⟩⟩
theorem Pass.not {W E : List (Int × Int)} {e x : Int × Int} {S0 S : List Bool} {i : Nat} {ch : Bool} (h : Pass W E e S0 i ch S) (hx : E[i]? = some x) (hn : nowR W E S e x E.length = false) : Pass W E e S0 (i + 1) ch S :=
  ⟨h.gs, h.le, h.yes, fun hc => ⟨(h.no hc).1, fun q y hq h1 h2 => by
    by_cases e1 : q = i
    · subst e1
      rw [hx] at h2
      injection h2 with h2
      subst h2
      exact hn
    · exact (h.no hc).2 q y (by omega) h1 h2⟩⟩
theorem Pass.new {W E : List (Int × Int)} {e x : Int × Int} {S0 S : List Bool} {i : Nat} {ch : Bool} (h : Pass W E e S0 i ch S) (hs : S[i]? = some false) (hx : E[i]? = some x) (hn : nowR W E S e x E.length = true) : Pass W E e S0 (i + 1) true (S.set i true) := by
  have h1 := unm_set S i hs
  have h2 := h.le
  exact ⟨h.gs.mark hx hn, by omega, fun _ => by omega, fun hc => by cases hc⟩
theorem Pass.closed {W E : List (Int × Int)} {e : Int × Int} {S0 S : List Bool} (h : Pass W E e S0 E.length false S) : Closed W E e S := fun i x h1 h2 => (h.no rfl).2 i x (List.getElem?_eq_some_iff.1 h2).1 h1 h2
/-- The edges of an edge's fragment. -/
noncomputable def grp (W E : List (Int × Int)) (e : Int × Int) : List (Int × Int) := E.filter fun x => @decide (Cn W E e x) (Classical.propDecidable _)
theorem grp_mem {W E : List (Int × Int)} {e x : Int × Int} : x ∈ grp W E e ↔ x ∈ E ∧ Cn W E e x := by
  unfold grp
  rw [List.mem_filter, @decide_eq_true_iff _ (Classical.propDecidable _)]
def mkd (E : List (Int × Int)) (S : List Bool) (k : Nat) : List (Int × Int) := ((List.range k).filter fun i => S.getD i false).map fun i => E.getD i (0, 0)
theorem mkd_step (E : List (Int × Int)) (S : List Bool) (k : Nat) : mkd E S (k + 1) = if S.getD k false = true then mkd E S k ++ [E.getD k (0, 0)] else mkd E S k := by
  unfold mkd
  rw [List.range_succ, List.filter_append, List.map_append]
  split
  · rename_i h
    rw [List.filter_cons_of_pos (by exact h)]
    rfl
  · rename_i h
    rw [List.filter_cons_of_neg (by exact h)]
    simp
theorem mkd_le (E : List (Int × Int)) (S : List Bool) (k : Nat) : (mkd E S k).length ≤ k := by
  unfold mkd
  rw [List.length_map]
  exact Nat.le_trans (List.length_filter_le _ _) (by simp)
theorem range_getD (E : List (Int × Int)) : (List.range E.length).map (fun i => E.getD i (0, 0)) = E := by
  apply List.ext_getElem?
  intro i
  by_cases h : i < E.length
  · simp [List.getD, h]
  · rw [List.getElem?_eq_none (by simp; omega), List.getElem?_eq_none (by omega)]
theorem mkd_all {W E : List (Int × Int)} {e : Int × Int} {S : List Bool} (h : GS W E e S) (hc : Closed W E e S) (he : e ∈ E) : mkd E S E.length = grp W E e := by
  unfold grp mkd
  conv => rhs; rw [← range_getD E]
  rw [List.filter_map]
  congr 1
  apply List.filter_congr
  intro i hi
  have hi := List.mem_range.1 hi
  have hg : E[i]? = some (E.getD i (0, 0)) := by rw [List.getD_eq_getElem?_getD, List.getElem?_eq_getElem hi]; rfl
  have hsl : i < S.length := by rw [h.len]; exact hi
  have hsd : S[i]? = some (S.getD i false) := by rw [List.getD_eq_getElem?_getD, List.getElem?_eq_getElem hsl]; rfl
  rw [range_getD]
  show S.getD i false = _
  rw [Bool.eq_iff_iff]
  simp only [Function.comp]
  rw [@decide_eq_true_iff _ (Classical.propDecidable _)]
  constructor
  · intro h1
    rw [h1] at hsd
    exact h.sound i _ hsd hg
  · intro h1
    have := closed_all h hc he h1 i hg
    rw [hsd] at this
    exact Option.some.inj this
end Go.Proofs.Ytlkfpphahfendaa
