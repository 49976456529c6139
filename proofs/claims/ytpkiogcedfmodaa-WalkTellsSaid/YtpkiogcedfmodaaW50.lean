/- Least ways: there is one alone; the program's is it (no world here). -/
import Derived.Test.YtpkiogcedfmodaaW49
namespace Go.Proofs.Ytpkiogcedfmodaa

def gx (p : List Nat) (i : Nat) : Nat := p.getD i 0
theorem gx_at {p : List Nat} {i : Nat} (h : i < p.length) : p[i]? = some (gx p i) := by simp [gx, List.getD, List.getElem?_eq_getElem h]
theorem gx_app {p : List Nat} {x i : Nat} (h : i < p.length) : gx (p ++ [x]) i = gx p i := by
  unfold gx List.getD
  rw [List.getElem?_append_left h]
theorem gx_end (p : List Nat) (x : Nat) : gx (p ++ [x]) p.length = x := by
  unfold gx List.getD
  rw [List.getElem?_append_right (Nat.le_refl _), Nat.sub_self]
  rfl
structure Way (T : List (List Int)) (a x n : Nat) (p : List Nat) : Prop where
  len : p.length = n + 1
  head : gx p 0 = a
  last : gx p n = x
  step : ∀ i, i < n → adj T (gx p i) (gx p (i + 1))
def lex (p q : List Nat) : Prop := ∃ j, j < p.length ∧ (∀ i, i < j → gx p i = gx q i) ∧ gx p j < gx q j
theorem lex_tri {p q : List Nat} (h : p.length = q.length) : p = q ∨ lex p q ∨ lex q p := by
  by_cases e : ∃ j, j < p.length ∧ gx p j ≠ gx q j
  · obtain ⟨j, ⟨h1, h2⟩, h3⟩ := exists_least e
    have h4 : ∀ i, i < j → gx p i = gx q i := fun i hi => by
      apply Classical.byContradiction
      intro hne
      exact h3 i hi ⟨by omega, hne⟩
    rcases Nat.lt_or_gt_of_ne h2 with h5 | h5
    · exact .inr (.inl ⟨j, h1, h4, h5⟩)
    · exact .inr (.inr ⟨j, by omega, fun i hi => (h4 i hi).symm, h5⟩)
  · left
    apply List.ext_getElem?
    intro i
    by_cases hi : i < p.length
    · rw [gx_at hi, gx_at (by omega)]
      congr 1
      apply Classical.byContradiction
      intro hne
      exact e ⟨i, hi, hne⟩
    · rw [List.getElem?_eq_none (by omega), List.getElem?_eq_none (by omega)]
theorem lex_irr {p q : List Nat} (h : lex p q) (k : lex q p) : False := by
  obtain ⟨i, _, h1, h2⟩ := h
  obtain ⟨j, _, k1, k2⟩ := k
  rcases Nat.lt_trichotomy i j with e | e | e
  · have := k1 i e; omega
  · subst e; omega
  · have := h1 j e; omega
theorem lex_trans {p q r : List Nat} (h : lex p q) (k : lex q r) (e : p.length = q.length) : lex p r := by
  obtain ⟨i, h0, h1, h2⟩ := h
  obtain ⟨j, k0, k1, k2⟩ := k
  rcases Nat.lt_trichotomy i j with c | c | c
  · exact ⟨i, h0, fun m hm => by rw [h1 m hm, k1 m (by omega)], by rw [← k1 i c]; exact h2⟩
  · subst c
    exact ⟨i, h0, fun m hm => by rw [h1 m hm, k1 m hm], by omega⟩
  · exact ⟨j, by omega, fun m hm => by rw [h1 m (by omega), k1 m hm], by rw [h1 j c]; exact k2⟩
theorem lex_snoc {p q : List Nat} (h : lex p q) (e : p.length = q.length) (x : Nat) : lex (p ++ [x]) (q ++ [x]) := by
  obtain ⟨i, h0, h1, h2⟩ := h
  exact ⟨i, by rw [List.length_append]; omega, fun m hm => by rw [gx_app (by omega), gx_app (by omega)]; exact h1 m hm, by rw [gx_app h0, gx_app (by omega)]; exact h2⟩
structure Least (T : List (List Int)) (a x n : Nat) (p : List Nat) : Prop where
  way : Way T a x n p
  min : ∀ q, Way T a x n q → p = q ∨ lex p q
theorem Least.eq {T : List (List Int)} {a x n : Nat} {p q : List Nat} (h : Least T a x n p) (k : Least T a x n q) : p = q := by
  rcases h.min q k.way with e | e
  · exact e
  · rcases k.min p h.way with e2 | e2
    · exact e2.symm
    · exact (lex_irr e e2).elim
theorem Way.snoc {T : List (List Int)} {a x y n : Nat} {p : List Nat} (h : Way T a x n p) (hy : adj T x y) : Way T a y (n + 1) (p ++ [y]) := by
  have hl := h.len
  refine ⟨by rw [List.length_append, hl]; rfl, by rw [gx_app (by omega)]; exact h.head, by rw [show n + 1 = p.length by omega]; exact gx_end p y, fun i hi => ?_⟩
  rw [gx_app (by omega)]
  by_cases e : i < n
  · rw [gx_app (by omega)]
    exact h.step i e
  · have e2 : i = n := by omega
    subst e2
    rw [show i + 1 = p.length by omega, gx_end, h.last]
    exact hy
theorem Way.init {T : List (List Int)} {a y n : Nat} {p : List Nat} (h : Way T a y (n + 1) p) : ∃ q, p = q ++ [y] ∧ Way T a (gx p n) n q ∧ adj T (gx p n) y := by
  have hl := h.len
  have hne : p ≠ [] := by intro e; rw [e] at hl; simp at hl
  have hlast : p.getLast hne = y := by
    have h1 := h.last
    rw [List.getLast_eq_getElem]
    have h2 := gx_at (p := p) (i := n + 1) (by omega)
    rw [h1, List.getElem?_eq_getElem (by omega)] at h2
    injection h2 with h2
    rw [← h2]
    congr 1
    omega
  have hp : p = p.dropLast ++ [y] := by rw [← hlast]; exact (List.dropLast_concat_getLast hne).symm
  have hdl : p.dropLast.length = n + 1 := by rw [List.length_dropLast]; omega
  have hg : ∀ i, i < n + 1 → gx p.dropLast i = gx p i := fun i hi => by
    have := gx_app (p := p.dropLast) (x := y) (i := i) (by omega)
    rw [← hp] at this
    exact this.symm
  refine ⟨p.dropLast, hp, ⟨hdl, by rw [hg 0 (by omega)]; exact h.head, hg n (by omega), fun i hi => by rw [hg i (by omega), hg (i + 1) (by omega)]; exact h.step i (by omega)⟩, ?_⟩
  have := h.step n (by omega)
  rw [h.last] at this
  exact this
/-- A way is no shorter than one is far. -/
theorem Way.far {T : List (List Int)} {N a x n : Nat} {p : List Nat} {ds : List Int} (h : Way T a x n p) (hD : Dist T N a ds) (hT : Tab T N) (ha : a < N) : ∀ i, i ≤ n → gx p i < N ∧ 0 ≤ gd ds (gx p i) ∧ gd ds (gx p i) ≤ i := by
  intro i
  induction i with
  | zero =>
    intro _
    rw [h.head, hD.zero]
    exact ⟨ha, by omega, by omega⟩
  | succ i ih =>
    intro hi
    obtain ⟨h1, h2, h3⟩ := ih (by omega)
    have hs := h.step i (by omega)
    obtain ⟨h4, h5⟩ := hD.step _ h1 h2 _ hs
    exact ⟨hT.lt hs, h4, by omega⟩
/-- The program's way is the least. -/
theorem prunP_least {N a b D : Nat} {E : List (Int × Int)} {left : List Int} (hg : rightG (N : Nat) E = true) (hD : Dist (tabG N E) N b left) (ha : a < N) (hb : b < N) (h0 : gd left a = (D : Int)) : Least (tabG N E) a b D (prunP (tabG N E) left a D).1 := by
  have hat : ∀ i, i ≤ D → gx (prunP (tabG N E) left a D).1 i = (prunP (tabG N E) left a i).2 := fun i hi => by
    have := (prunP_at (tabG N E) left a D i hi).1
    unfold gx List.getD
    rw [this]
    rfl
  have hl := (prunP_at (tabG N E) left a D 0 (by omega)).2
  have hs := path_step hg hD ha h0
  have hnx : ∀ i, i < D → (prunP (tabG N E) left a (i + 1)).2 = pnext (tabG N E) left (prunP (tabG N E) left a i).2 := fun i _ => rfl
  have hle : ∀ i, i < D → adj (tabG N E) (prunP (tabG N E) left a i).2 (prunP (tabG N E) left a (i + 1)).2 ∧ ∀ y, y < (prunP (tabG N E) left a (i + 1)).2 → adj (tabG N E) (prunP (tabG N E) left a i).2 y → gd left y ≠ gd left (prunP (tabG N E) left a i).2 - 1 := fun i hi => by
    obtain ⟨h1, h2⟩ := hs i (by omega)
    rw [hnx i hi]
    exact path_least hg hD h1 (by omega)
  have hw : Way (tabG N E) a b D (prunP (tabG N E) left a D).1 := by
    refine ⟨hl, by rw [hat 0 (by omega)]; rfl, ?_, fun i hi => by rw [hat i (by omega), hat (i + 1) (by omega)]; exact (hle i hi).1⟩
    rw [hat D (Nat.le_refl _)]
    obtain ⟨h1, h2⟩ := hs D (Nat.le_refl _)
    exact hD.only _ h1 (by omega)
  refine ⟨hw, fun q hq => ?_⟩
  have hfar : ∀ i, i ≤ D → gx q i < N ∧ gd left (gx q i) ≤ (D : Int) - i ∧ (D : Int) - i ≤ gd left (gx q i) := by
    have hN : ∀ i, i ≤ D → gx q i < N := fun i hi => by
      cases i with
      | zero => rw [hq.head]; exact ha
      | succ i => exact (tab_is hg).lt (hq.step i (by omega))
    have hdn : ∀ k, k ≤ D → 0 ≤ gd left (gx q (D - k)) ∧ gd left (gx q (D - k)) ≤ k := by
      intro k
      induction k with
      | zero => intro _; rw [Nat.sub_zero, hq.last, hD.zero]; exact ⟨by omega, by omega⟩
      | succ k ih =>
        intro hk
        obtain ⟨h1, h2⟩ := ih (by omega)
        have hst := tabG_sym hg (hq.step (D - (k + 1)) (by omega))
        rw [show D - (k + 1) + 1 = D - k by omega] at hst
        obtain ⟨h3, h4⟩ := hD.step _ (hN (D - k) (by omega)) h1 _ hst
        exact ⟨h3, by omega⟩
    have hup : ∀ i, i ≤ D → (D : Int) - i ≤ gd left (gx q i) := by
      intro i
      induction i with
      | zero => intro _; rw [hq.head, h0]; omega
      | succ i ih =>
        intro hi
        have h1 := ih (by omega)
        have hst := hq.step i (by omega)
        have h5 := (hdn (D - (i + 1)) (by omega)).1
        rw [show D - (D - (i + 1)) = i + 1 by omega] at h5
        obtain ⟨h3, h4⟩ := hD.step _ (hN (i + 1) hi) h5 _ (tabG_sym hg hst)
        omega
    intro i hi
    have h5 := (hdn (D - i) (by omega)).2
    rw [show D - (D - i) = i by omega] at h5
    exact ⟨hN i hi, by omega, hup i hi⟩
  rcases lex_tri (p := (prunP (tabG N E) left a D).1) (q := q) (by rw [hw.len, hq.len]) with e | e | e
  · exact .inl e
  · exact .inr e
  · exfalso
    obtain ⟨j, hj, e1, e2⟩ := e
    have hjD : j ≤ D := by have := hq.len; omega
    have hj0 : j ≠ 0 := by
      intro e
      subst e
      rw [hq.head, hw.head] at e2
      omega
    obtain ⟨i, rfl⟩ : ∃ i, j = i + 1 := ⟨j - 1, by omega⟩
    have h1 := e1 i (by omega)
    rw [hat i (by omega)] at h1
    rw [hat (i + 1) hjD] at e2
    have h2 := hq.step i (by omega)
    rw [h1] at h2
    have h3 := (hle i (by omega)).2 _ e2 h2
    have h4 := hfar (i + 1) hjD
    have h5 := hs i (by omega)
    exact h3 (by omega)
end Go.Proofs.Ytpkiogcedfmodaa
