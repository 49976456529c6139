/- How far, step by step as long as a shorter way is found (no world here). -/
import Derived.Test.YtpkiogcedfmodaaW46
namespace Go.Proofs.Ytpkiogcedfmodaa

/-- What the reference holds to: no one is told nearer than it is. -/
structure BF (N fr : Nat) (ds out : List Int) : Prop where
  len : out.length = N
  root : gd out fr = 0
  each : ∀ v, v < N → gd out v = -1 ∨ (0 ≤ gd ds v ∧ gd ds v ≤ gd out v ∧ gd out v + neg out ≤ N)
/-- One step along an edge finds nothing shorter. -/
def calm (out : List Int) (a b : Nat) : Prop := 0 ≤ gd out a → 0 ≤ gd out b ∧ gd out b ≤ gd out a + 1
def wt (N : Nat) (x : Int) : Nat := if x < 0 then N + 1 else x.toNat
def wsum (N : Nat) (l : List Int) : Nat := (l.map (wt N)).sum
theorem wsum_set (N : Nat) : ∀ (l : List Int) (i : Nat) (x : Int), i < l.length → wsum N (l.set i x) + wt N (gd l i) = wsum N l + wt N x
  | [], i, x, h => absurd h (by simp)
  | y :: r, 0, x, _ => by
    simp [wsum, gd]
    omega
  | y :: r, i + 1, x, h => by
    have ih := wsum_set N r i x (by simpa using h)
    simp only [wsum, List.set_cons_succ, List.map_cons, List.sum_cons] at ih ⊢
    have e : gd (y :: r) (i + 1) = gd r i := by simp [gd]
    rw [e]
    omega
theorem neg_le : ∀ (out : List Int) (v : Nat) (y : Int), v < out.length → 0 ≤ gd out v → 0 ≤ y → neg (out.set v y) = neg out
  | [], v, y, h, _, _ => absurd h (by simp)
  | x :: r, 0, y, _, h, hy => by
    have hx : 0 ≤ x := h
    simp [neg, show ¬ x < 0 by omega, show ¬ y < 0 by omega]
  | x :: r, v + 1, y, h, h0, hy => by
    have ih := neg_le r v y (by simpa using h) h0 hy
    unfold neg at ih ⊢
    rw [List.set_cons_succ, List.filter_cons, List.filter_cons]
    split
    · rw [List.length_cons, List.length_cons, ih]
    · exact ih
theorem BF.start {N fr : Nat} {ds : List Int} (hf : fr < N) (h0 : gd ds fr = 0) : BF N fr ds ((List.replicate N (-1)).set fr 0) := by
  have hl : fr < (List.replicate N (-1 : Int)).length := by simpa using hf
  have hg : ∀ v, v < N → gd (List.replicate N (-1)) v = -1 := fun v hv => by
    unfold gd List.getD
    rw [List.getElem?_replicate, if_pos hv]
    rfl
  have hn := neg_set (List.replicate N (-1)) fr 0 hl (by rw [hg fr hf]; decide) (by decide)
  rw [neg_rep] at hn
  refine ⟨by simp, by rw [gd_set hl, if_pos rfl], fun v hv => ?_⟩
  rw [gd_set hl]
  by_cases e : v = fr
  · subst e
    rw [if_pos rfl]
    exact .inr ⟨by omega, by omega, by omega⟩
  · rw [if_neg e]
    exact .inl (hg v hv)
theorem BF.step {N fr a b : Nat} {ds out : List Int} (h : BF N fr ds out) (ha : a < N) (hb : b < N) (hD : 0 ≤ gd ds a → 0 ≤ gd ds b ∧ gd ds b ≤ gd ds a + 1) (h1 : 0 ≤ gd out a) (h2 : gd out b < 0 ∨ gd out a + 1 < gd out b) :
    BF N fr ds (out.set b (gd out a + 1)) ∧ wsum N (out.set b (gd out a + 1)) < wsum N out ∧ gd out a ≤ N := by
  have hl : b < out.length := by rw [h.len]; exact hb
  have ea : 0 ≤ gd ds a ∧ gd ds a ≤ gd out a ∧ gd out a + neg out ≤ N := by
    rcases h.each a ha with e | e
    · omega
    · exact e
  obtain ⟨d1, d2⟩ := hD ea.1
  have hw := wsum_set N out b (gd out a + 1) hl
  have hwb : wt N (gd out a + 1) = (gd out a + 1).toNat := by unfold wt; rw [if_neg (by omega)]
  have key : neg (out.set b (gd out a + 1)) ≤ neg out ∧ gd out a + 1 + neg (out.set b (gd out a + 1)) ≤ N ∧ (gd out a + 1).toNat < wt N (gd out b) := by
    by_cases hb0 : gd out b < 0
    · have hn := neg_set out b (gd out a + 1) hl hb0 (by omega)
      refine ⟨by omega, by omega, ?_⟩
      unfold wt
      rw [if_pos hb0]
      omega
    · have hn := neg_le out b (gd out a + 1) hl (by omega) (by omega)
      have eb : gd out b + neg out ≤ N := by
        rcases h.each b hb with e | e
        · omega
        · exact e.2.2
      refine ⟨by omega, by omega, ?_⟩
      unfold wt
      rw [if_neg hb0]
      omega
  refine ⟨⟨by simp [h.len], ?_, fun v hv => ?_⟩, by omega, by omega⟩
  · rw [gd_set hl]
    by_cases e : fr = b
    · subst e
      have := h.root
      omega
    · rw [if_neg e]
      exact h.root
  · rw [gd_set hl]
    by_cases e : v = b
    · subst e
      rw [if_pos rfl]
      exact .inr ⟨d1, by omega, key.2.1⟩
    · rw [if_neg e]
      rcases h.each v hv with e2 | ⟨e2, e3, e4⟩
      · exact .inl e2
      · exact .inr ⟨e2, e3, by omega⟩
/-- Where nothing shorter is found all are told right. -/
theorem BF.done {T : List (List Int)} {N fr : Nat} {ds out : List Int} (h : BF N fr ds out) (hD : Dist T N fr ds) (hc : ∀ u v, u < N → adj T u v → calm out u v) : out = ds := by
  have key : ∀ (n v : Nat), v < N → gd ds v = (n : Int) → 0 ≤ gd out v ∧ gd out v ≤ n := by
    intro n
    induction n with
    | zero =>
      intro v hv e
      obtain rfl := hD.only v hv e
      rw [h.root]
      omega
    | succ n ih =>
      intro v hv e
      obtain ⟨u, hu, ha, e2⟩ := hD.from_ v hv (by omega)
      obtain ⟨i1, i2⟩ := ih u hu (by omega)
      obtain ⟨i3, i4⟩ := hc u v hu ha i1
      omega
  apply List.ext_getElem?
  intro v
  by_cases hv : v < N
  · have e1 : out[v]? = some (gd out v) := by
      have hl : v < out.length := by rw [h.len]; exact hv
      rw [List.getElem?_eq_getElem hl]
      simp [gd, List.getD, List.getElem?_eq_getElem hl]
    have e2 : ds[v]? = some (gd ds v) := by
      have hl : v < ds.length := by rw [hD.len]; exact hv
      rw [List.getElem?_eq_getElem hl]
      simp [gd, List.getD, List.getElem?_eq_getElem hl]
    rw [e1, e2]
    congr 1
    have l1 := hD.low v hv
    rcases h.each v hv with e | ⟨e3, e4, _⟩
    · by_cases h1 : 0 ≤ gd ds v
      · obtain ⟨n, hn⟩ := Int.eq_ofNat_of_zero_le h1
        have := key n v hv hn
        omega
      · omega
    · obtain ⟨n, hn⟩ := Int.eq_ofNat_of_zero_le e3
      have := key n v hv hn
      omega
  · rw [List.getElem?_eq_none (by rw [h.len]; omega), List.getElem?_eq_none (by rw [hD.len]; omega)]
/-- The sum, read from the world. -/
def wtV (N : Nat) : Value → Nat
  | .int _ x => wt N x
  | _ => 0
def sumW (N : Nat) (w : World) (g : Nat) : Nat := ((List.range N).map fun v => match w.cell? ⟨g, v, none⟩ with | some x => wtV N x | none => 0).sum
theorem sumW_eq {w : World} {N base g cap : Nat} {l : List Int} (h : OwnI w base (some ⟨g, 0, none⟩) cap l N) : sumW N w g = wsum N l := by
  unfold sumW wsum
  congr 1
  apply List.ext_getElem?
  intro j
  have hl := h.len
  by_cases hj : j < N
  · have e : l[j]? = some (gd l j) := by
      rw [List.getElem?_eq_getElem (by omega)]
      simp [gd, List.getD, List.getElem?_eq_getElem (show j < l.length by omega)]
    rw [List.getElem?_map, List.getElem?_map, List.getElem?_range hj, e]
    simp only [Option.map_some]
    rw [h.at_ e]
    rfl
  · rw [List.getElem?_eq_none (by simp; omega), List.getElem?_eq_none (by simp; omega)]
end Go.Proofs.Ytpkiogcedfmodaa
