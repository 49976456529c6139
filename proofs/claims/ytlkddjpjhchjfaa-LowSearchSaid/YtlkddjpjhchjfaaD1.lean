/- What is low, where blocks begin, as a search reckons them (pure; layer 5). -/
import Derived.Test.YtlkddjpjhchjfaaD0
namespace Go.Proofs.Ytlkddjpjhchjfaa

/-- How low is reckoned: by a vertex itself, by those met from it, and by edges back. -/
structure LowFix (adj : Nat → Nat → Prop) (up : Nat → Option Nat) (num low : Nat → Nat) (v : Nat) : Prop where
  own : low v ≤ num v
  below : ∀ w, adj v w → up w = some v → low v ≤ low w
  back : ∀ w, adj v w → up w ≠ some v → up v ≠ some w → low v ≤ num w
  is : low v = num v ∨ ∃ w, adj v w ∧ ((up w = some v ∧ low v = low w) ∨ (up w ≠ some v ∧ up v ≠ some w ∧ low v = num w))
section
variable {n : Nat} {adj : Nat → Nat → Prop} {up : Nat → Option Nat} {num low : Nat → Nat}
theorem low_desc (F : Forest n adj up num) (L : ∀ v, LowFix adj up num low v) {z v : Nat} (h : Desc up z v) : low v ≤ low z := by
  induction h with
  | refl => exact Nat.le_refl _
  | step e _ ih => exact Nat.le_trans ih ((L _).below _ (F.ups _ _ e).2 e)
theorem low_le (F : Forest n adj up num) (L : ∀ v, LowFix adj up num low v) {z y v : Nat} (h : Desc up z v) (ha : adj z y) (h1 : up y ≠ some z) (h2 : up z ≠ some y) : low v ≤ num y :=
  Nat.le_trans (low_desc F L h) ((L z).back y ha h1 h2)
theorem low_is (F : Forest n adj up num) (L : ∀ v, LowFix adj up num low v) {M : Nat} (hM : ∀ v, num v ≤ M) : ∀ (k v : Nat), M - num v ≤ k → low v = num v ∨ ∃ z y, Desc up z v ∧ adj z y ∧ up y ≠ some z ∧ up z ≠ some y ∧ low v = num y := by
  intro k
  induction k with
  | zero =>
    intro v hv
    rcases (L v).is with h | ⟨w, ha, ⟨e, h⟩ | ⟨h1, h2, h3⟩⟩
    · exact .inl h
    · have h4 := (F.ups _ _ e).1
      have h5 := hM w
      omega
    · exact .inr ⟨v, w, .refl v, ha, h1, h2, h3⟩
  | succ k ih =>
    intro v hv
    rcases (L v).is with h | ⟨w, ha, ⟨e, h⟩ | ⟨h1, h2, h3⟩⟩
    · exact .inl h
    · have h4 := (F.ups _ _ e).1
      have h5 := hM w
      rcases ih w (by omega) with h6 | ⟨z, y, a, b, c, d, f⟩
      · have := (L v).own
        omega
      · exact .inr ⟨z, y, a.trans (.step e (.refl v)), b, c, d, by rw [h, f]⟩
    · exact .inr ⟨v, w, .refl v, ha, h1, h2, h3⟩
/-- A block begins below its upper end just if nothing below is lower than that. -/
theorem low_beg (F : Forest n adj up num) (L : ∀ v, LowFix adj up num low v) {M : Nat} (hM : ∀ v, num v ≤ M) {c u : Nat} (e : up c = some u) : beg adj up c ↔ num u ≤ low c := by
  have hcu := (F.ups _ _ e).1
  constructor
  · intro hb
    refine Classical.byContradiction fun hlt => ?_
    rcases low_is F L hM _ c (Nat.le_refl _) with h | ⟨z, y, hz, ha, _, _, h⟩
    · omega
    · have hzn := F.le hz
      have hdy : Desc up c y := by
        rcases F.edge z y ha with h1 | h1
        · have := F.le (h1.trans hz)
          omega
        · rcases hz.lin h1 with h2 | h2
          · exact h2
          · have := F.le h2
            omega
      cases hdy with
      | refl => omega
      | step e2 h2 =>
        rw [e] at e2
        injection e2 with e2
        subst e2
        have := hb _ z y e hz ha h2
        subst this
        omega
  · intro hle u' z y e2 hz ha hy
    rw [e] at e2
    injection e2 with e2
    subst e2
    refine Classical.byContradiction fun hne => ?_
    have hyu : num y < num u := by
      cases hy with
      | refl => exact absurd rfl hne
      | step e3 h3 =>
        have h4 := (F.ups _ _ e3).1
        have h5 := F.le h3
        omega
    have hzc := F.le hz
    have h1 : up y ≠ some z := fun e3 => by
      have := (F.ups _ _ e3).1
      omega
    have h2 : up z ≠ some y := fun e3 => by
      cases hz with
      | refl =>
        rw [e] at e3
        injection e3 with e3
        exact hne e3.symm
      | step e4 h4 =>
        rw [e3] at e4
        injection e4 with e4
        subst e4
        have := F.le h4
        omega
    have := low_le F L hz ha h1 h2
    omega
/-- Where blocks begin, as it is reckoned from above down. -/
theorem beg_out (F : Forest n adj up num) (L : ∀ v, LowFix adj up num low v) {M : Nat} (hM : ∀ v, num v ≤ M) {out : Nat → Nat} (h0 : ∀ v, up v = none → out v = v) (h1 : ∀ v u, up v = some u → num u ≤ low v → out v = v) (h2 : ∀ v u, up v = some u → low v < num u → out v = out u) : ∀ (k v : Nat), num v ≤ k → Beg adj up v (out v) := by
  have hself : ∀ v, up v = none → Beg adj up v (out v) := fun v hv => by
    rw [h0 v hv]
    exact F.beg_self (fun u z y e _ _ _ => by rw [hv] at e; cases e)
  intro k
  induction k with
  | zero =>
    intro v hv
    cases hu : up v with
    | none => exact hself v hu
    | some u =>
      have := (F.ups _ _ hu).1
      omega
  | succ k ih =>
    intro v hv
    cases hu : up v with
    | none => exact hself v hu
    | some u =>
      have h3 := (F.ups _ _ hu).1
      by_cases hl : num u ≤ low v
      · rw [h1 v u hu hl]
        exact F.beg_self ((low_beg F L hM hu).2 hl)
      · rw [h2 v u hu (by omega)]
        exact Beg.next (fun hb => hl ((low_beg F L hM hu).1 hb)) hu (ih u (by omega))
/-- An edge's lower end is the one that was met later. -/
theorem Forest.lower (F : Forest n adj up num) {x y : Nat} (ha : adj x y) : (num x < num y ∧ Desc up y x) ∨ (num y < num x ∧ Desc up x y) := by
  have hne : x ≠ y := fun e => F.irr y (by rw [e] at ha; exact ha)
  have key : ∀ x y, x ≠ y → Desc up y x → num x < num y := fun x y hne h => by
    cases h with
    | refl => exact absurd rfl hne
    | step e h =>
      have h1 := (F.ups _ _ e).1
      have h2 := F.le h
      omega
  rcases F.edge x y ha with h | h
  · exact .inl ⟨key x y hne h, h⟩
  · exact .inr ⟨key y x (fun e => hne e.symm) h, h⟩
theorem Forest.cls_low (F : Forest n adj up num) {out : Nat → Nat} (hout : ∀ v, Beg adj up v (out v)) {x y : Nat} (ha : adj x y) : Cls adj up x y (out (if num y < num x then x else y)) := by
  rcases F.lower ha with ⟨h1, h2⟩ | ⟨h1, h2⟩
  · rw [if_neg (by omega)]
    exact .inl ⟨h2, hout y⟩
  · rw [if_pos h1]
    exact .inr ⟨h2, hout x⟩
end
end Go.Proofs.Ytlkddjpjhchjfaa
