/- Orders by the first difference. -/
namespace Go.Proofs.Ytmnkghbbcjnlfaa

/-- A function that tells how two things stand: -1, 0, or 1. -/
structure Stands {α : Type} (f : α → α → Int) : Prop where
  same : ∀ x, f x x = 0
  only : ∀ x y, f x y = 0 → x = y
  flip : ∀ x y, f y x = - f x y
  rng : ∀ x y, f x y = -1 ∨ f x y = 0 ∨ f x y = 1
  trans : ∀ x y z, f x y ≤ 0 → f y z ≤ 0 → f x z ≤ 0

def cmpN (x y : Nat) : Int := if x < y then -1 else if x = y then 0 else 1
theorem cmpN_stands : Stands cmpN where
  same x := by simp [cmpN]
  only x y h := by unfold cmpN at h; split at h; · omega
                   split at h <;> omega
  flip x y := by
    unfold cmpN
    by_cases h1 : x < y
    · rw [if_pos h1, if_neg (by omega), if_neg (by omega)]; rfl
    · by_cases h2 : x = y
      · subst h2; simp
      · rw [if_neg h1, if_neg h2, if_pos (by omega)]
  rng x y := by unfold cmpN; split; · simp
                split <;> simp
  trans x y z h1 h2 := by
    unfold cmpN at *
    split at h1
    · split at h2
      · rw [if_pos (by omega)]; omega
      · split at h2
        · rw [if_pos (by omega)]; omega
        · omega
    · split at h1
      · split at h2
        · rw [if_pos (by omega)]; omega
        · split at h2
          · rw [if_neg (by omega), if_pos (by omega)]; omega
          · omega
      · omega

def cmpL {α : Type} (f : α → α → Int) : List α → List α → Int
  | [], [] => 0
  | [], _ :: _ => -1
  | _ :: _, [] => 1
  | x :: xs, y :: ys => if f x y = 0 then cmpL f xs ys else f x y

theorem cmpL_stands {α : Type} {f : α → α → Int} (h : Stands f) : Stands (cmpL f) where
  same xs := by
    induction xs with
    | nil => rfl
    | cons x xs ih => simp [cmpL, h.same, ih]
  only xs := by
    induction xs with
    | nil => intro ys; cases ys <;> simp [cmpL]
    | cons x xs ih =>
      intro ys
      cases ys with
      | nil => simp [cmpL]
      | cons y ys =>
        simp only [cmpL]
        split
        · rename_i h0
          intro h1
          rw [h.only _ _ h0, ih _ h1]
        · intro h1; contradiction
  flip xs := by
    induction xs with
    | nil => intro ys; cases ys <;> simp [cmpL]
    | cons x xs ih =>
      intro ys
      cases ys with
      | nil => simp [cmpL]
      | cons y ys =>
        simp only [cmpL]
        rw [h.flip x y]
        by_cases h0 : f x y = 0
        · rw [if_pos h0, if_pos (by omega), ih]
        · rw [if_neg h0, if_neg (by omega)]
  rng xs := by
    induction xs with
    | nil => intro ys; cases ys <;> simp [cmpL]
    | cons x xs ih =>
      intro ys
      cases ys with
      | nil => simp [cmpL]
      | cons y ys =>
        simp only [cmpL]
        split
        · exact ih ys
        · exact h.rng x y
  trans xs := by
    induction xs with
    | nil => intro ys zs _ _; cases zs <;> simp [cmpL]
    | cons x xs ih =>
      intro ys zs h1 h2
      cases ys with
      | nil => simp [cmpL] at h1
      | cons y ys =>
        cases zs with
        | nil => simp [cmpL] at h2
        | cons z zs =>
          simp only [cmpL] at *
          by_cases a0 : f x y = 0
          · obtain rfl := h.only _ _ a0
            rw [if_pos a0] at h1
            by_cases b0 : f x z = 0
            · rw [if_pos b0] at h2 ⊢; exact ih _ _ h1 h2
            · rw [if_neg b0] at h2 ⊢; exact h2
          · rw [if_neg a0] at h1
            by_cases b0 : f y z = 0
            · obtain rfl := h.only _ _ b0
              rw [if_neg a0]; exact h1
            · rw [if_neg b0] at h2
              have hc := h.trans x y z h1 h2
              by_cases c0 : f x z = 0
              · obtain rfl := h.only _ _ c0
                have := h.flip x y
                omega
              · rw [if_neg c0]; exact hc

abbrev cmpB : List Nat → List Nat → Int := cmpL cmpN
abbrev cmpW : List (List Nat) → List (List Nat) → Int := cmpL cmpB
theorem cmpW_stands : Stands cmpW := cmpL_stands (cmpL_stands cmpN_stands)
/-- Of two lists that are alike for k things: what follows tells. -/
theorem cmpL_drop {α : Type} {f : α → α → Int} (h : Stands f) : ∀ (k : Nat) (xs ys : List α), (∀ i, i < k → ∃ x, xs[i]? = some x ∧ ys[i]? = some x) → cmpL f xs ys = cmpL f (xs.drop k) (ys.drop k)
  | 0, _, _, _ => rfl
  | k + 1, xs, ys, hk => by
    obtain ⟨x, hx, hy⟩ := hk 0 (by omega)
    cases xs with
    | nil => simp at hx
    | cons a xs =>
      cases ys with
      | nil => simp at hy
      | cons b ys =>
        simp at hx hy
        subst hx hy
        simp only [cmpL, h.same, if_true, List.drop_succ_cons]
        exact cmpL_drop h k xs ys (fun i hi => by simpa using hk (i + 1) (by omega))
end Go.Proofs.Ytmnkghbbcjnlfaa
