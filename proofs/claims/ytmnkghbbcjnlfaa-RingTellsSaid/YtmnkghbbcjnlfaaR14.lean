/- Where the least turn begins. -/
import Derived.Test.YtmnkghbbcjnlfaaR12
namespace Go.Proofs.Ytmnkghbbcjnlfaa

/-- The least turn begins here. -/
def Least (L : List (List Nat)) (x : Nat) : Prop := ∀ y, cmpW (turnN L x) (turnN L y) ≤ 0

theorem at_mod (L : List (List Nat)) (x : Nat) : at_ L (x % L.length) = at_ L x := by
  unfold at_
  rw [Nat.mod_mod]
theorem turn_eq {L : List (List Nat)} {x y : Nat} (h : ∀ i, i < L.length → at_ L (x + i) = at_ L (y + i)) : turnN L x = turnN L y := by
  unfold turnN
  apply List.map_congr_left
  intro i hi
  exact h i (List.mem_range.1 hi)
theorem turn_mod (L : List (List Nat)) (x : Nat) : turnN L (x % L.length) = turnN L x := turn_eq fun i _ => by
  unfold at_
  rw [Nat.mod_add_mod]
theorem first_diff {L : List (List Nat)} {x y m : Nat} (hm : m < L.length) (h : ∀ i, i < m → at_ L (x + i) = at_ L (y + i)) (hc : cmpB (at_ L (x + m)) (at_ L (y + m)) ≠ 0) :
    cmpW (turnN L x) (turnN L y) = cmpB (at_ L (x + m)) (at_ L (y + m)) := by
  have h1 := cmpL_drop (cmpL_stands cmpN_stands) m (turnN L x) (turnN L y) (fun i hi => ⟨at_ L (x + i), turnN_at L x i (by omega), by rw [turnN_at L y i (by omega), h i hi]⟩)
  have e1 := drop_cons (turnN_at L x m hm)
  have e2 := drop_cons (turnN_at L y m hm)
  show cmpL cmpB (turnN L x) (turnN L y) = _
  rw [h1, e1, e2]
  simp only [cmpL]
  rw [if_neg hc]
theorem ag_spec (L : List (List Nat)) (b o : Nat) :
    ((ag L b o).2 = 0 ∧ ∀ q, q < L.length → at_ L (b + q) = at_ L (o + q)) ∨
    ((ag L b o).2 ≠ 0 ∧ (ag L b o).1 < L.length ∧ (∀ q, q < (ag L b o).1 → at_ L (b + q) = at_ L (o + q)) ∧ cmpB (at_ L (b + (ag L b o).1)) (at_ L (o + (ag L b o).1)) = (ag L b o).2) := by
  have hs := cmpL_stands cmpN_stands
  cases hf : (List.range L.length).find? fun k => decide (cmpB (at_ L (b + k)) (at_ L (o + k)) ≠ 0) with
  | none =>
    left
    have e : ag L b o = (L.length, 0) := by unfold ag; rw [hf]
    rw [e]
    refine ⟨rfl, fun q hq => hs.only _ _ ?_⟩
    have := List.find?_range_eq_none.1 hf q hq
    simpa using this
  | some k =>
    right
    have e : ag L b o = (k, cmpB (at_ L (b + k)) (at_ L (o + k))) := by unfold ag; rw [hf]
    rw [e]
    obtain ⟨h1, h2, h3⟩ := List.find?_range_eq_some.1 hf
    refine ⟨by simpa using h1, List.mem_range.1 h2, fun q hq => hs.only _ _ ?_, rfl⟩
    have := h3 q hq
    simpa using this
theorem lose {L : List (List Nat)} {b o k : Nat} (hk : k < L.length) (h : ∀ q, q < k → at_ L (b + q) = at_ L (o + q)) (hc : cmpB (at_ L (b + k)) (at_ L (o + k)) ≠ 0) (j : Nat) (hj : j ≤ k) :
    cmpW (turnN L (b + j)) (turnN L (o + j)) = cmpB (at_ L (b + k)) (at_ L (o + k)) := by
  have e1 : b + j + (k - j) = b + k := by omega
  have e2 : o + j + (k - j) = o + k := by omega
  have := first_diff (L := L) (x := b + j) (y := o + j) (m := k - j) (by omega) (fun i hi => by rw [Nat.add_assoc, Nat.add_assoc]; exact h (j + i) (by omega)) (by rw [e1, e2]; exact hc)
  rw [e1, e2] at this
  exact this
theorem not_least {L : List (List Nat)} {x y : Nat} (h : 0 < cmpW (turnN L x) (turnN L y)) : ¬ Least L x := fun hl => by have := hl y; omega
theorem some_least (L : List (List Nat)) (h : 0 < L.length) : ∃ x, x < L.length ∧ Least L x := by
  have hs := cmpW_stands
  have key : ∀ m, ∃ x, x < m + 1 ∧ ∀ y, y < m + 1 → cmpW (turnN L x) (turnN L y) ≤ 0 := by
    intro m
    induction m with
    | zero => exact ⟨0, by omega, fun y hy => by obtain rfl : y = 0 := (by omega); exact Int.le_of_eq (hs.same _)⟩
    | succ m ih =>
      obtain ⟨x, hx, hl⟩ := ih
      by_cases hc : cmpW (turnN L x) (turnN L (m + 1)) ≤ 0
      · refine ⟨x, by omega, fun y hy => ?_⟩
        by_cases e : y = m + 1
        · subst e; exact hc
        · exact hl y (by omega)
      · refine ⟨m + 1, by omega, fun y hy => ?_⟩
        by_cases e : y = m + 1
        · subst e; exact Int.le_of_eq (hs.same _)
        · have h1 := hs.flip (turnN L x) (turnN L (m + 1))
          exact hs.trans _ _ _ (by omega) (hl y (by omega))
  obtain ⟨x, hx, hl⟩ := key (L.length - 1)
  refine ⟨x, by omega, fun y => ?_⟩
  rw [← turn_mod L y]
  exact hl _ (by have := Nat.mod_lt y h; omega)
theorem least_congr {L : List (List Nat)} {x y : Nat} (h : turnN L x = turnN L y) : Least L x ↔ Least L y := by unfold Least; rw [h]

/-- What leastPlaces answers. -/
def Good (L : List (List Nat)) (p s : Nat) : Prop := p < s ∧ s ∣ L.length ∧ ∀ x, Least L x ↔ x % s = p

theorem good_end {L : List (List Nat)} {b o : Nat} (hb : b < L.length) (ho : L.length ≤ o) (hi : ∀ x, x < o → x ≠ b → ¬ Least L x) : Good L b L.length := by
  obtain ⟨y, hy, hl⟩ := some_least L (by omega)
  obtain rfl : y = b := Classical.byContradiction fun e => hi y (by omega) e hl
  refine ⟨hb, Nat.dvd_refl _, fun x => ?_⟩
  have hm := Nat.mod_lt x (show 0 < L.length by omega)
  rw [← least_congr (turn_mod L x)]
  constructor
  · intro h
    exact Classical.byContradiction fun e => hi _ (by omega) e h
  · intro h
    rw [h]; exact hl
theorem good_same {L : List (List Nat)} {b o : Nat} (hb : b < L.length) (hbo : b < o) (hi : ∀ x, x < o → x ≠ b → ¬ Least L x) (he : ∀ q, q < L.length → at_ L (b + q) = at_ L (o + q)) : Good L b (o - b) := by
  obtain ⟨s, hs⟩ : ∃ s, s = o - b := ⟨_, rfl⟩
  rw [← hs]
  have hn : 0 < L.length := by omega
  have per : ∀ y, at_ L y = at_ L (y + s) := by
    intro y
    -- y is b + z, about the circle
    have hz : ∃ z, (b + z) % L.length = y % L.length := ⟨y + (L.length * (b + 1) - b), by
      have hle : b ≤ L.length * (b + 1) := Nat.le_trans (Nat.le_succ b) (Nat.le_mul_of_pos_left _ hn)
      rw [show b + (y + (L.length * (b + 1) - b)) = y + L.length * (b + 1) by omega, Nat.add_mul_mod_self_left]⟩
    obtain ⟨z, hz⟩ := hz
    have h1 := he (z % L.length) (Nat.mod_lt _ hn)
    have e1 : at_ L (b + z % L.length) = at_ L y := by unfold at_; rw [Nat.add_mod_mod, hz]
    have e2 : at_ L (o + z % L.length) = at_ L (y + s) := by
      unfold at_
      rw [Nat.add_mod_mod, show o + z = b + z + s by omega, ← Nat.mod_add_mod, hz, Nat.mod_add_mod]
    rw [← e1, h1, e2]
  have pert : ∀ y, turnN L y = turnN L (y + s) := fun y => turn_eq fun i _ => by
    rw [per (y + i), show y + i + s = y + s + i by omega]
  have perm : ∀ m y, turnN L y = turnN L (y + s * m) := by
    intro m
    induction m with
    | zero => intro y; rfl
    | succ m ih => intro y; rw [ih y, pert (y + s * m), Nat.mul_succ, Nat.add_assoc]
  have hs1 : 1 ≤ s := by omega
  -- a least place that is not ahead of b is b, but for steps
  have down : ∀ y, b ≤ y → Least L y → (y - b) % s = 0 := by
    intro y hy hl
    have hd := Nat.div_add_mod (y - b) s
    have hlt := Nat.mod_lt (y - b) (show 0 < s by omega)
    have e : y = b + (y - b) % s + s * ((y - b) / s) := by omega
    have h2 : Least L (b + (y - b) % s) := by
      rw [least_congr (perm ((y - b) / s) (b + (y - b) % s)), ← e]
      exact hl
    have h3 : b + (y - b) % s = b := Classical.byContradiction fun e => hi _ (by omega) e h2
    omega
  have hbl : Least L b := by
    obtain ⟨y, hy, hl⟩ := some_least L hn
    have hl2 : Least L (y + L.length * 1) := by
      rw [least_congr (show turnN L (y + L.length * 1) = turnN L y by rw [← turn_mod L (y + L.length * 1), Nat.add_mul_mod_self_left, turn_mod])]
      exact hl
    have h3 := down (y + L.length * 1) (by omega) hl2
    have hd := Nat.div_add_mod (y + L.length * 1 - b) s
    have e : y + L.length * 1 = b + s * ((y + L.length * 1 - b) / s) := by omega
    rw [e, ← least_congr (perm _ b)] at hl2
    exact hl2
  have hdv : s ∣ L.length := by
    have h4 : Least L (b + L.length * 1) := by
      rw [least_congr (show turnN L (b + L.length * 1) = turnN L b by rw [← turn_mod L (b + L.length * 1), Nat.add_mul_mod_self_left, turn_mod])]
      exact hbl
    have h5 := down _ (by omega) h4
    rw [show b + L.length * 1 - b = L.length by omega] at h5
    exact Nat.dvd_of_mod_eq_zero h5
  have hbs : b < s := by
    refine Classical.byContradiction fun h => ?_
    have h6 : Least L (b - s) := by
      rw [least_congr (pert (b - s)), show b - s + s = b by omega]
      exact hbl
    exact hi _ (by omega) (by omega) h6
  refine ⟨hbs, hdv, fun x => ⟨fun h => ?_, fun h => ?_⟩⟩
  · have hxb : b ≤ x := Classical.byContradiction fun e => hi x (by omega) (by omega) h
    have h7 := down x hxb h
    have hd := Nat.div_add_mod (x - b) s
    have e : x = b + s * ((x - b) / s) := by omega
    rw [e, Nat.add_mul_mod_self_left, Nat.mod_eq_of_lt hbs]
  · have hd := Nat.div_add_mod x s
    have e : x = b + s * (x / s) := by omega
    rw [e, ← least_congr (perm _ b)]
    exact hbl
theorem lp_good (L : List (List Nat)) : ∀ (f b o : Nat), b < L.length → b < o → L.length ≤ f + o → (∀ x, x < o → x ≠ b → ¬ Least L x) → Good L (lp L f b o).1 (lp L f b o).2
  | 0, b, o, hb, _, hf, hi => by
    show Good L b L.length
    exact good_end hb (by omega) hi
  | f + 1, b, o, hb, hbo, hf, hi => by
    by_cases ho : o < L.length
    · rw [lp_step ho]
      rcases ag_spec L b o with ⟨h0, he⟩ | ⟨h0, hk, hq, hc⟩
      · rw [if_pos h0]
        exact good_same hb hbo hi he
      · rw [if_neg h0]
        have hc0 : cmpB (at_ L (b + (ag L b o).1)) (at_ L (o + (ag L b o).1)) ≠ 0 := by rw [hc]; exact h0
        have hl := lose hk hq hc0
        rw [hc] at hl
        generalize (ag L b o).1 = k at *
        generalize (ag L b o).2 = c at *
        by_cases hneg : c < 0
        · rw [if_pos hneg]
          refine lp_good L f b _ hb (by omega) (by omega) (fun x hx hxb => ?_)
          by_cases hxo : x < o
          · exact hi x hxo hxb
          · have h1 := hl (x - o) (by omega)
            rw [show o + (x - o) = x by omega] at h1
            have h2 := cmpW_stands.flip (turnN L (b + (x - o))) (turnN L x)
            exact not_least (y := b + (x - o)) (by omega)
        · rw [if_neg hneg]
          have hlb : ∀ x, b ≤ x → x ≤ b + k → ¬ Least L x := fun x h1 h2 => by
            have h3 := hl (x - b) (by omega)
            rw [show b + (x - b) = x by omega] at h3
            exact not_least (y := o + (x - b)) (by omega)
          refine lp_good L f o _ ho (by omega) (by omega) (fun x hx hxo => ?_)
          by_cases h1 : x < o
          · by_cases h2 : x = b
            · subst h2
              exact hlb x (by omega) (by omega)
            · exact hi x h1 h2
          · exact hlb x (by omega) (by omega)
    · rw [lp_end L (f + 1) b o (by omega)]
      exact good_end hb (by omega) hi
theorem lp_right (L : List (List Nat)) (h : 0 < L.length) : Good L (lp L L.length 0 1).1 (lp L L.length 0 1).2 :=
  lp_good L L.length 0 1 h (by omega) (by omega) (fun x hx h0 => absurd h0 (by omega))
end Go.Proofs.Ytmnkghbbcjnlfaa
