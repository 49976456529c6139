/- Pure: the least common multiple of the lengths of cycles is no large number (layer 3). -/
import Derived.Test.YtgldlanfbkgfjaaP3
namespace Go.Proofs.Ytgldlanfbkgfjaa
open Go.RowKit

def wC (x : Nat) : Nat := if 2 ≤ x ∧ x ≤ 22 then 2 ^ x else 1
def wD (x : Nat) : Nat := if 2 ≤ x ∧ x ≤ 22 then x ^ 5 else 1
def pC : Nat → Nat
  | 0 => 1
  | b + 1 => pC b * wC (b + 1)
def pD : Nat → Nat
  | 0 => 1
  | b + 1 => pD b * wD (b + 1)
def wOk : Bool := (List.range 200).all fun i => decide ((i + 1) ^ 5 * wC (i + 1) ≤ 2 ^ (i + 1) * wD (i + 1)) && decide (wC (i + 1) ≤ wD (i + 1))
theorem wOk_yes : wOk = true := by kernel_rfl
theorem w_in {b : Nat} (h : b < 200) : (b + 1) ^ 5 * wC (b + 1) ≤ 2 ^ (b + 1) * wD (b + 1) ∧ wC (b + 1) ≤ wD (b + 1) := by
  have h1 := List.all_eq_true.1 wOk_yes b (List.mem_range.2 h)
  rw [Bool.and_eq_true] at h1
  exact ⟨of_decide_eq_true h1.1, of_decide_eq_true h1.2⟩
theorem prod_bound : ∀ (b : Nat) (D : List Nat), b ≤ 200 → D.Nodup → (∀ x ∈ D, 1 ≤ x ∧ x ≤ b) → D.prod ^ 5 * pC b ≤ 2 ^ D.sum * pD b
  | 0, [], _, _, _ => by simp [pC, pD]
  | 0, x :: D, _, _, h => by have := h x (List.mem_cons_self ..); omega
  | b + 1, D, hb, hn, h => by
    obtain ⟨w1, w2⟩ := w_in (show b < 200 by omega)
    by_cases hm : b + 1 ∈ D
    · have hp := List.perm_cons_erase hm
      have ih := prod_bound b (D.erase (b + 1)) (by omega) (hn.erase _) (fun x hx => by
        rw [hn.mem_erase_iff] at hx
        have := h x hx.2
        have := hx.1
        omega)
      rw [hp.prod_nat, hp.sum_nat, List.prod_cons, List.sum_cons]
      generalize (D.erase (b + 1)).prod = q at *
      generalize (D.erase (b + 1)).sum = s at *
      show ((b + 1) * q) ^ 5 * (pC b * wC (b + 1)) ≤ 2 ^ (b + 1 + s) * (pD b * wD (b + 1))
      rw [Nat.mul_pow, Nat.pow_add 2 (b + 1) s]
      have h2 := Nat.mul_le_mul w1 ih
      calc (b + 1) ^ 5 * q ^ 5 * (pC b * wC (b + 1)) = (b + 1) ^ 5 * wC (b + 1) * (q ^ 5 * pC b) := by simp only [Nat.mul_comm, Nat.mul_left_comm, Nat.mul_assoc]
        _ ≤ 2 ^ (b + 1) * wD (b + 1) * (2 ^ s * pD b) := h2
        _ = 2 ^ (b + 1) * 2 ^ s * (pD b * wD (b + 1)) := by simp only [Nat.mul_comm, Nat.mul_left_comm, Nat.mul_assoc]
    · have ih := prod_bound b D (by omega) hn (fun x hx => by
        have := h x hx
        have : x ≠ b + 1 := fun e => hm (e ▸ hx)
        omega)
      have h2 := Nat.mul_le_mul ih w2
      show D.prod ^ 5 * (pC b * wC (b + 1)) ≤ 2 ^ D.sum * (pD b * wD (b + 1))
      rw [← Nat.mul_assoc, ← Nat.mul_assoc]
      exact h2
def bigOk : Bool := decide (2 ^ 200 * pD 200 < (2 ^ 60) ^ 5 * pC 200)
theorem bigOk_yes : bigOk = true := by kernel_rfl
theorem prod_small {D : List Nat} (hn : D.Nodup) (h : ∀ x ∈ D, 1 ≤ x ∧ x ≤ 200) (hs : D.sum ≤ 200) : D.prod < 2 ^ 60 := by
  apply Classical.byContradiction
  intro hge
  have h1 := prod_bound 200 D (Nat.le_refl _) hn h
  have h2 : 2 ^ 200 * pD 200 < (2 ^ 60) ^ 5 * pC 200 := of_decide_eq_true bigOk_yes
  have h3 : (2 ^ 60) ^ 5 * pC 200 ≤ D.prod ^ 5 * pC 200 := Nat.mul_le_mul_right _ (Nat.pow_le_pow_left (by omega) 5)
  have h4 : 2 ^ D.sum * pD 200 ≤ 2 ^ 200 * pD 200 := Nat.mul_le_mul_right _ (Nat.pow_le_pow_right (by decide) hs)
  exact absurd (Nat.lt_of_lt_of_le h2 (Nat.le_trans h3 (Nat.le_trans h1 h4))) (Nat.lt_irrefl _)
theorem sum_sub : ∀ (D ls : List Nat), D.Nodup → (∀ x ∈ D, x ∈ ls) → D.sum ≤ ls.sum
  | [], _, _, _ => by simp
  | a :: D, ls, hn, h => by
    rw [List.nodup_cons] at hn
    have hp := List.perm_cons_erase (h a (List.mem_cons_self ..))
    have ih := sum_sub D (ls.erase a) hn.2 (fun x hx => by
      have hne : x ≠ a := fun e => hn.1 (e ▸ hx)
      rw [List.mem_erase_of_ne hne]
      exact h x (List.mem_cons_of_mem _ hx))
    rw [hp.sum_nat, List.sum_cons, List.sum_cons]
    omega
/-- The least common multiple of a list. -/
def lcmL (ls : List Nat) : Nat := ls.foldl Nat.lcm 1
theorem lcmL_snoc (ls : List Nat) (x : Nat) : lcmL (ls ++ [x]) = Nat.lcm (lcmL ls) x := by simp [lcmL]
theorem snoc_induct {α : Type} {C : List α → Prop} (h0 : C []) (h1 : ∀ l a, C l → C (l ++ [a])) (l : List α) : C l := by
  have key : ∀ m : List α, C m.reverse := by
    intro m
    induction m with
    | nil => exact h0
    | cons a m ih => rw [List.reverse_cons]; exact h1 _ _ ih
  have := key l.reverse
  rwa [List.reverse_reverse] at this
theorem lcmL_dvd (ls : List Nat) {N : Nat} (h : ∀ x ∈ ls, x ∣ N) : lcmL ls ∣ N := by
  induction ls using snoc_induct with
  | h0 => exact Nat.one_dvd N
  | h1 l a ih =>
    rw [lcmL_snoc]
    exact Nat.lcm_dvd (ih (fun x hx => h x (List.mem_append.2 (.inl hx)))) (h a (List.mem_append.2 (.inr (List.mem_singleton.2 rfl))))
theorem dvd_lcmL (ls : List Nat) {x : Nat} (hx : x ∈ ls) : x ∣ lcmL ls := by
  induction ls using snoc_induct with
  | h0 => cases hx
  | h1 l a ih =>
    rw [lcmL_snoc]
    rcases List.mem_append.1 hx with h | h
    · exact Nat.dvd_trans (ih h) (Nat.dvd_lcm_left _ _)
    · rw [List.mem_singleton.1 h]
      exact Nat.dvd_lcm_right _ _
theorem dvd_prod : ∀ (D : List Nat) {x : Nat}, x ∈ D → x ∣ D.prod
  | a :: D, x, h => by
    rw [List.prod_cons]
    rcases List.mem_cons.1 h with e | e
    · rw [e]; exact Nat.dvd_mul_right _ _
    · exact Nat.dvd_trans (dvd_prod D e) (Nat.dvd_mul_left _ _)
theorem prod_pos : ∀ (D : List Nat), (∀ x ∈ D, 1 ≤ x) → 0 < D.prod
  | [], _ => by simp
  | a :: D, h => by
    rw [List.prod_cons]
    exact Nat.mul_pos (h a (List.mem_cons_self ..)) (prod_pos D (fun x hx => h x (List.mem_cons_of_mem _ hx)))
theorem lcmL_small {ls : List Nat} (h : ∀ x ∈ ls, 1 ≤ x) (hs : ls.sum ≤ 200) : 0 < lcmL ls ∧ lcmL ls < 2 ^ 60 := by
  have hle : ∀ x ∈ ls, x ≤ 200 := fun x hx => by
    have hp := List.perm_cons_erase hx
    have h2 := hp.sum_nat
    rw [List.sum_cons] at h2
    omega
  obtain ⟨D, hD⟩ : ∃ D, D = (List.range 201).filter (fun x => decide (x ∈ ls)) := ⟨_, rfl⟩
  have hm : ∀ x, x ∈ D ↔ x ∈ ls := fun x => by
    rw [hD, List.mem_filter, List.mem_range, decide_eq_true_iff]
    exact ⟨fun h => h.2, fun hx => ⟨by have := hle x hx; omega, hx⟩⟩
  have hn : D.Nodup := by rw [hD]; exact List.nodup_range.filter _
  have h1 := prod_small hn (fun x hx => ⟨h x ((hm x).1 hx), hle x ((hm x).1 hx)⟩) (Nat.le_trans (sum_sub D ls hn (fun x hx => (hm x).1 hx)) hs)
  have h2 : lcmL ls ∣ D.prod := lcmL_dvd ls (fun x hx => dvd_prod D ((hm x).2 hx))
  have h3 : 0 < D.prod := prod_pos D (fun x hx => h x ((hm x).1 hx))
  refine ⟨?_, Nat.lt_of_le_of_lt (Nat.le_of_dvd h3 h2) h1⟩
  exact Nat.pos_of_dvd_of_pos h2 h3
section
variable {n : Nat} {p : List Nat}
theorem flat_nodup (h : Perm n p) (f : Nat) (hf : f ≤ n) : (cycs p f).flatten.Nodup := by
  rw [List.Nodup, List.pairwise_flatten]
  refine ⟨fun l hl => ?_, ?_⟩
  · obtain ⟨v, hv, _, rfl⟩ := mem_cycs.1 hl
    exact orb_nodup h (by omega)
  · unfold cycs
    rw [List.pairwise_map]
    refine List.Pairwise.imp_of_mem ?_ ((List.pairwise_lt_range (n := f)).filter _)
    intro a b ha hb hab x hx y hy e
    subst e
    rw [List.mem_filter, List.mem_range] at ha hb
    have h1 : a ∈ orb p b := orb_trans h (by omega) hy (orb_sym h (by omega) hx)
    have h2 := hb.2
    unfold leastB at h2
    have := (of_decide_eq_true h2) a h1
    omega
theorem flat_lt (h : Perm n p) (f : Nat) (hf : f ≤ n) {x : Nat} (hx : x ∈ (cycs p f).flatten) : x < n := by
  obtain ⟨l, h1, h2⟩ := List.mem_flatten.1 hx
  obtain ⟨v, hv, _, rfl⟩ := mem_cycs.1 h1
  exact orb_lt h (by omega) h2
theorem lens_sum (h : Perm n p) : ((cycs p n).map List.length).sum ≤ n := by
  rw [← List.length_flatten]
  exact nod_le n _ (flat_nodup h n (Nat.le_refl _)) (fun x hx => flat_lt h n (Nat.le_refl _) hx)
theorem pre_small (h : Perm n p) (hn : n ≤ 200) {pre rest : List (List Nat)} (e : cycs p n = pre ++ rest) : 0 < lcmL (pre.map List.length) ∧ lcmL (pre.map List.length) < 2 ^ 60 := by
  refine lcmL_small (fun x hx => ?_) ?_
  · obtain ⟨c, hc, rfl⟩ := List.mem_map.1 hx
    obtain ⟨v, _, _, rfl⟩ := mem_cycs.1 (show c ∈ cycs p n by rw [e]; exact List.mem_append.2 (.inl hc))
    rw [orb_length]
    exact per_pos p v
  · have h1 := lens_sum h
    rw [e, List.map_append, List.sum_append] at h1
    omega
/-- The order. -/
def ord (n : Nat) (p : List Nat) : Nat := lcmL ((cycs p n).map List.length)
end
end Go.Proofs.Ytgldlanfbkgfjaa
