/- Whom one comes to is a matter of two, alike from both; what parts there are (no world here). -/
import Derived.Test.YtlkddjpjhchjfaaW19
import Derived.Test.YtlkddjpjhchjfaaW25
namespace Go.Proofs.Ytlkddjpjhchjfaa
set_option maxRecDepth 100000

theorem exists_least {p : Nat → Prop} (h : ∃ n, p n) : ∃ n, p n ∧ ∀ m, m < n → ¬ p m := by
  classical
  obtain ⟨n, hn⟩ := h
  induction n using Nat.strongRecOn with
  | ind n ih =>
    by_cases h : ∃ m, m < n ∧ p m
    · obtain ⟨m, hm, hp⟩ := h
      exact ih m hm hp
    · exact ⟨n, hn, fun m hm hp => h ⟨m, hm, hp⟩⟩
def wayN (T : List (List Int)) : Nat → Nat → Nat → Prop
  | 0, u, v => u = v
  | n + 1, u, v => ∃ x, wayN T n u x ∧ adj T x v
theorem wayN_lt {T : List (List Int)} {N : Nat} (hT : ∀ u v : Nat, adj T u v → v < N) : ∀ (n u v : Nat), u < N → wayN T n u v → v < N
  | 0, _, _, hu, h => by
    have : _ = _ := h
    omega
  | _ + 1, _, _, _, ⟨x, _, h⟩ => hT x _ h
theorem dist_exists {T : List (List Int)} {N fr : Nat} (hT : ∀ u v : Nat, adj T u v → v < N) (hf : fr < N) : ∃ ds, Dist T N fr ds := by
  classical
  have hc : ∀ v, ∃ d : Int, ((∃ n, wayN T n fr v) → ∃ n : Nat, d = n ∧ wayN T n fr v ∧ ∀ m, m < n → ¬ wayN T m fr v) ∧ ((¬ ∃ n, wayN T n fr v) → d = -1) := by
    intro v
    by_cases h : ∃ n, wayN T n fr v
    · obtain ⟨n, h1, h2⟩ := exists_least h
      exact ⟨n, fun _ => ⟨n, rfl, h1, h2⟩, fun h' => absurd h h'⟩
    · exact ⟨-1, fun h' => absurd h' h, fun _ => rfl⟩
  obtain ⟨f, hf2⟩ := Classical.axiomOfChoice hc
  have hg : ∀ v, v < N → gd ((List.range N).map f) v = f v := fun v hv => by
    simp [gd, List.getD, hv]
  have hpos : ∀ v, 0 ≤ f v → ∃ n : Nat, f v = n ∧ wayN T n fr v ∧ ∀ m, m < n → ¬ wayN T m fr v := fun v h0 => by
    by_cases h : ∃ n, wayN T n fr v
    · exact (hf2 v).1 h
    · have := (hf2 v).2 h; omega
  have h0 : f fr = 0 := by
    obtain ⟨n, e, _, h2⟩ := (hf2 fr).1 ⟨0, rfl⟩
    have : ¬ 0 < n := fun h => h2 0 h rfl
    omega
  refine ⟨(List.range N).map f, by simp, fun v hv => ?_, by rw [hg fr hf]; exact h0, fun v hv e => ?_, fun v hv e => ?_, fun u hu e v ha => ?_⟩
  · rw [hg v hv]
    by_cases h : ∃ n, wayN T n fr v
    · obtain ⟨n, e, _⟩ := (hf2 v).1 h; omega
    · have := (hf2 v).2 h; omega
  · rw [hg v hv] at e
    obtain ⟨n, e2, h1, _⟩ := hpos v (by omega)
    obtain rfl : n = 0 := by omega
    have : fr = v := h1
    exact this.symm
  · rw [hg v hv] at e
    obtain ⟨n, e2, h1, h2⟩ := hpos v (by omega)
    obtain ⟨k, rfl⟩ : ∃ k, n = k + 1 := ⟨n - 1, by omega⟩
    obtain ⟨x, hx, ha⟩ := h1
    have hxN := wayN_lt hT k fr x hf hx
    obtain ⟨m, e3, h3, h4⟩ := (hf2 x).1 ⟨k, hx⟩
    have h5 : ¬ k < m := fun h => h4 k h hx
    have h6 : ¬ m + 1 < k + 1 := fun h => h2 (m + 1) h ⟨x, h3, ha⟩
    exact ⟨x, hxN, ha, by rw [hg x hxN, hg v hv]; omega⟩
  · rw [hg u hu] at e
    have hv := hT u v ha
    obtain ⟨n, e2, h1, _⟩ := hpos u e
    obtain ⟨m, e3, _, h4⟩ := (hf2 v).1 ⟨n + 1, u, h1, ha⟩
    have : ¬ n + 1 < m := fun h => h4 (n + 1) h ⟨u, h1, ha⟩
    rw [hg u hu, hg v hv]
    omega
theorem dist_is {N fr : Nat} {E : List (Int × Int)} (hg : rightG (N : Nat) E = true) (hf : fr < N) : Dist (tabG N E) N fr (distOf (tabG N E) N fr) := by
  obtain ⟨ds, h⟩ := dist_exists (T := tabG N E) (N := N) (fr := fr) (fun u v h => by
    obtain ⟨y, e, hy⟩ := tabG_mem hg h
    omega) hf
  rw [distOf_eq h]
  exact h
/-- Does one come to it? -/
def Rch (N : Nat) (E : List (Int × Int)) (u v : Nat) : Prop := 0 ≤ gd (distOf (tabG N E) N u) v
section
variable {N : Nat} {E : List (Int × Int)} (hg : rightG (N : Nat) E = true)
theorem Rch.rfl_ (hg : rightG (N : Nat) E = true) {u : Nat} (hu : u < N) : Rch N E u u := by
  unfold Rch; rw [(dist_is hg hu).zero]; exact Int.le_refl _
theorem Rch.symm_ (hg : rightG (N : Nat) E = true) {u v : Nat} (hu : u < N) (hv : v < N) (h : Rch N E u v) : Rch N E v u := by
  unfold Rch at *
  rw [← (dist_is hg hu).both (dist_is hg hv) (fun _ _ => tabG_sym hg) hu hv]
  exact h
theorem Rch.trans_ (hg : rightG (N : Nat) E = true) {u v x : Nat} (hu : u < N) (hv : v < N) (hx : x < N) (h : Rch N E u v) (k : Rch N E v x) : Rch N E u x := by
  have k' := Rch.symm_ hg hv hx k
  unfold Rch at *
  obtain ⟨n, hn⟩ := Int.eq_ofNat_of_zero_le h
  have := (Dist.tri (dist_is hg hu) (dist_is hg hx) (fun _ _ => tabG_sym hg) n v hv hn k').1
  rw [(dist_is hg hu).both (dist_is hg hx) (fun _ _ => tabG_sym hg) hu hx]
  exact this
end
theorem reachN_mem {d : List Int} {i w : Nat} : (w : Int) ∈ reachN d i ↔ w < i ∧ 0 ≤ gd d w := by
  unfold reachN
  simp only [List.mem_map, List.mem_filter, List.mem_range, decide_eq_true_eq]
  constructor
  · rintro ⟨a, h, e⟩
    obtain rfl : a = w := by omega
    exact h
  · intro h; exact ⟨w, h, rfl⟩
theorem reachN_all {d : List Int} {i : Nat} {x : Int} (h : x ∈ reachN d i) : ∃ w : Nat, x = (w : Int) := by
  unfold reachN at h
  obtain ⟨a, _, e⟩ := List.mem_map.1 h
  exact ⟨a, e.symm⟩
theorem reachN_up (d : List Int) (i : Nat) : (reachN d i).Pairwise (· < ·) := by
  unfold reachN
  rw [List.pairwise_map]
  have h := (List.pairwise_lt_range (n := i)).filter fun w => decide (0 ≤ gd d w)
  rw [List.pairwise_iff_getElem] at h ⊢
  intro a b ha hb hab
  have := h a b ha hb hab
  omega
theorem metN_getD {m : List Bool} {d : List Int} {i w : Nat} (h : w < m.length) : (metN m d i).getD w false = (m.getD w false || (decide (w < i) && decide (0 ≤ gd d w))) := by
  simp [metN, List.getD, h]
/-- What parts there are, when the first ones have been asked. -/
structure PInv (N : Nat) (E : List (Int × Int)) (k : Nat) (m : List Bool) (P : List (List Int)) : Prop where
  len : m.length = N
  cover : ∀ w, w < N → (m.getD w false = true ↔ ∃ (i : Nat) (p : List Int), P[i]? = some p ∧ (w : Int) ∈ p)
  asked : ∀ v, v < k → m.getD v false = true
  part : ∀ (i : Nat) (p : List Int), P[i]? = some p → ∃ v, v < k ∧ p = reachN (distOf (tabG N E) N v) N ∧ p[0]? = some (v : Int)
  rise : ∀ (i j : Nat) (p q : List Int) (x y : Int), i < j → P[i]? = some p → P[j]? = some q → p[0]? = some x → q[0]? = some y → x < y
  once : ∀ (i j : Nat) (p q : List Int) (x : Int), P[i]? = some p → P[j]? = some q → x ∈ p → x ∈ q → i = j
theorem pinv {N : Nat} {E : List (Int × Int)} (hg : rightG (N : Nat) E = true) : ∀ k, k ≤ N → PInv N E k (prun (tabG N E) N k).1 (prun (tabG N E) N k).2
  | 0, _ => ⟨by simp [prun], fun w hw => by simp [prun, List.getD, hw], (by intro v h; omega), (by intro i p h; simp [prun] at h), (by intro i j p q x y _ h; simp [prun] at h), (by intro i j p q x h; simp [prun] at h)⟩
  | k + 1, hk => by
    have ih := pinv hg k (by omega)
    have hs : prun (tabG N E) N (k + 1) = pstep (tabG N E) N (prun (tabG N E) N k) k := rfl
    rw [hs]
    generalize prun (tabG N E) N k = s at *
    obtain ⟨m, P⟩ := s
    simp only [] at ih
    unfold pstep
    by_cases hm : m.getD k false = true
    · rw [if_pos hm]
      refine ⟨ih.len, ih.cover, fun v hv => ?_, fun i p hp => ?_, ih.rise, ih.once⟩
      · by_cases e : v = k
        · subst e; exact hm
        · exact ih.asked v (by omega)
      · obtain ⟨v, h1, h2⟩ := ih.part i p hp
        exact ⟨v, by omega, h2⟩
    · rw [if_neg hm]
      simp only []
      have hkN : k < N := by omega
      have hself := Rch.rfl_ (E := E) hg hkN
      have hclosed : ∀ u w, u < N → w < N → m.getD u false = true → Rch N E u w → m.getD w false = true := fun u w hu hw h1 h2 => by
        obtain ⟨i, p, hp, hx⟩ := (ih.cover u hu).1 h1
        obtain ⟨v, hv, rfl, _⟩ := ih.part i p hp
        rw [reachN_mem] at hx
        exact (ih.cover w hw).2 ⟨i, _, hp, reachN_mem.2 ⟨hw, Rch.trans_ hg (by omega) hu hw hx.2 h2⟩⟩
      have hnew : ∀ w, w < N → Rch N E k w → m.getD w false = false := fun w hw h => by
        cases hc : m.getD w false with
        | false => rfl
        | true => exact absurd (hclosed w k hw hkN hc (Rch.symm_ hg hkN hw h)) hm
      have hfirst : (reachN (distOf (tabG N E) N k) N)[0]? = some (k : Int) := by
        have hkm : (k : Int) ∈ reachN (distOf (tabG N E) N k) N := reachN_mem.2 ⟨hkN, hself⟩
        obtain ⟨j, hj⟩ := List.getElem?_of_mem hkm
        obtain ⟨hjl, hje⟩ := List.getElem?_eq_some_iff.1 hj
        by_cases h0 : j = 0
        · subst h0; exact hj
        · exfalso
          have hup := reachN_up (distOf (tabG N E) N k) N
          rw [List.pairwise_iff_getElem] at hup
          have hlt := hup 0 j (by omega) hjl (by omega)
          have hmem := List.getElem_mem (show 0 < (reachN (distOf (tabG N E) N k) N).length by omega)
          generalize (reachN (distOf (tabG N E) N k) N)[0] = y at *
          obtain ⟨w, rfl⟩ := reachN_all hmem
          rw [reachN_mem] at hmem
          have := ih.asked w (by omega)
          rw [hnew w hmem.1 hmem.2] at this
          cases this
      have hcase : ∀ (i : Nat) (p : List Int), (P ++ [reachN (distOf (tabG N E) N k) N])[i]? = some p → (i < P.length ∧ P[i]? = some p) ∨ (i = P.length ∧ p = reachN (distOf (tabG N E) N k) N) := fun i p h => by
        have hl := (List.getElem?_eq_some_iff.1 h).1
        simp only [List.length_append, List.length_singleton] at hl
        by_cases hi : i < P.length
        · rw [List.getElem?_append_left hi] at h
          exact .inl ⟨hi, h⟩
        · obtain rfl : i = P.length := by omega
          rw [List.getElem?_append_right (Nat.le_refl _), Nat.sub_self] at h
          simp at h
          exact .inr ⟨rfl, h.symm⟩
      refine ⟨by rw [metN_length]; exact ih.len, fun w hw => ?_, fun v hv => ?_, fun i p hp => ?_, fun i j p q x y hij hp hq hx hy => ?_, fun i j p q x hp hq hx hy => ?_⟩
      · rw [metN_getD (by rw [ih.len]; exact hw)]
        simp only [Bool.or_eq_true, Bool.and_eq_true, decide_eq_true_eq]
        constructor
        · rintro (h | h)
          · obtain ⟨i, p, hp, hx⟩ := (ih.cover w hw).1 h
            exact ⟨i, p, by rw [List.getElem?_append_left (List.getElem?_eq_some_iff.1 hp).1]; exact hp, hx⟩
          · exact ⟨P.length, _, by rw [List.getElem?_append_right (Nat.le_refl _), Nat.sub_self]; rfl, reachN_mem.2 h⟩
        · rintro ⟨i, p, hp, hx⟩
          rcases hcase i p hp with ⟨_, h⟩ | ⟨_, rfl⟩
          · exact .inl ((ih.cover w hw).2 ⟨i, p, h, hx⟩)
          · exact .inr (reachN_mem.1 hx)
      · rw [metN_getD (by rw [ih.len]; omega)]
        by_cases e : v = k
        · subst e
          have : decide (0 ≤ gd (distOf (tabG N E) N v) v) = true := decide_eq_true hself
          simp [hkN, this]
        · rw [ih.asked v (by omega)]; rfl
      · rcases hcase i p hp with ⟨_, h⟩ | ⟨_, rfl⟩
        · obtain ⟨v, h1, h2⟩ := ih.part i p h
          exact ⟨v, by omega, h2⟩
        · exact ⟨k, by omega, rfl, hfirst⟩
      · rcases hcase i p hp with ⟨_, h⟩ | ⟨hi, rfl⟩
        · rcases hcase j q hq with ⟨_, h'⟩ | ⟨_, rfl⟩
          · exact ih.rise i j p q x y hij h h' hx hy
          · obtain ⟨v, h1, _, h3⟩ := ih.part i p h
            rw [h3] at hx
            rw [hfirst] at hy
            injection hx with hx
            injection hy with hy
            omega
        · rcases hcase j q hq with ⟨_, h'⟩ | ⟨_, rfl⟩ <;> omega
      · have hdis : ∀ (i : Nat) (p : List Int) (x : Int), P[i]? = some p → x ∈ p → x ∈ reachN (distOf (tabG N E) N k) N → False := fun i p x h hx hy => by
          obtain ⟨w, rfl⟩ := reachN_all hy
          rw [reachN_mem] at hy
          have := (ih.cover w hy.1).2 ⟨i, p, h, hx⟩
          rw [hnew w hy.1 hy.2] at this
          cases this
        rcases hcase i p hp with ⟨_, h⟩ | ⟨hi, rfl⟩
        · rcases hcase j q hq with ⟨_, h'⟩ | ⟨_, rfl⟩
          · exact ih.once i j p q x h h' hx hy
          · exact (hdis i p x h hx hy).elim
        · rcases hcase j q hq with ⟨_, h'⟩ | ⟨hj, rfl⟩
          · exact (hdis j q x h' hy hx).elim
          · omega
end Go.Proofs.Ytlkddjpjhchjfaa
