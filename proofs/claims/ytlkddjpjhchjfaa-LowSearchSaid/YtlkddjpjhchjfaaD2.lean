/- The forest of all walks of a graph (pure; layer 5). -/
import Derived.Test.YtlkddjpjhchjfaaD1
import Derived.Test.YtlkddjpjhchjfaaW36
namespace Go.Proofs.Ytlkddjpjhchjfaa
set_option maxRecDepth 100000

/-- What is known when the first k vertices are met: all that are met, in their order, and from whom. -/
structure NI (T : List (List Int)) (N k : Nat) (A : List Nat) (U : Nat → Option Nat) : Prop where
  nod : A.Nodup
  lt : ∀ v ∈ A, v < N
  done : ∀ v, v < k → v < N → v ∈ A
  closed : ∀ v ∈ A, ∀ w, adj T v w → w ∈ A
  ups : ∀ v u, U v = some u → adj T u v ∧ ∃ i j : Nat, i < j ∧ A[i]? = some u ∧ A[j]? = some v
  edge : ∀ a b, a ∈ A → adj T a b → Desc U b a ∨ Desc U a b
def stepU (s : St) (U : Nat → Option Nat) (v : Nat) : Option Nat := if v ∈ s.order then (if 0 ≤ gd s.up v then some (gd s.up v).toNat else none) else U v
/-- From whom a vertex was met, as it is told. -/
def upZ (U : Nat → Option Nat) (v : Nat) : Int := match U v with | none => -1 | some u => (u : Int)
theorem upZ_step {T : List (List Int)} {N fr v : Nat} {s : St} {U : Nat → Option Nat} (h : Dfs T N fr s) (hv : v ∈ s.order) (hN : v < N) : upZ (stepU s U) v = gd s.up v := by
  unfold upZ stepU
  rw [if_pos hv]
  have := h.low v hN
  by_cases h0 : 0 ≤ gd s.up v
  · rw [if_pos h0]
    show (((gd s.up v).toNat : Nat) : Int) = _
    omega
  · rw [if_neg h0]
    show (-1 : Int) = _
    omega
theorem NI.start (T : List (List Int)) (N : Nat) : NI T N 0 [] (fun _ => none) := ⟨List.nodup_nil, (fun v h => by cases h), (fun v h => by omega), (fun v h => by cases h), (fun v u h => by cases h), fun a b h => by cases h⟩
theorem NI.skip {T : List (List Int)} {N k : Nat} {A : List Nat} {U : Nat → Option Nat} (h : NI T N k A U) (hk : k ∈ A) : NI T N (k + 1) A U :=
  ⟨h.nod, h.lt, fun v hv hN => by
    by_cases e : v = k
    · rw [e]; exact hk
    · exact h.done v (by omega) hN, h.closed, h.ups, h.edge⟩
theorem desc_mono {A : List Nat} {U U' : Nat → Option Nat} (hin : ∀ v u, U v = some u → v ∈ A) (hs : ∀ v, v ∈ A → U' v = U v) {x y : Nat} (h : Desc U x y) : Desc U' x y := by
  induction h with
  | refl => exact .refl _
  | step e _ ih => exact .step (by rw [hs _ (hin _ _ e)]; exact e) ih
theorem anc_desc {up : List Int} {U' : Nat → Option Nat} {order : List Nat} (hin : ∀ x p : Nat, x ∈ order → gd up x = (p : Int) → p ∈ order) (hU : ∀ x ∈ order, ∀ p : Nat, gd up x = (p : Int) → U' x = some p) : ∀ (t v u : Nat), v ∈ order → Anc up t v u → Desc U' v u
  | 0, v, u, _, h => by
    have h : v = u := h
    rw [h]
    exact .refl u
  | t + 1, v, u, hv, ⟨p, h1, h2⟩ => .step (hU v hv p h1) (anc_desc hin hU t p u (hin v p hv h1) h2)
theorem NI.step {T : List (List Int)} {N k : Nat} {A : List Nat} {U : Nat → Option Nat} (sym : ∀ a b, adj T a b → adj T b a) (h : NI T N k A U) (hk : k ∉ A) {s : St} (hs : Dfs T N k s) (hl : s.list = []) : NI T N (k + 1) (A ++ s.order) (stepU s U) := by
  have hout : ∀ (i v : Nat), s.order[i]? = some v → v ∉ A := by
    intro i
    induction i using Nat.strongRecOn with
    | ind i ih =>
      intro v hv hA
      by_cases h0 : i = 0
      · subst h0
        rw [hs.first] at hv
        injection hv with hv
        subst hv
        exact hk hA
      · obtain ⟨u, _, h2, h3, _⟩ := hs.par i v (by omega) hv
        obtain ⟨j, hj⟩ := List.getElem?_of_mem h2
        have hjl := (List.getElem?_eq_some_iff.1 hj).1
        rw [List.length_take] at hjl
        rw [List.getElem?_take_of_lt (by omega)] at hj
        exact ih j (by omega) u hj (h.closed v hA u (sym _ _ h3))
  have hdis : ∀ v ∈ s.order, v ∉ A := fun v hv => by
    obtain ⟨i, hi⟩ := List.getElem?_of_mem hv
    exact hout i v hi
  have hfin : ∀ v ∈ s.order, ∀ w, adj T v w → w ∈ s.order := fun v hv w ha => hs.fin v hv (by rw [hl]; simp) w ha
  have hAU : ∀ v, v ∈ A → stepU s U v = U v := fun v hv => by
    unfold stepU
    rw [if_neg (fun hh => hdis v hh hv)]
  have hUin : ∀ v u, U v = some u → v ∈ A := fun v u e => by
    obtain ⟨_, i, j, _, _, h3⟩ := h.ups v u e
    exact List.mem_of_getElem? h3
  have hoU : ∀ x ∈ s.order, ∀ p : Nat, gd s.up x = (p : Int) → stepU s U x = some p := fun x hx p e => by
    unfold stepU
    rw [if_pos hx, if_pos (by omega), e]
    rfl
  have hkN : k ∈ s.order := List.mem_of_getElem? hs.first
  refine ⟨?_, ?_, ?_, ?_, ?_, ?_⟩
  · rw [List.nodup_append]
    exact ⟨h.nod, hs.nod, fun a ha b hb e => hdis b hb (by rw [← e]; exact ha)⟩
  · intro v hv
    rcases List.mem_append.1 hv with hv | hv
    · exact h.lt v hv
    · exact hs.good.inO v hv
  · intro v hv hN
    by_cases e : v = k
    · rw [e]; exact List.mem_append.2 (.inr hkN)
    · exact List.mem_append.2 (.inl (h.done v (by omega) hN))
  · intro v hv w ha
    rcases List.mem_append.1 hv with hv | hv
    · exact List.mem_append.2 (.inl (h.closed v hv w ha))
    · exact List.mem_append.2 (.inr (hfin v hv w ha))
  · intro v u e
    by_cases hv : v ∈ s.order
    · unfold stepU at e
      rw [if_pos hv] at e
      by_cases h0 : 0 ≤ gd s.up v
      · rw [if_pos h0] at e
        injection e with e
        obtain ⟨i, hi⟩ := List.getElem?_of_mem hv
        have hi0 : 0 < i := by
          rcases Nat.eq_zero_or_pos i with e0 | e0
          · subst e0
            rw [hs.first] at hi
            injection hi with hi
            subst hi
            have := hs.root
            omega
          · exact e0
        obtain ⟨q, h1, h2, h3, _⟩ := hs.par i v hi0 hi
        have hq : q = u := by omega
        subst hq
        obtain ⟨j, hj⟩ := List.getElem?_of_mem h2
        have hjl := (List.getElem?_eq_some_iff.1 hj).1
        rw [List.length_take] at hjl
        rw [List.getElem?_take_of_lt (by omega)] at hj
        refine ⟨h3, A.length + j, A.length + i, by omega, ?_, ?_⟩
        · rw [List.getElem?_append_right (by omega), Nat.add_sub_cancel_left]; exact hj
        · rw [List.getElem?_append_right (by omega), Nat.add_sub_cancel_left]; exact hi
      · rw [if_neg h0] at e; cases e
    · unfold stepU at e
      rw [if_neg hv] at e
      obtain ⟨h1, i, j, h2, h3, h4⟩ := h.ups v u e
      have hil := (List.getElem?_eq_some_iff.1 h3).1
      have hjl := (List.getElem?_eq_some_iff.1 h4).1
      exact ⟨h1, i, j, h2, by rw [List.getElem?_append_left hil]; exact h3, by rw [List.getElem?_append_left hjl]; exact h4⟩
  · intro a b ha hab
    rcases List.mem_append.1 ha with ha | ha
    · exact (h.edge a b ha hab).elim (fun d => .inl (desc_mono hUin hAU d)) (fun d => .inr (desc_mono hUin hAU d))
    · have hb := hfin a ha b hab
      obtain ⟨i, hi⟩ := List.getElem?_of_mem ha
      obtain ⟨j, hj⟩ := List.getElem?_of_mem hb
      have hin : ∀ x p : Nat, x ∈ s.order → gd s.up x = (p : Int) → p ∈ s.order := fun x p hx e => hs.up_in hx e
      rcases Nat.lt_trichotomy i j with h1 | h1 | h1
      · obtain ⟨t, ht⟩ := hs.anc i j a b h1 hi hj hab
        exact .inl (anc_desc hin hoU t b a hb ht)
      · subst h1
        rw [hi] at hj
        injection hj with hj
        subst hj
        exact .inl (.refl _)
      · obtain ⟨t, ht⟩ := hs.anc j i b a h1 hj hi (sym _ _ hab)
        exact .inr (anc_desc hin hoU t a b ha ht)
/-- When a vertex was met, from 1 on. -/
def numF (A : List Nat) (v : Nat) : Nat := A.idxOf v + 1
theorem idx_at {A : List Nat} (hn : A.Nodup) {i v : Nat} (h : A[i]? = some v) : A.idxOf v = i := by
  obtain ⟨hl, e⟩ := List.getElem?_eq_some_iff.1 h
  rw [← e]
  exact hn.idxOf_getElem i hl
theorem NI.forest {T : List (List Int)} {N : Nat} {A : List Nat} {U : Nat → Option Nat} (hT : Tab T N) (sym : ∀ a b, adj T a b → adj T b a) (irr : ∀ a, ¬ adj T a a) (h : NI T N N A U) : Forest N (adj T) U (numF A) :=
  ⟨sym, fun a b hab => ⟨hT.lt (sym _ _ hab), hT.lt hab⟩, irr, fun v u e => by
    obtain ⟨h1, i, j, h2, h3, h4⟩ := h.ups v u e
    refine ⟨?_, h1⟩
    unfold numF
    rw [idx_at h.nod h3, idx_at h.nod h4]
    omega, fun a b hab => h.edge a b (h.done a (hT.lt (sym _ _ hab)) (hT.lt (sym _ _ hab))) hab⟩
end Go.Proofs.Ytlkddjpjhchjfaa
