/- How far vertices are: what a search holds to, step by step (no world here). -/
import Derived.Test.YtlkddjpjhchjfaaRG
namespace Go.Proofs.Ytlkddjpjhchjfaa
set_option maxRecDepth 100000

def gd (ds : List Int) (v : Nat) : Int := ds.getD v 0
def adj (T : List (List Int)) (u v : Nat) : Prop := (v : Int) ∈ T.getD u []
/-- What 'how far' is. -/
structure Dist (T : List (List Int)) (N fr : Nat) (ds : List Int) : Prop where
  len : ds.length = N
  low : ∀ v, v < N → -1 ≤ gd ds v
  zero : gd ds fr = 0
  only : ∀ v, v < N → gd ds v = 0 → v = fr
  from_ : ∀ v, v < N → 0 < gd ds v → ∃ u, u < N ∧ adj T u v ∧ gd ds u = gd ds v - 1
  step : ∀ u, u < N → 0 ≤ gd ds u → ∀ v, adj T u v → 0 ≤ gd ds v ∧ gd ds v ≤ gd ds u + 1
def OkT (N : Nat) (T : List (List Int)) : Prop := T.length = N ∧ ∀ u v : Nat, (T.getD u []).contains (v : Int) = true → v < N

theorem Dist.le {T : List (List Int)} {N fr : Nat} {ds es : List Int} (h : Dist T N fr ds) (k : Dist T N fr es) : ∀ (n : Nat) (v : Nat), v < N → gd ds v = (n : Int) → 0 ≤ gd es v ∧ gd es v ≤ n
  | 0, v, hv, e => by
    obtain rfl := h.only v hv e
    rw [k.zero]; omega
  | n + 1, v, hv, e => by
    obtain ⟨u, hu, ha, e2⟩ := h.from_ v hv (by omega)
    obtain ⟨i1, i2⟩ := Dist.le h k n u hu (by omega)
    obtain ⟨i3, i4⟩ := k.step u hu i1 v ha
    omega
/-- There is one alone. -/
theorem Dist.eq {T : List (List Int)} {N fr : Nat} {ds es : List Int} (h : Dist T N fr ds) (k : Dist T N fr es) : ds = es := by
  apply List.ext_getElem?
  intro v
  by_cases hv : v < N
  · have e1 : ds[v]? = some (gd ds v) := by
      have hl : v < ds.length := by rw [h.len]; exact hv
      rw [List.getElem?_eq_getElem hl]
      simp [gd, List.getD, List.getElem?_eq_getElem hl]
    have e2 : es[v]? = some (gd es v) := by
      have hl : v < es.length := by rw [k.len]; exact hv
      rw [List.getElem?_eq_getElem hl]
      simp [gd, List.getD, List.getElem?_eq_getElem hl]
    rw [e1, e2]
    congr 1
    have l1 := h.low v hv
    have l2 := k.low v hv
    by_cases h1 : 0 ≤ gd ds v
    · obtain ⟨n, hn⟩ := Int.eq_ofNat_of_zero_le h1
      obtain ⟨a1, a2⟩ := h.le k n v hv hn
      obtain ⟨m, hm⟩ := Int.eq_ofNat_of_zero_le a1
      obtain ⟨b1, b2⟩ := k.le h m v hv hm
      omega
    · by_cases h2 : 0 ≤ gd es v
      · obtain ⟨m, hm⟩ := Int.eq_ofNat_of_zero_le h2
        obtain ⟨b1, b2⟩ := k.le h m v hv hm
        omega
      · omega
  · rw [List.getElem?_eq_none (by rw [h.len]; omega), List.getElem?_eq_none (by rw [k.len]; omega)]

theorem gd_set {ds : List Int} {w v : Nat} {x : Int} (hw : w < ds.length) : gd (ds.set w x) v = if v = w then x else gd ds v := by
  unfold gd List.getD
  by_cases h : v = w
  · subst h
    rw [List.getElem?_set_self hw]; simp
  · rw [List.getElem?_set_ne (fun e => h e.symm)]; simp [h]

/-- What holds of all that have been met. -/
structure Base (T : List (List Int)) (N fr : Nat) (out : List Int) (q : List Nat) : Prop where
  len : out.length = N
  low : ∀ v, v < N → -1 ≤ gd out v
  zero : gd out fr = 0
  only : ∀ v, v < N → gd out v = 0 → v = fr
  from_ : ∀ v, v < N → 0 < gd out v → ∃ u, u < N ∧ adj T u v ∧ gd out u = gd out v - 1
  met : ∀ v ∈ q, v < N ∧ 0 ≤ gd out v
  rise : q.Pairwise fun a b => gd out a ≤ gd out b
/-- Between two rounds. -/
structure Outer (T : List (List Int)) (N fr : Nat) (out : List Int) (q : List Nat) : Prop where
  base : Base T N fr out q
  done : ∀ u, u < N → 0 ≤ gd out u → u ∉ q → ∀ v, adj T u v → 0 ≤ gd out v ∧ gd out v ≤ gd out u + 1
  near : ∀ a r, q = a :: r → ∀ u, u < N → 0 ≤ gd out u → gd out u ≤ gd out a + 1
/-- Within a round, i of those beside x looked at. -/
structure Inner (T : List (List Int)) (N fr x : Nat) (out : List Int) (q : List Nat) (i : Nat) : Prop where
  base : Base T N fr out q
  here : x < N ∧ 0 ≤ gd out x
  done : ∀ u, u < N → 0 ≤ gd out u → u ∉ q → u ≠ x → ∀ v, adj T u v → 0 ≤ gd out v ∧ gd out v ≤ gd out u + 1
  seen : ∀ (j : Nat) (v : Nat), j < i → (T.getD x [])[j]? = some (v : Int) → 0 ≤ gd out v ∧ gd out v ≤ gd out x + 1
  bnd : ∀ a ∈ q, gd out x ≤ gd out a
  near : ∀ u, u < N → 0 ≤ gd out u → gd out u ≤ gd out x + 1

theorem outer_start (T : List (List Int)) {N fr : Nat} (hf : fr < N) : Outer T N fr ((List.replicate N (-1)).set fr 0) [fr] := by
  have hg : ∀ v, v < N → gd ((List.replicate N (-1)).set fr 0) v = if v = fr then 0 else -1 := by
    intro v hv
    rw [gd_set (by simpa using hf)]
    by_cases h : v = fr
    · simp [h]
    · simp [h, gd, List.getD, hv]
  refine ⟨⟨by simp, fun v hv => ?_, ?_, fun v hv h => ?_, fun v hv h => ?_, fun v hv => ?_, List.pairwise_singleton _ _⟩, fun u hu h hq => ?_, fun a r e u hu h => ?_⟩
  · rw [hg v hv]; split <;> omega
  · rw [hg fr hf]; simp
  · rw [hg v hv] at h
    split at h
    · assumption
    · omega
  · rw [hg v hv] at h
    split at h <;> omega
  · have := List.mem_singleton.1 hv
    subst this
    exact ⟨hf, by rw [hg _ hf]; simp⟩
  · rw [hg u hu] at h
    split at h
    · rename_i e; subst e; simp at hq
    · omega
  · have e1 := (List.cons.inj e).1
    subst e1
    rw [hg u hu] at h ⊢
    rw [hg _ hf]
    split at h
    · simp; split <;> omega
    · omega
theorem Outer.open_ {T : List (List Int)} {N fr x : Nat} {out : List Int} {q : List Nat} (h : Outer T N fr out (x :: q)) : Inner T N fr x out q 0 := by
  obtain ⟨b, d, n⟩ := h
  obtain ⟨r1, r2⟩ := List.pairwise_cons.1 b.rise
  exact ⟨⟨b.len, b.low, b.zero, b.only, b.from_, fun v hv => b.met v (List.mem_cons_of_mem _ hv), r2⟩, b.met x (by simp), fun u hu h hq hx => d u hu h (by simp [hx, hq]), fun j v hj => absurd hj (by omega), fun a ha => r1 a ha, fun u hu h => n x q rfl u hu h⟩
theorem Inner.skip {T : List (List Int)} {N fr x i v : Nat} {out : List Int} {q : List Nat} (h : Inner T N fr x out q i) (hv : (T.getD x [])[i]? = some (v : Int)) (hN : v < N) (h0 : 0 ≤ gd out v) : Inner T N fr x out q (i + 1) := by
  refine ⟨h.base, h.here, h.done, fun j w hj hw => ?_, h.bnd, h.near⟩
  by_cases e : j = i
  · subst e
    rw [hv] at hw
    have hvw : v = w := by injection hw with hw; omega
    subst hvw
    exact ⟨h0, h.near v hN h0⟩
  · exact h.seen j w (by omega) hw
theorem Inner.push {T : List (List Int)} {N fr x i v : Nat} {out : List Int} {q : List Nat} (h : Inner T N fr x out q i) (hv : (T.getD x [])[i]? = some (v : Int)) (hN : v < N) (h0 : gd out v < 0) :
    Inner T N fr x (out.set v (gd out x + 1)) (q ++ [v]) (i + 1) := by
  have hl : v < out.length := by rw [h.base.len]; exact hN
  have hg : ∀ u, gd (out.set v (gd out x + 1)) u = if u = v then gd out x + 1 else gd out u := fun u => gd_set hl
  have hx := h.here.2
  have hxv : x ≠ v := fun e => by subst e; omega
  have hfv : fr ≠ v := fun e => by have := h.base.zero; subst e; omega
  have hadj : adj T x v := by
    unfold adj
    exact List.mem_of_getElem? hv
  have hqv : ∀ a ∈ q, a ≠ v := fun a ha e => by have := (h.base.met a ha).2; subst e; omega
  refine ⟨⟨by rw [List.length_set]; exact h.base.len, fun u hu => ?_, ?_, fun u hu e => ?_, fun u hu e => ?_, fun a ha => ?_, ?_⟩, ?_, fun u hu e hq hne w ha => ?_, fun j w hj hw => ?_, fun a ha => ?_, fun u hu e => ?_⟩
  · rw [hg]; have := h.base.low u hu; split <;> omega
  · rw [hg, if_neg hfv]; exact h.base.zero
  · rw [hg] at e
    split at e
    · omega
    · exact h.base.only u hu e
  · rw [hg] at e ⊢
    split at e
    · rename_i e1
      subst e1
      refine ⟨x, h.here.1, hadj, ?_⟩
      rw [hg, if_neg hxv, if_pos rfl]; omega
    · rename_i e1
      obtain ⟨y, y1, y2, y3⟩ := h.base.from_ u hu e
      refine ⟨y, y1, y2, ?_⟩
      have hyv : y ≠ v := fun e2 => by subst e2; omega
      rw [hg, if_neg hyv, if_neg e1]; exact y3
  · rcases List.mem_append.1 ha with h1 | h1
    · have := h.base.met a h1
      exact ⟨this.1, by rw [hg, if_neg (hqv a h1)]; exact this.2⟩
    · have := List.mem_singleton.1 h1
      subst this
      exact ⟨hN, by rw [hg, if_pos rfl]; omega⟩
  · rw [List.pairwise_append]
    refine ⟨?_, List.pairwise_singleton _ _, fun a ha b hb => ?_⟩
    · refine h.base.rise.imp_of_mem ?_
      intro a b ha hb hab
      rw [hg, hg, if_neg (hqv a ha), if_neg (hqv b hb)]
      exact hab
    · have := List.mem_singleton.1 hb
      subst this
      rw [hg, hg, if_neg (hqv a ha), if_pos rfl]
      exact h.near a (h.base.met a ha).1 (h.base.met a ha).2
  · exact ⟨h.here.1, by rw [hg, if_neg hxv]; exact hx⟩
  · have huv : u ≠ v := fun e1 => hq (by rw [e1]; simp)
    rw [hg, if_neg huv] at e
    obtain ⟨w1, w2⟩ := h.done u hu e (fun e1 => hq (List.mem_append.2 (.inl e1))) hne w ha
    have hwv : w ≠ v := fun e2 => by subst e2; omega
    rw [hg, hg, if_neg hwv, if_neg huv]
    exact ⟨w1, w2⟩
  · by_cases e : j = i
    · subst e
      rw [hv] at hw
      have hvw : v = w := by injection hw with hw; omega
      subst hvw
      rw [hg, hg, if_pos rfl, if_neg hxv]; omega
    · obtain ⟨w1, w2⟩ := h.seen j w (by omega) hw
      have hwv : w ≠ v := fun e2 => by subst e2; omega
      rw [hg, hg, if_neg hwv, if_neg hxv]
      exact ⟨w1, w2⟩
  · rw [hg, if_neg hxv]
    rcases List.mem_append.1 ha with h1 | h1
    · rw [hg, if_neg (hqv a h1)]; exact h.bnd a h1
    · have := List.mem_singleton.1 h1
      subst this
      rw [hg, if_pos rfl]; omega
  · rw [hg] at e
    rw [hg, hg, if_neg hxv]
    split
    · omega
    · rename_i e1
      rw [if_neg e1] at e
      exact h.near u hu e
theorem Inner.close {T : List (List Int)} {N fr x i : Nat} {out : List Int} {q : List Nat} (h : Inner T N fr x out q i) (hi : (T.getD x []).length ≤ i) : Outer T N fr out q := by
  refine ⟨h.base, fun u hu e hq v ha => ?_, fun a r e u hu e1 => ?_⟩
  · by_cases hux : u = x
    · subst hux
      obtain ⟨j, hj⟩ := List.getElem?_of_mem ha
      exact h.seen j v (by have := (List.getElem?_eq_some_iff.1 hj).1; omega) hj
    · exact h.done u hu e hq hux v ha
  · subst e
    have h1 := h.near u hu e1
    have h2 := h.bnd a (by simp)
    omega
theorem Outer.dist {T : List (List Int)} {N fr : Nat} {out : List Int} (h : Outer T N fr out []) : Dist T N fr out :=
  ⟨h.base.len, h.base.low, h.base.zero, h.base.only, h.base.from_, fun u hu e v ha => h.done u hu e (by simp) v ha⟩
/-- How many are not met yet. -/
def neg (out : List Int) : Nat := (out.filter fun x => decide (x < 0)).length
theorem neg_set : ∀ (out : List Int) (v : Nat) (y : Int), v < out.length → gd out v < 0 → 0 ≤ y → neg (out.set v y) + 1 = neg out
  | [], v, y, h, _, _ => absurd h (by simp)
  | x :: r, 0, y, _, h, hy => by
    have hx : x < 0 := h
    simp [neg, hx, show ¬ y < 0 by omega]
  | x :: r, v + 1, y, h, h0, hy => by
    have ih := neg_set r v y (by simpa using h) h0 hy
    unfold neg at ih ⊢
    simp only [List.set_cons_succ, List.filter_cons]
    split <;> (try simp only [List.length_cons]) <;> omega
end Go.Proofs.Ytlkddjpjhchjfaa
