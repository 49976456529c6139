/- Pure: a permutation done again and again; its cycles (layer 3). -/
import Derived.Test.YtgldlanfbkgfjaaP2
namespace Go.Proofs.Ytgldlanfbkgfjaa
open Go.RowKit

/-- Where one comes to from v, p done k times. -/
def it (p : List Nat) (v : Nat) : Nat → Nat
  | 0 => v
  | k + 1 => gn p (it p v k)
section
variable {n : Nat} {p : List Nat}
theorem it_lt (h : Perm n p) {v : Nat} (hv : v < n) : ∀ k, it p v k < n
  | 0 => hv
  | k + 1 => h.gn_lt (it_lt h hv k)
theorem it_add (p : List Nat) (v a : Nat) : ∀ b, it p (it p v a) b = it p v (a + b)
  | 0 => rfl
  | b + 1 => by show gn p (it p (it p v a) b) = gn p (it p v (a + b)); rw [it_add p v a b]
theorem it_inj (h : Perm n p) {u v : Nat} (hu : u < n) (hv : v < n) : ∀ k, it p u k = it p v k → u = v
  | 0, e => e
  | k + 1, e => it_inj h hu hv k (h.inj (it_lt h hu k) (it_lt h hv k) e)
theorem it_back (h : Perm n p) {v : Nat} (hv : v < n) : ∃ k, k < n ∧ it p v (k + 1) = v := by
  apply Classical.byContradiction
  intro hno
  have h1 : ((List.range (n + 1)).map (it p v)).Nodup := by
    rw [List.Nodup, List.pairwise_map]
    refine List.Pairwise.imp_of_mem ?_ (List.pairwise_lt_range (n := n + 1))
    intro a b ha hb hab e
    rw [List.mem_range] at ha hb
    apply hno
    obtain ⟨d, rfl⟩ : ∃ d, b = a + d := ⟨b - a, by omega⟩
    have h2 : it p v a = it p (it p v d) a := by rw [it_add, Nat.add_comm d a]; exact e
    have h3 := it_inj h hv (it_lt h hv d) a h2
    obtain ⟨c, rfl⟩ : ∃ c, d = c + 1 := ⟨d - 1, by omega⟩
    exact ⟨c, by omega, h3.symm⟩
  have := nod_le n _ h1 (fun x hx => by
    obtain ⟨k, _, rfl⟩ := List.mem_map.1 hx
    exact it_lt h hv k)
  simp at this
  omega
/-- How many steps lead from v back to it. -/
def per (p : List Nat) (v : Nat) : Nat := ((List.range p.length).find? (fun k => decide (it p v (k + 1) = v))).getD 0 + 1
theorem per_pos (p : List Nat) (v : Nat) : 1 ≤ per p v := by unfold per; omega
theorem per_spec (h : Perm n p) {v : Nat} (hv : v < n) : per p v ≤ n ∧ it p v (per p v) = v ∧ ∀ k, 0 < k → k < per p v → it p v k ≠ v := by
  obtain ⟨k, hk, e⟩ := it_back h hv
  unfold per
  rw [h.len]
  cases hf : (List.range n).find? (fun k => decide (it p v (k + 1) = v)) with
  | none =>
    rw [List.find?_eq_none] at hf
    exact absurd (decide_eq_true e) (hf k (List.mem_range.2 hk))
  | some m =>
    rw [List.find?_range_eq_some] at hf
    obtain ⟨h1, h2, h3⟩ := hf
    rw [List.mem_range] at h2
    refine ⟨by simp; omega, by simpa using h1, fun j hj0 hj => ?_⟩
    have := h3 (j - 1) (by simp at hj; omega)
    rw [show j - 1 + 1 = j by omega] at this
    simpa using this
theorem it_per (h : Perm n p) {v : Nat} (hv : v < n) : it p v (per p v) = v := (per_spec h hv).2.1
theorem it_mul (h : Perm n p) {v : Nat} (hv : v < n) : ∀ m, it p v (per p v * m) = v
  | 0 => rfl
  | m + 1 => by rw [Nat.mul_succ, ← it_add, it_mul h hv m, it_per h hv]
theorem it_mod (h : Perm n p) {v : Nat} (hv : v < n) (k : Nat) : it p v k = it p v (k % per p v) := by
  have e : k = per p v * (k / per p v) + k % per p v := (Nat.div_add_mod ..).symm
  have h1 : it p v k = it p v (per p v * (k / per p v) + k % per p v) := congrArg _ e
  rw [h1, ← it_add, it_mul h hv]
theorem it_eq_self (h : Perm n p) {v : Nat} (hv : v < n) (k : Nat) : it p v k = v ↔ k % per p v = 0 := by
  constructor
  · intro e
    rw [it_mod h hv] at e
    apply Classical.byContradiction
    intro hne
    exact (per_spec h hv).2.2 _ (by omega) (Nat.mod_lt _ (per_pos p v)) e
  · intro e
    rw [it_mod h hv, e]
    rfl
theorem per_it (h : Perm n p) {v : Nat} (hv : v < n) (k : Nat) : per p (it p v k) = per p v := by
  unfold per
  have e : (fun j => decide (it p (it p v k) (j + 1) = it p v k)) = fun j => decide (it p v (j + 1) = v) := by
    funext j
    congr 1
    rw [it_add, Nat.add_comm, ← it_add, eq_iff_iff]
    exact ⟨fun e => it_inj h (it_lt h hv _) hv k e, fun e => by rw [e]⟩
  rw [e]
theorem it_inj_lt (h : Perm n p) {v a b : Nat} (hv : v < n) (ha : a < per p v) (hb : b < per p v) (e : it p v a = it p v b) : a = b := by
  have key : ∀ a b, a ≤ b → b < per p v → it p v a = it p v b → a = b := by
    intro a b hab hb e
    obtain ⟨d, rfl⟩ : ∃ d, b = a + d := ⟨b - a, by omega⟩
    have h2 : it p v a = it p (it p v d) a := by rw [it_add, Nat.add_comm d a]; exact e
    have h3 := it_inj h hv (it_lt h hv d) a h2
    by_cases hd : d = 0
    · omega
    · exact absurd h3.symm ((per_spec h hv).2.2 d (by omega) (by omega))
  rcases Nat.le_total a b with h1 | h1
  · exact key a b h1 hb e
  · exact (key b a h1 ha e.symm).symm
/-- v's cycle, from v on. -/
def orb (p : List Nat) (v : Nat) : List Nat := (List.range (per p v)).map (it p v)
theorem orb_length (p : List Nat) (v : Nat) : (orb p v).length = per p v := by simp [orb]
theorem orb_at {p : List Nat} {v k : Nat} (h : k < per p v) : (orb p v)[k]? = some (it p v k) := by simp [orb, h]
theorem gn_orb {p : List Nat} {v k : Nat} (h : k < per p v) : gn (orb p v) k = it p v k := by simp [gn, List.getD, orb_at h]
theorem mem_orb (h : Perm n p) {u v : Nat} (hu : u < n) : v ∈ orb p u ↔ ∃ k, it p u k = v := by
  unfold orb
  rw [List.mem_map]
  constructor
  · rintro ⟨k, _, e⟩; exact ⟨k, e⟩
  · rintro ⟨k, e⟩
    exact ⟨k % per p u, List.mem_range.2 (Nat.mod_lt _ (per_pos p u)), by rw [← it_mod h hu]; exact e⟩
theorem orb_self (h : Perm n p) {v : Nat} (hv : v < n) : v ∈ orb p v := (mem_orb h hv).2 ⟨0, rfl⟩
theorem orb_lt (h : Perm n p) {u v : Nat} (hu : u < n) (hm : v ∈ orb p u) : v < n := by
  obtain ⟨k, rfl⟩ := (mem_orb h hu).1 hm
  exact it_lt h hu k
theorem orb_sym (h : Perm n p) {u v : Nat} (hu : u < n) (hm : v ∈ orb p u) : u ∈ orb p v := by
  have hv := orb_lt h hu hm
  obtain ⟨k, rfl⟩ := (mem_orb h hu).1 hm
  refine (mem_orb h hv).2 ⟨per p u * k - k, ?_⟩
  rw [it_add]
  have hk : k ≤ per p u * k := Nat.le_mul_of_pos_left k (per_pos p u)
  rw [show k + (per p u * k - k) = per p u * k by omega]
  exact it_mul h hu k
theorem orb_trans (h : Perm n p) {u v x : Nat} (hu : u < n) (hv : v ∈ orb p u) (hx : x ∈ orb p v) : x ∈ orb p u := by
  have hvn := orb_lt h hu hv
  obtain ⟨k, rfl⟩ := (mem_orb h hu).1 hv
  obtain ⟨j, rfl⟩ := (mem_orb h hvn).1 hx
  exact (mem_orb h hu).2 ⟨k + j, (it_add p u k j).symm⟩
theorem orb_nodup (h : Perm n p) {v : Nat} (hv : v < n) : (orb p v).Nodup := by
  unfold orb
  rw [List.Nodup, List.pairwise_map]
  refine List.Pairwise.imp_of_mem ?_ List.pairwise_lt_range
  intro a b ha hb hab e
  rw [List.mem_range] at ha hb
  have := it_inj_lt h hv ha hb e
  omega
/-- Is it the least of its cycle? -/
def leastB (p : List Nat) (v : Nat) : Bool := decide (∀ x ∈ orb p v, v ≤ x)
/-- The cycles of those whose first thing is one of the first ones. -/
def cycs (p : List Nat) (f : Nat) : List (List Nat) := ((List.range f).filter (leastB p)).map (orb p)
theorem cycs_yes {p : List Nat} {f : Nat} (h : leastB p f = true) : cycs p (f + 1) = cycs p f ++ [orb p f] := by
  unfold cycs; rw [List.range_succ, List.filter_append, List.map_append]; simp [h]
theorem cycs_no {p : List Nat} {f : Nat} (h : leastB p f = false) : cycs p (f + 1) = cycs p f := by
  unfold cycs; rw [List.range_succ, List.filter_append, List.map_append]; simp [h]
theorem mem_cycs {p : List Nat} {f : Nat} {c : List Nat} : c ∈ cycs p f ↔ ∃ v, v < f ∧ leastB p v = true ∧ c = orb p v := by
  unfold cycs
  rw [List.mem_map]
  constructor
  · rintro ⟨v, hv, rfl⟩
    rw [List.mem_filter, List.mem_range] at hv
    exact ⟨v, hv.1, hv.2, rfl⟩
  · rintro ⟨v, h1, h2, rfl⟩
    exact ⟨v, List.mem_filter.2 ⟨List.mem_range.2 h1, h2⟩, rfl⟩
/-- The marks: all of the cycles of the first f ones, and k things of f's. -/
def mk (p : List Nat) (f k : Nat) : List Bool := (List.range 200).map fun v => decide ((∃ u, u < f ∧ v ∈ orb p u) ∨ v ∈ (List.range k).map (it p f))
theorem mk_length (p : List Nat) (f k : Nat) : (mk p f k).length = 200 := by simp [mk]
theorem mk_at {p : List Nat} {f k v : Nat} (h : v < 200) : (mk p f k)[v]? = some (decide ((∃ u, u < f ∧ v ∈ orb p u) ∨ v ∈ (List.range k).map (it p f))) := by
  unfold mk
  rw [List.getElem?_map, List.getElem?_range h]
  rfl
theorem mk_zero (p : List Nat) : mk p 0 0 = List.replicate 200 false := by
  apply List.ext_getElem?
  intro i
  by_cases h : i < 200
  · rw [mk_at h, List.getElem?_replicate, if_pos h, decide_eq_false]
    rintro (⟨u, h1, _⟩ | h1)
    · omega
    · simp at h1
  · rw [List.getElem?_eq_none (by rw [mk_length]; omega), List.getElem?_eq_none (by rw [List.length_replicate]; omega)]
theorem mk_step (p : List Nat) (f k : Nat) : (mk p f k).set (it p f k) true = mk p f (k + 1) := by
  apply List.ext_getElem?
  intro i
  by_cases h : i < 200
  · rw [mk_at h]
    by_cases e : i = it p f k
    · subst e
      rw [List.getElem?_set_self (by rw [mk_length]; exact h)]
      congr 1
      symm
      rw [decide_eq_true_iff]
      exact .inr (List.mem_map.2 ⟨k, List.mem_range.2 (by omega), rfl⟩)
    · rw [List.getElem?_set_ne (fun e2 => e e2.symm), mk_at h]
      have hm : i ∈ (List.range (k + 1)).map (it p f) ↔ i ∈ (List.range k).map (it p f) := by
        rw [List.range_succ, List.map_append, List.mem_append]
        simp [e]
      rw [decide_eq_decide.2 (or_congr Iff.rfl hm)]
  · rw [List.getElem?_eq_none (by rw [List.length_set, mk_length]; omega), List.getElem?_eq_none (by rw [mk_length]; omega)]
theorem mk_next (p : List Nat) (f : Nat) : mk p f (per p f) = mk p (f + 1) 0 := by
  apply List.ext_getElem?
  intro i
  by_cases h : i < 200
  · rw [mk_at h, mk_at h]
    congr 2
    rw [eq_iff_iff]
    constructor
    · rintro (⟨u, h1, h2⟩ | h1)
      · exact .inl ⟨u, by omega, h2⟩
      · exact .inl ⟨f, by omega, h1⟩
    · rintro (⟨u, h1, h2⟩ | h1)
      · by_cases e : u = f
        · subst e; exact .inr h2
        · exact .inl ⟨u, by omega, h2⟩
      · simp at h1
  · rw [List.getElem?_eq_none (by rw [mk_length]; omega), List.getElem?_eq_none (by rw [mk_length]; omega)]
theorem not_least (h : Perm n p) {f : Nat} (hf : f < n) (hl : leastB p f = false) : ∃ u, u < f ∧ u ∈ orb p f ∧ f ∈ orb p u := by
  unfold leastB at hl
  rw [decide_eq_false_iff_not] at hl
  apply Classical.byContradiction
  intro hno
  apply hl
  intro x hx
  apply Classical.byContradiction
  intro hlt
  exact hno ⟨x, by omega, hx, orb_sym h hf hx⟩
theorem mk_skip (h : Perm n p) {f : Nat} (hf : f < n) (hl : leastB p f = false) : mk p f 0 = mk p (f + 1) 0 := by
  obtain ⟨u0, hu0, hm0, hm1⟩ := not_least h hf hl
  apply List.ext_getElem?
  intro i
  by_cases hi : i < 200
  · rw [mk_at hi, mk_at hi]
    congr 2
    rw [eq_iff_iff]
    constructor
    · rintro (⟨u, h1, h2⟩ | h1)
      · exact .inl ⟨u, by omega, h2⟩
      · simp at h1
    · rintro (⟨u, h1, h2⟩ | h1)
      · by_cases e : u = f
        · subst e; exact .inl ⟨u0, hu0, orb_trans h (by omega) hm1 h2⟩
        · exact .inl ⟨u, by omega, h2⟩
      · simp at h1
  · rw [List.getElem?_eq_none (by rw [mk_length]; omega), List.getElem?_eq_none (by rw [mk_length]; omega)]
theorem met_skip (h : Perm n p) {f : Nat} (hf : f < n) (hn : n ≤ 200) (hl : leastB p f = false) : (mk p f 0)[f]? = some true := by
  obtain ⟨u0, hu0, hm0, hm1⟩ := not_least h hf hl
  rw [mk_at (by omega)]
  congr 1
  rw [decide_eq_true_iff]
  exact .inl ⟨u0, hu0, hm1⟩
theorem met_no (h : Perm n p) {f k : Nat} (hf : f < n) (hn : n ≤ 200) (hl : leastB p f = true) (hk : k < per p f) : (mk p f k)[it p f k]? = some false := by
  have h1 := it_lt h hf k
  rw [mk_at (by omega)]
  congr 1
  rw [decide_eq_false_iff_not]
  rintro (⟨u, hu, hm⟩ | hm)
  · have h2 : it p f k ∈ orb p f := (mem_orb h hf).2 ⟨k, rfl⟩
    have h3 : u ∈ orb p (it p f k) := orb_sym h (by omega) hm
    have h4 := orb_trans h hf h2 h3
    unfold leastB at hl
    have := (of_decide_eq_true hl) u h4
    omega
  · obtain ⟨j, hj, e⟩ := List.mem_map.1 hm
    rw [List.mem_range] at hj
    have := it_inj_lt h hf (by omega) hk e
    omega
theorem met_yes (h : Perm n p) {f : Nat} (hf : f < n) (hn : n ≤ 200) : (mk p f (per p f))[it p f (per p f)]? = some true := by
  rw [it_per h hf, mk_at (by omega)]
  congr 1
  rw [decide_eq_true_iff]
  exact .inr (orb_self h hf)
end
end Go.Proofs.Ytgldlanfbkgfjaa
