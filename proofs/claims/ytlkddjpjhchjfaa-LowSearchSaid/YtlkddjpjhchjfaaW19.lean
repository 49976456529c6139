/- How far it is from both ends, and along an edge (no world here). -/
import Derived.Test.YtlkddjpjhchjfaaW16
namespace Go.Proofs.Ytlkddjpjhchjfaa
set_option maxRecDepth 100000

theorem Dist.tri {T : List (List Int)} {N a b : Nat} {ds es : List Int} (h : Dist T N a ds) (k : Dist T N b es) (sym : ∀ u v, adj T u v → adj T v u) : ∀ (n x : Nat), x < N → gd ds x = (n : Int) → 0 ≤ gd es x → 0 ≤ gd es a ∧ gd es a ≤ gd es x + n
  | 0, x, hx, e, h0 => by
    obtain rfl := h.only x hx e
    omega
  | n + 1, x, hx, e, h0 => by
    obtain ⟨u, hu, ha, e2⟩ := h.from_ x hx (by omega)
    have h1 := k.step x hx h0 u (sym _ _ ha)
    have h2 := Dist.tri h k sym n u hu (by omega) h1.1
    omega
theorem Dist.both {T : List (List Int)} {N a b : Nat} {ds es : List Int} (h : Dist T N a ds) (k : Dist T N b es) (sym : ∀ u v, adj T u v → adj T v u) (ha : a < N) (hb : b < N) : gd ds b = gd es a := by
  have h1 : 0 ≤ gd ds b → 0 ≤ gd es a ∧ gd es a ≤ gd ds b := fun h0 => by
    obtain ⟨n, hn⟩ := Int.eq_ofNat_of_zero_le h0
    have := Dist.tri h k sym n b hb hn (by rw [k.zero]; exact Int.le_refl _)
    rw [k.zero] at this
    omega
  have h2 : 0 ≤ gd es a → 0 ≤ gd ds b ∧ gd ds b ≤ gd es a := fun h0 => by
    obtain ⟨n, hn⟩ := Int.eq_ofNat_of_zero_le h0
    have := Dist.tri k h sym n a ha hn (by rw [h.zero]; exact Int.le_refl _)
    rw [h.zero] at this
    omega
  have h3 := h.low b hb
  have h4 := k.low a ha
  by_cases h5 : 0 ≤ gd ds b
  · have := h1 h5; have := h2 this.1; omega
  · by_cases h6 : 0 ≤ gd es a
    · have := h2 h6; omega
    · omega
theorem edge_adj {N : Nat} {E : List (Int × Int)} {k p q : Nat} (hg : rightG (N : Nat) E = true) (he : E[k]? = some ((p : Int), (q : Int))) : adj (tabG N E) p q ∧ adj (tabG N E) q p ∧ p < q ∧ q < N := by
  have h := rightG_mem hg (List.mem_of_getElem? he)
  simp only [] at h
  refine ⟨?_, ?_, by omega, by omega⟩
  · unfold adj; rw [tabG_getD, if_pos (by omega)]; exact mem_bes (.inl (List.mem_of_getElem? he))
  · unfold adj; rw [tabG_getD, if_pos (by omega)]; exact mem_bes (.inr ⟨List.mem_of_getElem? he, by omega⟩)
theorem Dist.edge {T : List (List Int)} {N a : Nat} {ds : List Int} (h : Dist T N a ds) {p q : Nat} (hp : p < N) (hq : q < N) (h1 : adj T p q) (h2 : adj T q p) (hle : gd ds p ≤ gd ds q) : gd ds q - gd ds p ≤ 1 ∧ (gd ds p < 0 → gd ds q < 0) := by
  have a1 := h.step p hp
  have a2 := h.step q hq
  have l1 := h.low p hp
  have l2 := h.low q hq
  by_cases h0 : 0 ≤ gd ds p
  · have := a1 h0 q h1; omega
  · by_cases h3 : 0 ≤ gd ds q
    · have := a2 h3 p h2; omega
    · omega
/-- What the row 'nearer' holds behind k edges. -/
def Near (E : List (Int × Int)) (ds : List Int) (N k : Nat) (ns : List Bool) : Prop :=
  ns.length = N ∧ ∀ (j p q v : Nat), j < k → E[j]? = some ((p : Int), (q : Int)) → (q = v ∧ gd ds v = gd ds p + 1 ∨ p = v ∧ gd ds v = gd ds q + 1) → ns.getD v false = true
theorem Near.start (E : List (Int × Int)) (ds : List Int) (N : Nat) : Near E ds N 0 (List.replicate N false) := ⟨by simp, fun j p q v hj => absurd hj (by omega)⟩
theorem Near.next {E : List (Int × Int)} {ds : List Int} {N k lo hi : Nat} {ns : List Bool} (h : Near E ds N k ns) (hhi : hi < N) (he : E[k]? = some ((lo : Int), (hi : Int)) ∨ E[k]? = some ((hi : Int), (lo : Int))) (hle : gd ds lo ≤ gd ds hi) :
    Near E ds N (k + 1) (ns.set hi (ns.getD hi false || gd ds hi == gd ds lo + 1)) := by
  refine ⟨by rw [List.length_set]; exact h.1, fun j p q v hj hE hc => ?_⟩
  have hlen := h.1
  have hset : ∀ (b : Bool), (ns.set hi b).getD v false = if hi = v then b else ns.getD v false := by
    intro b
    simp only [List.getD, List.getElem?_set]
    split <;> simp_all
  rw [hset]
  by_cases hjk : j < k
  · have := h.2 j p q v hjk hE hc
    split
    · rename_i e; subst e; rw [this]; rfl
    · exact this
  · obtain rfl : j = k := by omega
    rcases he with he | he
    · rw [he] at hE
      injection hE with hE
      injection hE with e1 e2
      obtain rfl : lo = p := by omega
      obtain rfl : hi = q := by omega
      rcases hc with ⟨rfl, hc⟩ | ⟨rfl, hc⟩
      · rw [if_pos rfl, hc]; simp
      · omega
    · rw [he] at hE
      injection hE with hE
      injection hE with e1 e2
      obtain rfl : hi = p := by omega
      obtain rfl : lo = q := by omega
      rcases hc with ⟨rfl, hc⟩ | ⟨rfl, hc⟩
      · omega
      · rw [if_pos rfl, hc]; simp
theorem Near.all {E : List (Int × Int)} {ds : List Int} {N a : Nat} {ns : List Bool} (h : Near E ds N E.length ns) (hg : rightG (N : Nat) E = true) (hD : Dist (tabG N E) N a ds) {v : Nat} (hv : v < N) (h0 : 0 < gd ds v) : ns.getD v false = true := by
  obtain ⟨u, hu, ha, he⟩ := hD.from_ v hv h0
  unfold adj at ha
  rw [tabG_getD, if_pos hu] at ha
  rcases bes_mem ha with hm | hm
  · obtain ⟨j, hj⟩ := List.getElem?_of_mem hm
    exact h.2 j u v v (List.getElem?_eq_some_iff.1 hj).1 hj (.inl ⟨rfl, by omega⟩)
  · obtain ⟨j, hj⟩ := List.getElem?_of_mem hm
    exact h.2 j v u v (List.getElem?_eq_some_iff.1 hj).1 hj (.inr ⟨rfl, by omega⟩)
end Go.Proofs.Ytlkddjpjhchjfaa
