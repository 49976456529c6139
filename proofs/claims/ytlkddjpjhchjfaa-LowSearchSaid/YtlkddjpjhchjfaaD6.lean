/- To be come to, by steps and by how far it is; a graph without a vertex' edges (pure; layer 5). -/
import Derived.Test.YtlkddjpjhchjfaaD2
import Derived.Test.YtlkddjpjhchjfaaW25
import Derived.Test.YtlkddjpjhchjfaaW31
namespace Go.Proofs.Ytlkddjpjhchjfaa
set_option maxRecDepth 100000
open Go.RowKit

theorem Dist.con {T : List (List Int)} {N fr : Nat} {ds : List Int} (h : Dist T N fr ds) (hf : fr < N) (hb : ∀ u v, adj T u v → v < N) {v : Nat} (hv : v < N) : 0 ≤ gd ds v ↔ Con (adj T) fr v := by
  constructor
  · intro h0
    have key : ∀ (k : Nat) (v : Nat), v < N → gd ds v = (k : Int) → Con (adj T) fr v := by
      intro k
      induction k with
      | zero =>
        intro v hv e
        rw [h.only v hv e]
        exact .refl _
      | succ k ih =>
        intro v hv e
        obtain ⟨u, h1, h2, h3⟩ := h.from_ v hv (by omega)
        exact (ih u h1 (by omega)).step h2
    exact key (gd ds v).toNat v hv (by omega)
  · intro hc
    have key : ∀ {x : Nat}, Con (adj T) fr x → x < N ∧ 0 ≤ gd ds x := fun {x} hc => by
      induction hc with
      | refl => exact ⟨hf, by rw [h.zero]; exact Int.le_refl _⟩
      | step _ e ih => exact ⟨hb _ _ e, (h.step _ ih.1 ih.2 _ e).1⟩
    exact (key hc).2
theorem rch_con {N : Nat} {E : List (Int × Int)} (hg : rightG (N : Nat) E = true) {u v : Nat} (hu : u < N) (hv : v < N) : Rch N E u v ↔ Con (adj (tabG N E)) u v :=
  (dist_is hg hu).con hu (fun a b h => by
    obtain ⟨y, e, hy⟩ := tabG_mem hg h
    omega) hv
/-- A graph's edges that do not end at a vertex. -/
def offE (v : Nat) (E : List (Int × Int)) : List (Int × Int) := E.filter fun e => !(e.1 == (v : Int) || e.2 == (v : Int))
theorem adj_lt {N : Nat} {E : List (Int × Int)} (hg : rightG (N : Nat) E = true) {a b : Nat} (h : adj (tabG N E) a b) : a < N ∧ b < N := by
  have key : ∀ a b, adj (tabG N E) a b → b < N := fun a b h => by
    obtain ⟨y, e, hy⟩ := tabG_mem hg h
    omega
  exact ⟨key b a (tabG_sym hg h), key a b h⟩
theorem off_adj {N v : Nat} {E : List (Int × Int)} (hg : rightG (N : Nat) E = true) (hg' : rightG (N : Nat) (offE v E) = true) (a b : Nat) : adj (tabG N (offE v E)) a b ↔ Wo (adj (tabG N E)) v a b := by
  by_cases hab : a < N ∧ b < N
  · obtain ⟨ha, hb⟩ := hab
    unfold Wo
    rw [← hasG_adj hg' ha hb, ← hasG_adj hg ha hb]
    unfold hasG offE
    rw [decide_eq_true_iff, decide_eq_true_iff, List.mem_filter]
    refine and_congr_right fun _ => ?_
    simp only [Bool.not_eq_true', Bool.or_eq_false_iff, beq_eq_false_iff_ne]
    constructor
    · rintro ⟨h1, h2⟩
      constructor <;> intro e <;> subst e <;> omega
    · rintro ⟨h1, h2⟩
      constructor <;> omega
  · constructor
    · intro h
      exact absurd (adj_lt hg' h) hab
    · intro h
      exact absurd (adj_lt hg h.1) hab
theorem Con.mono {E E' : Nat → Nat → Prop} (h : ∀ a b, E a b → E' a b) {a b : Nat} (hc : Con E a b) : Con E' a b := by
  induction hc with
  | refl => exact .refl _
  | step _ e ih => exact ih.step (h _ _ e)
theorem Con.congr {E E' : Nat → Nat → Prop} (h : ∀ a b, E a b ↔ E' a b) {a b : Nat} : Con E a b ↔ Con E' a b := ⟨Con.mono (fun a b => (h a b).1), Con.mono (fun a b => (h a b).2)⟩
/-- To be come to in a graph without a vertex' edges. -/
theorem rch_off {N v : Nat} {E : List (Int × Int)} (hg : rightG (N : Nat) E = true) (hg' : rightG (N : Nat) (offE v E) = true) {a b : Nat} (ha : a < N) (hb : b < N) : Rch N (offE v E) a b ↔ Con (Wo (adj (tabG N E)) v) a b :=
  (rch_con hg' ha hb).trans (Con.congr (off_adj hg hg'))
end Go.Proofs.Ytlkddjpjhchjfaa
