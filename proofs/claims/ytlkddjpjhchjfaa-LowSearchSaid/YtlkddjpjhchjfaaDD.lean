/- What a search tells is one thing alone; a graph's blocks (pure; layer 5). -/
import Derived.Test.YtlkddjpjhchjfaaD4
import Derived.Test.YtlkddjpjhchjfaaD9
import Derived.Test.YtlkddjpjhchjfaaW25
import Derived.Test.YtlkddjpjhchjfaaUB
namespace Go.Proofs.Ytlkddjpjhchjfaa
set_option maxRecDepth 100000
open Go.RowKit

/-- The end of an edge that was met later. -/
def loE (A : List Nat) (e : Int × Int) : Nat := if numF A e.2.toNat < numF A e.1.toNat then e.1.toNat else e.2.toNat
/-- By which key an edge is told: where the block of its later end begins. -/
def bkey (A : List Nat) (O : List Int) (E : List (Int × Int)) (i : Nat) : Nat := (gd O (loE A (E.getD i (0, 0)))).toNat
theorem adj_irr {N : Nat} {E : List (Int × Int)} (hg : rightG (N : Nat) E = true) (a : Nat) : ¬ adj (tabG N E) a a := by
  intro h
  have ha : a < N := by
    obtain ⟨y, e, hy⟩ := tabG_mem hg h
    omega
  have h2 := (hasG_adj hg ha ha).2 h
  unfold hasG at h2
  rw [decide_eq_true_iff] at h2
  have := rightG_mem hg h2
  simp only at this
  omega
theorem NI.perm {T : List (List Int)} {N : Nat} {A : List Nat} {U : Nat → Option Nat} (h : NI T N N A U) : Perm N A := by
  have hl : A.length = N := by
    apply Nat.le_antisymm
    · exact nod_le N A h.nod h.lt
    · have h1 := nod_le A.length ((List.range N).map fun v => A.idxOf v) (by
        unfold List.Nodup
        rw [List.pairwise_map]
        refine List.Pairwise.imp_of_mem ?_ List.nodup_range
        intro a b ha hb hne e
        have ma := h.done a (List.mem_range.1 ha) (List.mem_range.1 ha)
        have mb := h.done b (List.mem_range.1 hb) (List.mem_range.1 hb)
        apply hne
        have e1 := List.getElem_idxOf (List.idxOf_lt_length_iff.2 ma)
        have e2 := List.getElem_idxOf (List.idxOf_lt_length_iff.2 mb)
        rw [← e1, ← e2]
        simp only [e]) (fun x hx => by
        obtain ⟨v, hv, rfl⟩ := List.mem_map.1 hx
        exact List.idxOf_lt_length_iff.2 (h.done v (List.mem_range.1 hv) (List.mem_range.1 hv)))
      simpa using h1
  exact ⟨hl, h.lt, h.nod⟩
/-- All that a search, and where blocks begin, tell. -/
structure BlkS (N : Nat) (E : List (Int × Int)) (A : List Nat) (U : Nat → Option Nat) (F : Nat → Nat) (O : List Int) : Prop where
  nr : NR (tabG N E) N N A U
  lf : ∀ v, LowFix (adj (tabG N E)) U (numF A) F v
  oi : OutI N A U F N O
section
variable {N : Nat} {E : List (Int × Int)} {A : List Nat} {U : Nat → Option Nat} {F : Nat → Nat} {O : List Int}
theorem NR.forest (hg : rightG (N : Nat) E = true) (h : NR (tabG N E) N N A U) : Forest N (adj (tabG N E)) U (numF A) :=
  h.toNI.forest (tab_is hg) (fun _ _ h => tabG_sym hg h) (adj_irr hg)
theorem NR.up_lt (hg : rightG (N : Nat) E = true) (h : NR (tabG N E) N N A U) {v u : Nat} (e : U v = some u) : u < N ∧ v < N := (h.forest hg).lt _ _ ((h.forest hg).ups _ _ e).2
theorem low_uniq {A' : List Nat} {U' : Nat → Option Nat} {F' : Nat → Nat} (hg : rightG (N : Nat) E = true) (h : NR (tabG N E) N N A U) (l : ∀ v, LowFix (adj (tabG N E)) U (numF A) F v) (h' : NR (tabG N E) N N A' U') (l' : ∀ v, LowFix (adj (tabG N E)) U' (numF A') F' v) : A = A' ∧ U = U' ∧ ∀ v, F v = F' v := by
  obtain ⟨rfl, rfl⟩ := h.met.uniq h'.met
  exact ⟨rfl, rfl, fun v => lowfix_eq (h.forest hg) l l' (M := A.length + 1) (numF_le A) v⟩
theorem BlkS.uniq {A' : List Nat} {U' : Nat → Option Nat} {F' : Nat → Nat} {O' : List Int} (hg : rightG (N : Nat) E = true) (h : BlkS N E A U F O) (g : BlkS N E A' U' F' O') : A = A' ∧ U = U' ∧ (∀ v, F v = F' v) ∧ O = O' := by
  obtain ⟨rfl, rfl, hF⟩ := low_uniq hg h.nr h.lf g.nr g.lf
  have hP := h.nr.toNI.perm
  have hall : ∀ v, v < N → v ∈ A.take N := fun v hv => by rw [List.take_of_length_le (by rw [hP.len]; omega)]; exact hP.mem hv
  have key : ∀ (k v : Nat), numF A v ≤ k → v < N → gd O v = gd O' v := by
    intro k
    induction k with
    | zero => intro v hv; unfold numF at hv; omega
    | succ k ih =>
      intro v hk hv
      cases hu : U v with
      | none => rw [h.oi.root v (hall v hv) hu, g.oi.root v (hall v hv) hu]
      | some u =>
        have hul := (h.nr.up_lt hg hu).1
        have h3 := ((h.nr.forest hg).ups _ _ hu).1
        by_cases hl : numF A u ≤ F v
        · rw [h.oi.yes v (hall v hv) u hu hl, g.oi.yes v (hall v hv) u hu (by rw [← hF]; exact hl)]
        · rw [h.oi.no v (hall v hv) u hu (by omega), g.oi.no v (hall v hv) u hu (by rw [← hF]; omega)]
          exact ih u (by omega) hul
  refine ⟨rfl, rfl, hF, ?_⟩
  apply List.ext_getElem?
  intro i
  by_cases hi : i < N
  · rw [gd_at O i (by rw [h.oi.len]; exact hi), gd_at O' i (by rw [g.oi.len]; exact hi), key _ i (Nat.le_refl _) hi]
  · rw [List.getElem?_eq_none (by rw [h.oi.len]; omega), List.getElem?_eq_none (by rw [g.oi.len]; omega)]
/-- Of which block an edge is. -/
theorem BlkS.cls (hg : rightG (N : Nat) E = true) (h : BlkS N E A U F O) {i x y : Nat} (he : E[i]? = some ((x : Int), (y : Int))) : Cls (adj (tabG N E)) U x y (bkey A O E i) := by
  have hP := h.nr.toNI.perm
  have Fo := h.nr.forest hg
  have hall : ∀ v, v < N → v ∈ A.take N := fun v hv => by rw [List.take_of_length_le (by rw [hP.len]; omega)]; exact hP.mem hv
  obtain ⟨out, hout⟩ : ∃ out : Nat → Nat, out = fun v => if v < N then (gd O v).toNat else v := ⟨_, rfl⟩
  have hlt : ∀ v u, U v = some u → u < N ∧ v < N := fun v u e => h.nr.up_lt hg e
  have hin : ∀ v, v < N → out v = (gd O v).toNat := fun v hv => by rw [hout]; simp [hv]
  have hbeg : ∀ v, Beg (adj (tabG N E)) U v (out v) := fun v =>
    beg_out Fo h.lf (M := A.length + 1) (numF_le A)
      (fun v e => by
        by_cases hv : v < N
        · rw [hin v hv, h.oi.root v (hall v hv) e]; omega
        · rw [hout]; simp [hv])
      (fun v u e hl => by
        have hv := (hlt v u e).2
        rw [hin v hv, h.oi.yes v (hall v hv) u e hl]; omega)
      (fun v u e hl => by
        have hv := hlt v u e
        rw [hin v hv.2, hin u hv.1, h.oi.no v (hall v hv.2) u e hl])
      (numF A v) v (Nat.le_refl _)
  have hed := rightG_mem hg (List.mem_of_getElem? he)
  simp only at hed
  have ha : adj (tabG N E) x y := by
    refine (hasG_adj hg (by omega) (by omega)).1 ?_
    unfold hasG
    rw [decide_eq_true_iff, show min (x : Int) (y : Int) = x by omega, show max (x : Int) (y : Int) = y by omega]
    exact List.mem_of_getElem? he
  have hc := Fo.cls_low hbeg ha
  have hl : bkey A O E i = out (if numF A y < numF A x then x else y) := by
    rw [hin _ (by split <;> omega)]
    unfold bkey loE
    rw [show E.getD i (0, 0) = ((x : Int), (y : Int)) by simp [List.getD, he]]
    simp only [Int.toNat_natCast]
  rw [hl]
  exact hc
end
/-- A graph's blocks. -/
noncomputable def blkG (N : Nat) (E : List (Int × Int)) : List (List (Int × Int)) := by
  classical
  exact if h : ∃ G : List (List (Int × Int)), ∃ A U F O, BlkS N E A U F O ∧ G = blkO E (bkey A O E) E.length then h.choose else []
theorem BlkS.blk {N : Nat} {E : List (Int × Int)} {A : List Nat} {U : Nat → Option Nat} {F : Nat → Nat} {O : List Int} (hg : rightG (N : Nat) E = true) (h : BlkS N E A U F O) : blkG N E = blkO E (bkey A O E) E.length := by
  have hex : ∃ G : List (List (Int × Int)), ∃ A U F O, BlkS N E A U F O ∧ G = blkO E (bkey A O E) E.length := ⟨_, A, U, F, O, h, rfl⟩
  unfold blkG
  rw [dif_pos hex]
  obtain ⟨A', U', F', O', h', e⟩ := hex.choose_spec
  obtain ⟨rfl, rfl, _, rfl⟩ := h.uniq hg h'
  exact e
end Go.Proofs.Ytlkddjpjhchjfaa
