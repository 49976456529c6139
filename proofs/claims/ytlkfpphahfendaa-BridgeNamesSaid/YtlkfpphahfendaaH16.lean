/- The reference of layer 8: Fragments. -/
import Derived.Test.YtlkfpphahfendaaH15
import Derived.Test.YtlkfpphahfendaaU7
import Derived.Test.YtlkfpphahfendaaW40
import Derived.Deep.RegionHeld3
import Derived.StillTailTactics
namespace Go.Proofs.Ytlkfpphahfendaa
set_option maxRecDepth 100000
open Go.RowKit

theorem rightG_pw8 {N : Int} {E : List (Int × Int)} (h : rightG N E = true) : E.Pairwise fun a b => cmpP a b < 0 := by
  have ho := rightG_ord h
  rw [List.pairwise_iff_getElem]
  intro i j hi hj hij
  have := ho i j hij hj
  rwa [show E.getD i (0, 0) = E[i] by simp [List.getD, hi], show E.getD j (0, 0) = E[j] by simp [List.getD, hj]] at this
theorem rightG_of8 {N : Int} {E : List (Int × Int)} (h0 : 0 ≤ N ∧ N ≤ 200) (hl : E.length ≤ 594) (he : ∀ e ∈ E, 0 ≤ e.1 ∧ e.1 < e.2 ∧ e.2 < N) (hp : E.Pairwise fun a b => cmpP a b < 0) : rightG N E = true := by
  refine rightG_yes ⟨h0.1, h0.2, hl⟩ fun k hk => ?_
  unfold okE edgeG
  rw [Bool.and_eq_true, Bool.or_eq_true, show E.getD k (0, 0) = E[k] by simp [List.getD, hk]]
  refine ⟨by simpa using he _ (List.getElem_mem hk), ?_⟩
  by_cases h1 : k = 0
  · left; simpa using h1
  · right
    rw [show E.getD (k - 1) (0, 0) = E[k - 1] by rw [List.getD_eq_getElem?_getD, List.getElem?_eq_getElem (by omega)]; rfl]
    rw [List.pairwise_iff_getElem] at hp
    simpa using hp (k - 1) k (by omega) hk (by omega)
/-- A web is met whole just if it is right, and its edges are edges. -/
theorem web_ok {N : Int} {E W : List (Int × Int)} (h : rightG N E = true) : (leftP W E E.length).2 = W.length ↔ rightG N W = true ∧ ∀ e ∈ W, e ∈ E := by
  constructor
  · intro h1
    obtain ⟨h2, _⟩ := leftP_rest (rightG_nodup h) h1
    obtain ⟨b1, b2, b3⟩ := rightG_bounds h
    refine ⟨rightG_of8 ⟨b1, b2⟩ (Nat.le_trans h2.length_le b3) (fun e he => ?_) ((rightG_pw8 h).sublist h2), fun e he => h2.subset he⟩
    obtain ⟨q, hq⟩ := List.getElem?_of_mem (h2.subset he)
    exact rightG_edge h hq
  · rintro ⟨h1, h2⟩
    refine leftP_all (R := fun a b => cmpP a b < 0) (fun x hx => ?_) (fun x y h3 h4 => ?_) (rightG_pw8 h) (rightG_pw8 h1) h2
    · rw [(cmpP_zero x x).2 rfl] at hx
      omega
    · have := cmpP_trans h3 h4
      rw [(cmpP_zero x x).2 rfl] at this
      omega
/-- The program's answer is the reference's. -/
theorem fragsF_ref {n : Nat} {E W : List (Int × Int)} (h : rightG (n : Nat) E = true) (hok : (leftP W E E.length).2 = W.length) : fragsF n E W = (refS W E n E.length).1 := by
  obtain ⟨_, h2⟩ := leftP_rest (rightG_nodup h) hok
  have hin : ∀ e ∈ E, 0 ≤ e.1 ∧ e.1 < e.2 ∧ e.2 < n := fun e he => by
    obtain ⟨q, hq⟩ := List.getElem?_of_mem he
    exact rightG_edge h hq
  have hin2 : ∀ e ∈ (leftP W E E.length).1, 0 ≤ e.1 ∧ e.1 < n ∧ 0 ≤ e.2 ∧ e.2 < n := fun e he => by
    rw [h2] at he
    have := hin e (List.mem_filter.1 he).1
    omega
  have hR : Rest n W E (leftP W E E.length).1 (fun v => (rT (onW W) (leftP W E E.length).1 n (leftP W E E.length).1.length).getD v 0) :=
    ⟨hin, rightG_nodup h, h2, rT_lt _ _ n hin2 _, rT_iff _ _ n hin2 _⟩
  rw [refS_all hR]
  rfl
theorem refS_len (W E : List (Int × Int)) (n : Nat) : ∀ k, (refS W E n k).1.length ≤ k ∧ (refS W E n k).2.length ≤ k * E.length
  | 0 => by simp [refS]
  | k + 1 => by
    have ih := refS_len W E n k
    have hm : (k + 1) * E.length = k * E.length + E.length := Nat.succ_mul _ _
    cases he : E[k]? with
    | none =>
      have : refS W E n (k + 1) = refS W E n k := by
        show (match E[k]? with | none => _ | some e => _) = _
        rw [he]
      rw [this]
      omega
    | some e =>
      by_cases h : e ∈ W ∨ e ∈ (refS W E n k).2
      · rw [refS_old he h]
        omega
      · rw [refS_new he h]
        have h2 : (grp W E e).length ≤ E.length := by unfold grp; exact List.length_filter_le _ _
        simp only [List.length_append, List.length_cons, List.length_nil]
        omega
theorem Frags.push {w w2 w8 : World} {base g2 cap2 k : Nat} {V u v : Value} {fr : List (Value × Value)} {F : List (List (Int × Int) × List Int)} {x : List (Int × Int) × List Int} (h : Frags w base V fr F) (hk : k = F.length) (hb : Below w.heap.size w w2) (hg : w2.grownBy w8 V.ownBlock)
    (hE : w.ownsRow base 44 2 u x.1.length (pcells x.1)) (hF : w.ownsRow base 3 1 v x.2.length (zs x.2)) (aE : ∀ p ∈ fr, ∀ g, p.1.ownBlock = some g → u.ownBlock ≠ some g) (aF : ∀ p ∈ fr, ∀ g, p.2.ownBlock = some g → v.ownBlock ≠ some g)
    (hr : w8.ownsRow base 43 2 (.slice (some ⟨g2, 0, none⟩) (k + 1) cap2) (k + 1) (fcells fr ++ [u, v])) :
    Frags w8 base (.slice (some ⟨g2, 0, none⟩) (k + 1) cap2) (fr ++ [(u, v)]) (F ++ [x]) := by
  subst hk
  have hold : ∀ k, k < w.heap.size → some k ≠ V.ownBlock → w8.heap[k]? = w.heap[k]? := fun k hk hn => (hg.block k (Nat.lt_of_lt_of_le hk hb.size) hn).trans (hb.block k hk)
  have hcase : ∀ (j : Nat) (p : Value × Value) (y : List (Int × Int) × List Int), (fr ++ [(u, v)])[j]? = some p → (F ++ [x])[j]? = some y → (fr[j]? = some p ∧ F[j]? = some y) ∨ (p = (u, v) ∧ y = x) := by
    intro j p y a b
    by_cases hj : j < F.length
    · rw [List.getElem?_append_left (by have := h.len; omega)] at a
      rw [List.getElem?_append_left hj] at b
      exact .inl ⟨a, b⟩
    · have hjl := (List.getElem?_eq_some_iff.1 b).1
      simp only [List.length_append, List.length_singleton] at hjl
      have : j = F.length := by omega
      subst this
      rw [List.getElem?_append_right (Nat.le_refl _), Nat.sub_self] at b
      rw [List.getElem?_append_right (by rw [h.len]; exact Nat.le_refl _), h.len, Nat.sub_self] at a
      simp at a b
      exact .inr ⟨a.symm, b.symm⟩
  have hone : ∀ (j : Nat) (p : Value × Value), (fr ++ [(u, v)])[j]? = some p → (j < fr.length ∧ fr[j]? = some p) ∨ (j = fr.length ∧ p = (u, v)) := by
    intro j p a
    by_cases hj : j < fr.length
    · rw [List.getElem?_append_left hj] at a
      exact .inl ⟨hj, a⟩
    · have hjl := (List.getElem?_eq_some_iff.1 a).1
      simp only [List.length_append, List.length_singleton] at hjl
      have : j = fr.length := by omega
      subst this
      rw [List.getElem?_append_right (Nat.le_refl _), Nat.sub_self] at a
      simp at a
      exact .inr ⟨rfl, a.symm⟩
  refine ⟨?_, by simp [h.len], fun j p y a b => ?_, fun j p y a b => ?_, fun i j p q g hij a b e => ?_, fun i j p q g hij a b e => ?_⟩
  · rw [fcells_snoc]
    simpa using hr
  · rcases hcase j p y a b with ⟨a, b⟩ | ⟨rfl, rfl⟩
    · have ho := h.edges j p y a b
      exact own_same ho fun k e1 e2 _ => hold k e2 fun e3 => own_typ ho h.row (by decide) e1 e3.symm
    · exact own_same hE fun k e1 e2 _ => hold k e2 fun e3 => own_typ hE h.row (by decide) e1 e3.symm
  · rcases hcase j p y a b with ⟨a, b⟩ | ⟨rfl, rfl⟩
    · have ho := h.feet j p y a b
      exact own_same ho fun k e1 e2 _ => hold k e2 fun e3 => own_typ ho h.row (by decide) e1 e3.symm
    · exact own_same hF fun k e1 e2 _ => hold k e2 fun e3 => own_typ hF h.row (by decide) e1 e3.symm
  · rcases hone i p a with ⟨_, a⟩ | ⟨i1, rfl⟩
    · rcases hone j q b with ⟨_, b⟩ | ⟨_, rfl⟩
      · exact h.aE i j p q g hij a b e
      · exact aE p (List.mem_of_getElem? a) g e
    · rcases hone j q b with ⟨_, b⟩ | ⟨j1, rfl⟩
      · exact fun e2 => aE q (List.mem_of_getElem? b) g e2 e
      · omega
  · rcases hone i p a with ⟨_, a⟩ | ⟨i1, rfl⟩
    · rcases hone j q b with ⟨_, b⟩ | ⟨_, rfl⟩
      · exact h.aF i j p q g hij a b e
      · exact aF p (List.mem_of_getElem? a) g e
    · rcases hone j q b with ⟨_, b⟩ | ⟨j1, rfl⟩
      · exact fun e2 => aF q (List.mem_of_getElem? b) g e2 e
      · omega
/-- What the reference holds between two rounds. -/
structure RI (base : Nat) (W E : List (Int × Int)) (n k : Nat) (Vd Vo : Value) (fr : List (Value × Value)) (w : World) : Prop where
  d : w.ownsRow base 44 2 Vd (refS W E n k).2.length (pcells (refS W E n k).2)
  f : Frags w base Vo fr (refS W E n k).1
  ap : ∀ p ∈ fr, ∀ g, p.1.ownBlock = some g → Vd.ownBlock ≠ some g
theorem RI.below {base : Nat} {W E : List (Int × Int)} {n k : Nat} {Vd Vo : Value} {fr : List (Value × Value)} {w w' : World} (h : RI base W E n k Vd Vo fr w) (hb : Below w.heap.size w w') : RI base W E n k Vd Vo fr w' := ⟨row_below h.d hb, h.f.below hb, h.ap⟩
theorem Frags.edge_lt {w : World} {base : Nat} {V : Value} {fr : List (Value × Value)} {F : List (List (Int × Int) × List Int)} (h : Frags w base V fr F) {p : Value × Value} (hp : p ∈ fr) {g : Nat} : (p.1.ownBlock = some g → g < w.heap.size) ∧ (p.2.ownBlock = some g → g < w.heap.size) := by
  obtain ⟨j, hj⟩ := List.getElem?_of_mem hp
  obtain ⟨y, hy⟩ : ∃ y, F[j]? = some y := ⟨_, List.getElem?_eq_getElem (by have := (List.getElem?_eq_some_iff.1 hj).1; have := h.len; omega)⟩
  exact ⟨fun e => ((h.edges j p y hj hy).lt g e).2, fun e => ((h.feet j p y hj hy).lt g e).2⟩
/-- Edges that are done are put behind. -/
theorem RI.done {base : Nat} {W E : List (Int × Int)} {n k l g6 c6 : Nat} {Vd Vo : Value} {fr : List (Value × Value)} {w w6 : World} {G : List (Int × Int)} (h : RI base W E n k Vd Vo fr w) (hg : w.grownBy w6 Vd.ownBlock) (hr : w6.ownsRow base 44 2 (.slice (some ⟨g6, 0, none⟩) l c6) l (pcells ((refS W E n k).2 ++ G))) (hor : Vd.ownBlock = some g6 ∨ g6 = w.heap.size) :
    Frags w6 base Vo fr (refS W E n k).1 ∧ ∀ p ∈ fr, ∀ g, p.1.ownBlock = some g → (Value.slice (some ⟨g6, 0, none⟩) l c6).ownBlock ≠ some g := by
  constructor
  · refine ⟨own_same h.f.row fun q e1 e2 _ => hg.block q e2 fun e3 => own_typ h.f.row h.d (by decide) e1 e3.symm, h.f.len, fun j p x a b => own_same (h.f.edges j p x a b) fun q e1 e2 _ => hg.block q e2 fun e3 => h.ap p (List.mem_of_getElem? a) q e1 e3.symm,
      fun j p x a b => own_same (h.f.feet j p x a b) fun q e1 e2 _ => hg.block q e2 fun e3 => own_typ (h.f.feet j p x a b) h.d (by decide) e1 e3.symm, h.f.aE, h.f.aF⟩
  · intro p hp g e e2
    have e2 : g6 = g := by simpa [Value.ownBlock] using e2
    subst e2
    rcases hor with h1 | h1
    · exact h.ap p hp _ e h1
    · have := (h.f.edge_lt hp).1 e
      omega
end Go.Proofs.Ytlkfpphahfendaa
