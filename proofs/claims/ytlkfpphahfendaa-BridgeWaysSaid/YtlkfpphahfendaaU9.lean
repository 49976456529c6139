/- Beside no web: fragments and parts (pure, layer 8). -/
import Derived.Test.YtlkfpphahfendaaU5
import Derived.Test.YtlkfpphahfendaaU7
import Derived.Test.YtlkfpphahfendaaH16
import Derived.Test.YtlkfpphahfendaaW31
namespace Go.Proofs.Ytlkfpphahfendaa
set_option maxRecDepth 100000
open Go.RowKit

theorem onW_nil (v : Nat) : onW [] v = false := rfl
theorem none_rest {n : Nat} {E : List (Int × Int)} (hg : rightG (n : Nat) E = true) : Rest n [] E E (fun v => (rT (onW []) E n E.length).getD v 0) := by
  have hin : ∀ e ∈ E, 0 ≤ e.1 ∧ e.1 < e.2 ∧ e.2 < n := fun e he => by
    obtain ⟨q, hq⟩ := List.getElem?_of_mem he
    exact rightG_edge hg hq
  have hin2 : ∀ e ∈ E, 0 ≤ e.1 ∧ e.1 < n ∧ 0 ≤ e.2 ∧ e.2 < n := fun e he => by have := hin e he; omega
  exact ⟨hin, rightG_nodup hg, (List.filter_eq_self.2 (fun e _ => by simp)).symm, rT_lt _ _ n hin2 _, rT_iff _ _ n hin2 _⟩
theorem edge_rch8 {N : Nat} {E : List (Int × Int)} (hg : rightG (N : Nat) E = true) {p q : Nat} (hp : p < N) (h : adj (tabG N E) p q) : Rch N E p q := by
  have hd := dist_is hg hp
  have := hd.step p hp (by rw [hd.zero]; exact Int.le_refl _) q h
  exact this.1
/-- To hang together is to be come to. -/
theorem cn_rch {n : Nat} {E : List (Int × Int)} (hg : rightG (n : Nat) E = true) : ∀ (k u v : Nat), u < n → v < n → cnR (onW []) E k u v → Rch n E u v
  | 0, u, v, hu, hv, h => by
    have h : u = v := h
    subst h
    exact Rch.rfl_ hg hu
  | k + 1, u, v, hu, hv, h => by
    have ih := cn_rch hg k
    cases he : E[k]? with
    | none =>
      have h : (match E[k]? with | none => cnR (onW []) E k u v | some e => _) := h
      rw [he] at h
      exact ih u v hu hv h
    | some e =>
      obtain ⟨p, q, rfl, h1, h2, _, _⟩ := (none_rest hg).get he
      rw [cnR_off he rfl] at h
      obtain ⟨a1, a2, _, _⟩ := edge_adj hg he
      have e1 := edge_rch8 hg h1 a1
      have e2 := edge_rch8 hg h2 a2
      rcases h with h | ⟨c1, c2⟩ | ⟨c1, c2⟩
      · exact ih u v hu hv h
      · exact Rch.trans_ hg hu h1 hv (ih u p hu h1 c1) (Rch.trans_ hg h1 h2 hv e1 (Rch.symm_ hg hv h2 (ih v q hv h2 c2)))
      · exact Rch.trans_ hg hu h2 hv (ih u q hu h2 c1) (Rch.trans_ hg h2 h1 hv e2 (Rch.symm_ hg hv h1 (ih v p hv h1 c2)))
theorem adj_edge {n : Nat} {E : List (Int × Int)} (hg : rightG (n : Nat) E = true) {u v : Nat} (hu : u < n) (hv : v < n) (h : adj (tabG n E) u v) : ∃ (k p q : Nat), E[k]? = some ((p : Int), (q : Int)) ∧ (p = u ∧ q = v ∨ p = v ∧ q = u) := by
  have hh := (hasG_adj hg hu hv).2 h
  unfold hasG at hh
  rw [decide_eq_true_iff] at hh
  obtain ⟨k, hk⟩ := List.getElem?_of_mem hh
  rcases Nat.lt_or_ge u v with h1 | h1
  · refine ⟨k, u, v, ?_, .inl ⟨rfl, rfl⟩⟩
    rw [hk, show min (u : Int) v = u by omega, show max (u : Int) v = v by omega]
  · refine ⟨k, v, u, ?_, .inr ⟨rfl, rfl⟩⟩
    rw [hk, show min (u : Int) v = v by omega, show max (u : Int) v = u by omega]
theorem rch_root {n : Nat} {E : List (Int × Int)} {r : Nat → Nat} (hg : rightG (n : Nat) E = true) (hR : Rest n [] E E r) {u : Nat} (hu : u < n) : ∀ (d v : Nat), v < n → gd (distOf (tabG n E) n u) v = (d : Int) → r u = r v
  | 0, v, hv, h => by rw [(dist_is hg hu).only v hv h]
  | d + 1, v, hv, h => by
    obtain ⟨x, hx, ha, hd⟩ := (dist_is hg hu).from_ v hv (by omega)
    rw [rch_root hg hR hu d x hx (by omega)]
    obtain ⟨k, p, q, he, hc⟩ := adj_edge hg hx hv ha
    have hj := hR.joined he rfl rfl
    rcases hc with ⟨rfl, rfl⟩ | ⟨rfl, rfl⟩
    · exact hj
    · exact hj.symm
theorem root_rch {n : Nat} {E : List (Int × Int)} {r : Nat → Nat} (hg : rightG (n : Nat) E = true) (hR : Rest n [] E E r) {u v : Nat} (hu : u < n) (hv : v < n) : r u = r v ↔ Rch n E u v := by
  constructor
  · intro h
    exact cn_rch hg _ u v hu hv ((hR.iff u v hu hv).1 h)
  · intro h
    unfold Rch at h
    exact rch_root hg hR hu (gd (distOf (tabG n E) n u) v).toNat v hv (by omega)
theorem own_none {n : Nat} {E : List (Int × Int)} {r : Nat → Nat} (hR : Rest n [] E E r) {k p q : Nat} (he : E[k]? = some ((p : Int), (q : Int))) : ownF n (onW []) r E k = r p := (hR.own_end he (.inl rfl) rfl).1
/-- As many fragments as parts that have an edge. -/
theorem none_count {n : Nat} {E : List (Int × Int)} (hg : rightG (n : Nat) E = true) : (fragsF n E []).length = ((prun (tabG n E) n n).2.filter fun p => decide (1 < p.length)).length := by
  have hok : (leftP [] E E.length).2 = ([] : List (Int × Int)).length := (web_ok hg).2 ⟨rightG_of8 ⟨(rightG_bounds hg).1, (rightG_bounds hg).2.1⟩ (by simp) (by simp) List.Pairwise.nil, by simp⟩
  have hL : (leftP [] E E.length).1 = E := by
    rw [(leftP_rest (rightG_nodup hg) hok).2]
    simp
  have hR := none_rest hg
  unfold fragsF
  rw [hL]
  generalize (fun v => (rT (onW []) E n E.length).getD v 0) = r at hR ⊢
  rw [List.length_map, fragsO_length]
  have hI := pinv hg n (Nat.le_refl _)
  generalize (prun (tabG n E) n n).2 = P at hI ⊢
  generalize (prun (tabG n E) n n).1 = M at hI
  have e1 : (firsts (ownF n (onW []) r E) E.length).length = ((firsts (ownF n (onW []) r E) E.length).map (ownF n (onW []) r E)).length := by rw [List.length_map]
  have e2 : (P.filter fun p => decide (1 < p.length)).length = ((P.filter fun p => decide (1 < p.length)).map fun p => r (p.getD 0 0).toNat).length := by rw [List.length_map]
  rw [e1, e2]
  refine List.Perm.length_eq ((List.perm_ext_iff_of_nodup ?_ ?_).2 ?_)
  · rw [List.Nodup, List.pairwise_map]
    have hp : (firsts (ownF n (onW []) r E) E.length).Pairwise (· < ·) := List.pairwise_lt_range.filter _
    refine List.Pairwise.imp_of_mem ?_ hp
    intro a b ha hb hab
    exact (mem_firsts.1 hb).2 a hab
  · rw [List.Nodup, List.pairwise_map]
    refine List.Pairwise.filter _ ?_
    rw [List.pairwise_iff_getElem]
    intro i j hi hj hij e
    obtain ⟨a, ha, hp, hp0⟩ := hI.part i P[i] (List.getElem?_eq_getElem hi)
    obtain ⟨b, hb, hq, hq0⟩ := hI.part j P[j] (List.getElem?_eq_getElem hj)
    rw [show P[i].getD 0 0 = (a : Int) by rw [List.getD_eq_getElem?_getD, hp0]; rfl, show P[j].getD 0 0 = (b : Int) by rw [List.getD_eq_getElem?_getD, hq0]; rfl] at e
    simp only [Int.toNat_natCast] at e
    have hab := (root_rch hg hR ha hb).1 e
    have h1 : (b : Int) ∈ P[i] := by rw [hp]; exact reachN_mem.2 ⟨hb, hab⟩
    have h2 : (b : Int) ∈ P[j] := List.mem_of_getElem? hq0
    have := hI.once i j P[i] P[j] (b : Int) (List.getElem?_eq_getElem hi) (List.getElem?_eq_getElem hj) h1 h2
    omega
  · intro x
    rw [List.mem_map, List.mem_map]
    constructor
    · rintro ⟨h, hh, rfl⟩
      have hhm := (mem_firsts.1 hh).1
      obtain ⟨e, he⟩ : ∃ e, E[h]? = some e := ⟨_, List.getElem?_eq_getElem hhm⟩
      obtain ⟨p, q, rfl, h1, h2, _, _⟩ := hR.get he
      obtain ⟨a1, _, hpq, _⟩ := edge_adj hg he
      obtain ⟨i, pt, hpt, hm⟩ := (hI.cover p h1).1 (hI.asked p h1)
      obtain ⟨a, ha, hpe, hp0⟩ := hI.part i pt hpt
      have hm1 : p < n ∧ 0 ≤ gd (distOf (tabG n E) n a) p := by rw [hpe] at hm; exact reachN_mem.1 hm
      have hm2 : (q : Int) ∈ pt := by
        rw [hpe]
        exact reachN_mem.2 ⟨h2, Rch.trans_ hg ha h1 h2 hm1.2 (edge_rch8 hg h1 a1)⟩
      refine ⟨pt, List.mem_filter.2 ⟨List.mem_of_getElem? hpt, ?_⟩, ?_⟩
      · rw [decide_eq_true_iff]
        match pt, hm, hm2 with
        | [], hm, _ => cases hm
        | [z], hm, hm2 =>
          simp at hm hm2
          omega
        | _ :: _ :: _, _, _ => simp
      · rw [show pt.getD 0 0 = (a : Int) by rw [List.getD_eq_getElem?_getD, hp0]; rfl, Int.toNat_natCast, own_none hR he]
        exact (root_rch hg hR ha h1).2 hm1.2
    · rintro ⟨pt, hpt, rfl⟩
      obtain ⟨hpm, hpl⟩ := List.mem_filter.1 hpt
      rw [decide_eq_true_iff] at hpl
      obtain ⟨i, hi⟩ := List.getElem?_of_mem hpm
      obtain ⟨a, ha, hpe, hp0⟩ := hI.part i pt hi
      rw [show pt.getD 0 0 = (a : Int) by rw [List.getD_eq_getElem?_getD, hp0]; rfl, Int.toNat_natCast]
      have h1 : pt[1]? = some pt[1] := List.getElem?_eq_getElem hpl
      generalize pt[1] = z at h1
      have hzm : z ∈ pt := List.mem_of_getElem? h1
      have hzm2 := hzm
      rw [hpe] at hzm2
      obtain ⟨v, rfl⟩ := reachN_all hzm2
      obtain ⟨hvn, hv0⟩ := reachN_mem.1 hzm2
      have hne : v ≠ a := by
        intro e
        subst e
        have hup := reachN_up (distOf (tabG n E) n v) n
        rw [← hpe, List.pairwise_iff_getElem] at hup
        have h01 := hup 0 1 (by omega) hpl (by omega)
        obtain ⟨_, e0⟩ := List.getElem?_eq_some_iff.1 hp0
        obtain ⟨_, e1⟩ := List.getElem?_eq_some_iff.1 h1
        omega
      have hpos : 0 < gd (distOf (tabG n E) n a) v := by
        rcases Int.lt_or_eq_of_le hv0 with h | h
        · exact h
        · exact absurd ((dist_is hg ha).only v hvn h.symm) hne
      obtain ⟨y, hy, hadj, _⟩ := (dist_is hg ha).from_ v hvn hpos
      obtain ⟨k, p, q, he, hc⟩ := adj_edge hg hy hvn hadj
      have hra : r a = r v := (root_rch hg hR ha hvn).2 hv0
      have hk := (List.getElem?_eq_some_iff.1 he).1
      have hown : ownF n (onW []) r E k = r a := by
        rw [own_none hR he, hra]
        have hj := hR.joined he rfl rfl
        rcases hc with ⟨_, rfl⟩ | ⟨rfl, _⟩
        · exact hj
        · rfl
      obtain ⟨f, hf, hfo, _⟩ := first_of (ownF n (onW []) r E) E.length k hk
      exact ⟨f, hf, hfo.trans hown⟩
theorem none_feet {n : Nat} {E : List (Int × Int)} : ∀ x ∈ fragsF n E [], x.2 = [] := by
  intro x hx
  unfold fragsF fragsO at hx
  rw [List.map_map, List.mem_map] at hx
  obtain ⟨l, _, rfl⟩ := hx
  have h1 : ∀ e : Int × Int, feetOf (onW []) e = [] := fun e => rfl
  have h2 : (l.flatMap fun i => feetOf (onW []) ((leftP [] E E.length).1.getD i (0, 0))) = [] := by
    rw [List.flatMap_eq_nil_iff]
    intro i _
    exact h1 _
  show Lib.compact (srtZ (l.flatMap fun i => feetOf (onW []) ((leftP [] E E.length).1.getD i (0, 0)))) = []
  rw [h2]
  have h3 : srtZ [] = [] := by simp [srtZ]
  rw [h3]
  rfl
theorem all_none {n : Nat} {E : List (Int × Int)} (hg : rightG (n : Nat) E = true) : fragsT (n : Nat) E E = ([], 0) := by
  have hok : (leftP E E E.length).2 = E.length := (web_ok hg).2 ⟨hg, fun e he => he⟩
  unfold fragsT
  rw [if_neg (by rw [hg]; simp), if_pos hok]
  have hL : (leftP E E E.length).1 = [] := by
    rw [(leftP_rest (rightG_nodup hg) hok).2, List.filter_eq_nil_iff]
    intro e he
    simpa using he
  unfold fragsF
  rw [hL]
  rfl
theorem none_ok {n : Nat} {E : List (Int × Int)} (hg : rightG (n : Nat) E = true) : fragsT (n : Nat) E [] = (fragsF n E [], 0) := by
  have hok : (leftP [] E E.length).2 = ([] : List (Int × Int)).length := (web_ok hg).2 ⟨rightG_of8 ⟨(rightG_bounds hg).1, (rightG_bounds hg).2.1⟩ (by simp) (by simp) List.Pairwise.nil, by simp⟩
  unfold fragsT
  rw [if_neg (by rw [hg]; simp), if_pos hok]
  rfl
end Go.Proofs.Ytlkfpphahfendaa
