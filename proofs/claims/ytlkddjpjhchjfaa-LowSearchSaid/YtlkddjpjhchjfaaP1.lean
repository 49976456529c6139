/- Permutations put together, taken back (layer 3). -/
import Derived.Test.YtlkddjpjhchjfaaP0
namespace Go.Proofs.Ytlkddjpjhchjfaa
set_option maxRecDepth 100000
open Go.RowKit

theorem nod_le : ∀ (n : Nat) (l : List Nat), l.Nodup → (∀ x ∈ l, x < n) → l.length ≤ n
  | 0, [], _, _ => Nat.le_refl _
  | 0, a :: l, _, h => by have := h a (List.mem_cons_self ..); omega
  | n + 1, l, hn, h => by
    by_cases hm : n ∈ l
    · have h1 := nod_le n (l.erase n) (hn.erase n) (fun x hx => by
        rw [hn.mem_erase_iff] at hx
        have := h x hx.2
        have := hx.1
        omega)
      rw [List.length_erase_of_mem hm] at h1
      omega
    · have h1 := nod_le n l hn (fun x hx => by
        have := h x hx
        have : x ≠ n := fun e => by rw [e] at hx; exact hm hx
        omega)
      omega
theorem Perm.mem {n v : Nat} {p : List Nat} (h : Perm n p) (hv : v < n) : v ∈ p := by
  apply Classical.byContradiction
  intro hm
  have := nod_le n (v :: p) (List.nodup_cons.2 ⟨hm, h.nod⟩) (fun x hx => by
    rcases List.mem_cons.1 hx with e | e
    · rw [e]; exact hv
    · exact h.lt x e)
  rw [List.length_cons, h.len] at this
  omega
def compP (p q : List Nat) : List Nat := (List.range p.length).map fun i => gn q (gn p i)
def invP (p : List Nat) : List Nat := (List.range p.length).map fun v => p.idxOf v
theorem compP_length (p q : List Nat) : (compP p q).length = p.length := by simp [compP]
theorem invP_length (p : List Nat) : (invP p).length = p.length := by simp [invP]
theorem gn_map {f : Nat → Nat} {n i : Nat} (h : i < n) : gn ((List.range n).map f) i = f i := by simp [gn, List.getD, h]
theorem gn_comp {p q : List Nat} {i : Nat} (h : i < p.length) : gn (compP p q) i = gn q (gn p i) := gn_map h
theorem gn_range {n i : Nat} (h : i < n) : gn (List.range n) i = i := by simp [gn, List.getD, h]
theorem gn_inv {n i : Nat} {p : List Nat} (h : Perm n p) (hi : i < n) : gn (invP p) (gn p i) = i := by
  have hl : gn p i < p.length := by rw [h.len]; exact h.gn_lt hi
  unfold invP
  rw [gn_map hl]
  have h1 := gn_at (p := p) (i := i) (by rw [h.len]; exact hi)
  obtain ⟨a1, a2⟩ := List.getElem?_eq_some_iff.1 h1
  have hm : gn p i ∈ p := List.mem_of_getElem? h1
  have h2 : p.idxOf (gn p i) < p.length := List.idxOf_lt_length_iff.2 hm
  have h3 := List.getElem_idxOf h2
  exact (List.getElem_inj h.nod).1 (h3.trans a2.symm)
theorem gn_inv2 {n v : Nat} {p : List Nat} (h : Perm n p) (hv : v < n) : gn p (gn (invP p) v) = v ∧ gn (invP p) v < n := by
  obtain ⟨i, hi⟩ := List.getElem?_of_mem (h.mem hv)
  have hil := (List.getElem?_eq_some_iff.1 hi).1
  rw [h.len] at hil
  have e : gn p i = v := by simp [gn, List.getD, hi]
  rw [← e, gn_inv h hil]
  exact ⟨rfl, hil⟩
/-- Lists of as many that say the same are one. -/
theorem gn_ext {p q : List Nat} (hl : p.length = q.length) (h : ∀ i, i < p.length → gn p i = gn q i) : p = q := by
  apply List.ext_getElem?
  intro i
  by_cases hi : i < p.length
  · rw [gn_at hi, gn_at (by omega), h i hi]
  · rw [List.getElem?_eq_none (by omega), List.getElem?_eq_none (by omega)]
theorem perm_of {n : Nat} {p : List Nat} (hl : p.length = n) (hlt : ∀ i, i < n → gn p i < n) (hin : ∀ i j, i < n → j < n → gn p i = gn p j → i = j) : Perm n p := by
  refine ⟨hl, fun v hv => ?_, ?_⟩
  · obtain ⟨i, hi⟩ := List.getElem?_of_mem hv
    have hil := (List.getElem?_eq_some_iff.1 hi).1
    have e : gn p i = v := by simp [gn, List.getD, hi]
    rw [← e]
    exact hlt i (by omega)
  · rw [List.Nodup, List.pairwise_iff_getElem]
    intro i j hi hj hij e
    have h1 : gn p i = p[i] := by simp [gn, List.getD, hi]
    have h2 : gn p j = p[j] := by simp [gn, List.getD, hj]
    have := hin i j (by omega) (by omega) (by rw [h1, h2, e])
    omega
theorem Perm.comp {n : Nat} {p q : List Nat} (h : Perm n p) (k : Perm n q) : Perm n (compP p q) := by
  have hl : (compP p q).length = n := by rw [compP_length, h.len]
  refine perm_of hl (fun i hi => ?_) (fun i j hi hj e => ?_)
  · rw [gn_comp (by rw [h.len]; exact hi)]
    exact k.gn_lt (h.gn_lt hi)
  · rw [gn_comp (by rw [h.len]; exact hi), gn_comp (by rw [h.len]; exact hj)] at e
    exact h.inj hi hj (k.inj (h.gn_lt hi) (h.gn_lt hj) e)
theorem Perm.inv {n : Nat} {p : List Nat} (h : Perm n p) : Perm n (invP p) := by
  refine perm_of (by rw [invP_length, h.len]) (fun i hi => (gn_inv2 h hi).2) (fun i j hi hj e => ?_)
  have h1 := (gn_inv2 h hi).1
  have h2 := (gn_inv2 h hj).1
  rw [e, h2] at h1
  exact h1.symm
theorem perm_range (n : Nat) : Perm n (List.range n) := ⟨List.length_range, fun v hv => List.mem_range.1 hv, List.nodup_range⟩
/-- A row that is filled from the first place on. -/
def fillN (n k : Nat) (f : Nat → Nat) : List Int := (List.range n).map fun i => if i < k then ((f i : Nat) : Int) else 0
theorem fillN_length (n k : Nat) (f : Nat → Nat) : (fillN n k f).length = n := by simp [fillN]
theorem fillN_zero (n : Nat) (f : Nat → Nat) : fillN n 0 f = List.replicate n 0 := by
  apply List.ext_getElem?
  intro i
  by_cases h : i < n
  · simp [fillN, h, List.getElem?_replicate]
  · rw [List.getElem?_eq_none (by rw [fillN_length]; omega), List.getElem?_eq_none (by rw [List.length_replicate]; omega)]
theorem fillN_step {n k : Nat} (f : Nat → Nat) (h : k < n) : (fillN n k f).set k ((f k : Nat) : Int) = fillN n (k + 1) f := by
  apply List.ext_getElem?
  intro i
  by_cases hi : i < n
  · by_cases e : i = k
    · subst e
      rw [List.getElem?_set_self (by rw [fillN_length]; exact h)]
      simp [fillN, hi]
    · rw [List.getElem?_set_ne (fun e2 => e e2.symm)]
      have h1 : (i < k + 1) ↔ i < k := by omega
      simp [fillN, hi, h1]
  · rw [List.getElem?_eq_none (by rw [List.length_set, fillN_length]; omega), List.getElem?_eq_none (by rw [fillN_length]; omega)]
theorem fillN_all (n : Nat) (f : Nat → Nat) : fillN n n f = iz ((List.range n).map f) := by
  unfold fillN iz
  rw [List.map_map]
  apply List.map_congr_left
  intro i hi
  rw [if_pos (List.mem_range.1 hi)]
  rfl
theorem make_ints (n : Nat) (hn : n ≤ 1000000) (w : World) : (Instr.makeSlice 35 (.int .i64 n) (.int .i64 n)).run Try.prog w = .ok (.slice (some ⟨w.heap.size, 0, none⟩) n n) (w.alloc (.cells (zs (List.replicate n 0)).toArray 3)) := by
  obtain ⟨i2, hi2, hx0, hx1, hx2⟩ := info_partsI i64info
  have hr := run_make (P := Try.prog) w 35 3 i2 (.int .i64 0) Try.underlying35 hi2 hx0 .i64 .i64 n n (by omega) (by omega) (by rw [hx2]; omega) (by omega)
  rw [hx1, Nat.mul_one] at hr
  rw [hr]
  congr 3
  apply Array.ext'
  show (madeCells #[Value.int .i64 0] n).toList = _
  rw [toList_madeCells_one]
  simp [zs, zv]
theorem OwnZ.set {w : World} {B v : Nat} {ds : List Int} (h : OwnZ w B ds) (x : Int) : OwnZ (w.setCell ⟨B, v, none⟩ (.int .i64 x)) B (ds.set v x) := by
  show _ = _
  rw [Go.Joins.block_setCell h]
  simp [zs, zv, List.map_set]
theorem OwnZ.at_ {w : World} {B v : Nat} {x : Int} {ds : List Int} (h : OwnZ w B ds) (hx : ds[v]? = some x) : w.cell? ⟨B, v, none⟩ = some (.int .i64 x) := by
  rw [cell_of h]
  simp [zs, zv, hx]

theorem perm_right {n : Nat} {p : List Nat} (h : Perm n p) (hn : n ≤ 200) : rightP (iz p) = true := by
  obtain ⟨rfl, h2, h3⟩ := h
  exact rightP_iff.2 ⟨p, rfl, ⟨rfl, h2, h3⟩, hn⟩
theorem izl {n : Nat} {p : List Nat} (h : Perm n p) : n = (iz p).length := by rw [iz_length, h.len]

end Go.Proofs.Ytlkddjpjhchjfaa
