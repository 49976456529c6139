/- Rows of pairs of ints, rows of ints; a graph that came in. -/
import Derived.Test.YtlkddjpjhchjfaaRG
import Derived.Lib.SmallJoins
namespace Go.Proofs.Ytlkddjpjhchjfaa
set_option maxRecDepth 100000
open Go.RowKit

def zv (x : Int) : Value := .int .i64 x
theorem add_twice (a : Addr) (n m : Nat) : (a.add n).add m = a.add (n + m) := by
  simp only [Addr.add]
  by_cases h1 : n = 0 <;> by_cases h2 : m = 0 <;> simp [h1, h2, Nat.add_assoc]
theorem add_none (a : Addr) : a.add 0 = a := by simp [Addr.add]
/-- A row of ints that is read. -/
def RdZ (w : World) (A : Option Addr) (xs : List Int) : Prop := ∀ (q : Nat) (x : Int), xs[q]? = some x → ∃ ad, A = some ad ∧ ad.block < w.heap.size ∧ w.cell? (ad.add q) = some (.int .i64 x)
theorem RdZ.below {w w' : World} {A : Option Addr} {xs : List Int} (h : RdZ w A xs) (hb : Below w.heap.size w w') : RdZ w' A xs := fun q x hq => by
  obtain ⟨ad, e, hl, hc⟩ := h q x hq
  exact ⟨ad, e, Nat.lt_of_lt_of_le hl hb.size, by rw [hb.cell (by rw [block_add]; exact hl)]; exact hc⟩
/-- A row of pairs that is read. -/
def RdP (w : World) (A : Option Addr) (E : List (Int × Int)) : Prop := ∀ (q : Nat) (e : Int × Int), E[q]? = some e → ∃ ad, A = some ad ∧ ad.block < w.heap.size ∧ w.cell? (ad.add (q * 2)) = some (.int .i64 e.1) ∧ w.cell? ⟨(ad.add (q * 2)).block, (ad.add (q * 2)).off + 1, none⟩ = some (.int .i64 e.2)
theorem RdP.below {w w' : World} {A : Option Addr} {E : List (Int × Int)} (h : RdP w A E) (hb : Below w.heap.size w w') : RdP w' A E := fun q x hq => by
  obtain ⟨ad, e, hl, hc, hd⟩ := h q x hq
  exact ⟨ad, e, Nat.lt_of_lt_of_le hl hb.size, by rw [hb.cell (by rw [block_add]; exact hl)]; exact hc, by rw [hb.cell (by show (ad.add (q * 2)).block < _; rw [block_add]; exact hl)]; exact hd⟩
def isI (x : Int) : Prop := -9223372036854775808 ≤ x ∧ x ≤ 9223372036854775807
/-- A value that came in as a graph. -/
def OkGraph (w : World) (v : Value) : Prop := ∃ (N : Int) (A : Option Addr) (c : Nat) (E : List (Int × Int)), v = .agg #[.int .i64 N, .slice A E.length c] ∧ isI N ∧ (∀ e ∈ E, isI e.1 ∧ isI e.2) ∧ RdP w A E ∧ E.length ≤ c ∧ c ≤ 9223372036854775807 ∧ (A = none → c = 0)
theorem OkGraph.below {w w' : World} {v : Value} (h : OkGraph w v) (hb : Below w.heap.size w w') : OkGraph w' v := by
  obtain ⟨N, A, c, E, rfl, a, b, r, l⟩ := h
  exact ⟨N, A, c, E, rfl, a, b, r.below hb, l⟩

open Go.ChangeShapes Go.WideShapes in
theorem open_pair {H : Type} {enc : TypeId × Value → H} {W : World} {n : Nat} {ad : Addr} {cs : List Value} {y : DataW H × List MemPlace}
    (hc : W.cells? 0 ad 2 = some cs) (h : DataW.trod enc Try.prog W 0 (fun _ => true) true n 51 cs = some y) :
    ∃ e : Int × Int, W.cell? ad = some (.int .i64 e.1) ∧ W.cell? ⟨ad.block, ad.off + 1, none⟩ = some (.int .i64 e.2) ∧ isI e.1 ∧ isI e.2 := by
  obtain ⟨_, hlen, hcell⟩ := World.cells?_some hc
  obtain ⟨xs, k, _, _, _, hxl, hf⟩ := DataW.trod_array Try.underlying51 h
  have k1 : Try.prog.cellsOf 3 = 1 := by kernel_rfl
  have hxl2 : xs.length = 2 := hxl
  have g0 := (hf 0 (by omega)).trans (List.getElem?_eq_getElem (by omega))
  have g1 := (hf 1 (by omega)).trans (List.getElem?_eq_getElem (by omega))
  rw [k1] at g0 g1
  generalize xs[0] = y0 at g0
  generalize xs[1] = y1 at g1
  match cs, hlen with
  | [v0, v1], _ =>
    have e0 := hcell 0 (by omega)
    have e1 := hcell 1 (by omega)
    obtain ⟨z0, q0, _, w0⟩ := DataW.trod_int Try.underlying3 g0
    obtain ⟨z1, q1, _, w1⟩ := DataW.trod_int Try.underlying3 g1
    simp at q0 q1
    subst q0; subst q1
    simp [Lit.wf, IntKind.min, IntKind.max, IntKind.signed, IntKind.bits] at w0 w1
    rw [add_none] at e0
    exact ⟨(z0, z1), by simpa using e0, by simpa [Addr.add] using e1, ⟨by omega, by omega⟩, ⟨by omega, by omega⟩⟩

open Go.ChangeShapes Go.WideShapes in
theorem open_pairs {H : Type} {enc : TypeId × Value → H} {W : World} {n : Nat} {v : Value} {y : DataW H × List MemPlace}
    (h0 : DataW.trod enc Try.prog W 0 (fun _ => true) true n 22 [v] = some y) : ∃ (A : Option Addr) (c : Nat) (E : List (Int × Int)), v = .slice A E.length c ∧ (∀ e ∈ E, isI e.1 ∧ isI e.2) ∧ RdP W A E ∧ E.length ≤ c ∧ c ≤ 9223372036854775807 ∧ (A = none → c = 0) := by
  have k2 : Try.prog.cellsOf 51 = 2 := by kernel_rfl
  rcases Go.Deep.open_slice Try.underlying22 h0 with ⟨hcs, _⟩ | ⟨x, l, c, m, k, D, Pl, hcs, _, hl, hm, hmm, _, hx⟩
  · simp at hcs
    subst hcs
    exact ⟨none, 0, [], rfl, (by intro x hx; cases hx), (by intro q x hq; simp at hq), by simp, by simp, fun _ => rfl⟩
  · simp at hcs
    subst hcs
    have hmc : m = c := by simpa using hmm
    have each : ∀ i, i < l → ∃ e : Int × Int, W.cell? (x.add (i * 2)) = some (.int .i64 e.1) ∧ W.cell? ⟨(x.add (i * 2)).block, (x.add (i * 2)).off + 1, none⟩ = some (.int .i64 e.2) ∧ isI e.1 ∧ isI e.2 := by
      intro i hi
      obtain ⟨cs', h1, h2⟩ := hx i (by omega)
      rw [k2] at h1
      obtain ⟨e, a1, a2, a3⟩ := open_pair h1 h2
      exact ⟨e, a1, a2, a3⟩
    obtain ⟨q, hq⟩ := Go.Deep.choose_lt each
    refine ⟨some x, c, (List.range l).map q, by simp, ?_, ?_, by simp; omega, by unfold maxLen at hm; omega, fun e => by cases e⟩
    · intro e he
      obtain ⟨i, hi, rfl⟩ := List.mem_map.1 he
      exact (hq i (List.mem_range.1 hi)).2.2
    · intro i e he
      simp only [List.getElem?_map, Option.map_eq_some_iff] at he
      obtain ⟨j, hj, rfl⟩ := he
      obtain ⟨hjl, rfl⟩ := List.getElem?_eq_some_iff.1 hj
      simp only [List.length_range] at hjl
      simp only [List.getElem_range]
      obtain ⟨c0, c1, _⟩ := hq i hjl
      have hlt := World.block_lt_of_cell? W _ c0
      rw [block_add] at hlt
      exact ⟨x, rfl, hlt, c0, c1⟩

open Go.ChangeShapes Go.WideShapes in
theorem open_graph {H : Type} {enc : TypeId × Value → H} {W : World} {r : Reach} {b0 : Nat} {v : Value} {d : DataW H} {p : List MemPlace}
    (hv : Value.okWide Try.prog W r b0 24 v) (h : DataW.Trod enc Try.prog W 0 (fun _ => true) true 24 v d p) : OkGraph W v := by
  obtain ⟨c0, c1, y0, y1, n, rfl, _, _, h0, h1⟩ := Go.Joins.open_agg2 Try.underlying24 (by kernel_rfl) (by kernel_rfl) hv h
  obtain ⟨N, e1, _, wN⟩ := DataW.trod_int Try.underlying3 h0
  simp at e1
  subst e1
  simp [Lit.wf, IntKind.min, IntKind.max, IntKind.signed, IntKind.bits] at wN
  obtain ⟨A, c, E, rfl, k⟩ := open_pairs h1
  exact ⟨N, A, c, E, rfl, ⟨by omega, by omega⟩, k⟩
end Go.Proofs.Ytlkddjpjhchjfaa
