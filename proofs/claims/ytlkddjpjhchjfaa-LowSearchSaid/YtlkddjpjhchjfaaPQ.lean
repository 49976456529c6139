/- Every block but some is kept (generic). -/
import Derived.Test.YtlkddjpjhchjfaaP0
import Derived.RangeFuncNested
import Derived.RangeFuncBox
namespace Go.Proofs.Ytlkddjpjhchjfaa
set_option maxRecDepth 100000
open Go.RowKit

/-- Every block that lay, but for some k from d on, lies as it lay. -/
structure Bar (d k : Nat) (A B : World) : Prop where
  os : B.os = A.os
  tape : B.tape = A.tape
  output : B.output = A.output
  size : A.heap.size ≤ B.heap.size
  same : ∀ b, b < A.heap.size → (b < d ∨ d + k ≤ b) → B.heap[b]? = A.heap[b]?
theorem Bar.refl (d k : Nat) (A : World) : Bar d k A A := ⟨rfl, rfl, rfl, Nat.le_refl _, fun _ _ _ => rfl⟩
theorem Bar.trans {d k : Nat} {A B C : World} (h : Bar d k A B) (g : Bar d k B C) : Bar d k A C :=
  ⟨g.os.trans h.os, g.tape.trans h.tape, g.output.trans h.output, Nat.le_trans h.size g.size, fun b hb hd => (g.same b (Nat.lt_of_lt_of_le hb h.size) hd).trans (h.same b hb hd)⟩
theorem Bar.wide {d k d' k' : Nat} {A B : World} (h : Bar d k A B) (h1 : d' ≤ d) (h2 : d + k ≤ d' + k') : Bar d' k' A B :=
  ⟨h.os, h.tape, h.output, h.size, fun b hb hd => h.same b hb (by omega)⟩
theorem Bar.of_below {d k : Nat} {A B : World} (h : Below A.heap.size A B) : Bar d k A B := ⟨h.os, h.tape, h.output, h.size, fun b hb _ => h.block b hb⟩
theorem Bar.put {d k l : Nat} (A : World) (o : Obj) (h1 : d ≤ l) (h2 : l < d + k) : Bar d k A (A.putObj l o) :=
  ⟨rfl, rfl, rfl, by simp, fun b _ hd => World.putObj_heap_other (by omega)⟩
theorem Bar.below {d k n : Nat} {A B : World} (h : Bar d k A B) (h1 : n ≤ d) (h2 : n ≤ A.heap.size) : Below n A B :=
  ⟨h.os, h.tape, h.output, h.size, fun b hb => h.same b (by omega) (.inl (by omega))⟩
theorem Bar.cell {d k : Nat} {A B : World} (h : Bar d k A B) {p : Addr} (hp : p.block < A.heap.size) (hd : p.block < d ∨ d + k ≤ p.block) : B.cell? p = A.cell? p := by
  unfold World.cell?
  rw [h.same _ hp hd]

structure BarAt (d k n : Nat) (A B : World) : Prop where
  os : B.os = A.os
  tape : B.tape = A.tape
  output : B.output = A.output
  size : A.heap.size ≤ B.heap.size
  same : ∀ b, b < n → (b < d ∨ d + k ≤ b) → B.heap[b]? = A.heap[b]?
theorem Bar.trans' {d k : Nat} {A B C : World} (h : Bar d k A B) (g : BarAt d k A.heap.size B C) : Bar d k A C :=
  ⟨g.os.trans h.os, g.tape.trans h.tape, g.output.trans h.output, Nat.le_trans h.size g.size, fun b hb hd => (g.same b hb hd).trans (h.same b hb hd)⟩
theorem Bar.setCell {d k : Nat} {A B : World} (h : Bar d k A B) {q : Addr} (hq : A.heap.size ≤ q.block ∨ (d ≤ q.block ∧ q.block < d + k)) (v : Value) : Bar d k A (B.setCell q v) :=
  h.trans' ⟨rfl, rfl, rfl, by show B.heap.size ≤ (B.heap.modify _ _).size; rw [Array.size_modify]; exact Nat.le_refl _, fun b hb hd => Below.heap_setCell B q v b (by have := h.size; omega)⟩
theorem Bar.alloc {d k : Nat} {A B : World} (h : Bar d k A B) (o : Obj) : Bar d k A (B.alloc o) := h.trans (Bar.of_below ((Below.refl _ B).alloc (Nat.le_refl _) o))
theorem Bar.grown {d k : Nat} {A B C : World} {row : Option Nat} (h : Bar d k A B) (hg : B.grownBy C row) (hr : ∀ r, row = some r → A.heap.size ≤ r ∨ (d ≤ r ∧ r < d + k)) : Bar d k A C := by
  obtain ⟨g1, g2, g3, g4, g5⟩ := hg
  refine ⟨by rw [← h.os]; assumption, by rw [← h.tape]; assumption, by rw [← h.output]; assumption, Nat.le_trans h.size g4, fun b hb hd => ?_⟩
  rw [g5 b (Nat.lt_of_lt_of_le hb h.size) (fun e => by have := hr b e.symm; omega)]
  exact h.same b hb hd

/-- A fresh row of ints. -/
abbrev RowI (w : World) (base b cap : Nat) (x : List Nat) : Prop := w.ownsRow base 3 1 (.slice (some ⟨b, 0, none⟩) x.length cap) x.length (zs (iz x))

end Go.Proofs.Ytlkddjpjhchjfaa
