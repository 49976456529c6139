/- A range over the iterator of cycles, which keeps its marks in a block of its own (layer 3): the law for its callers. -/
import Derived.Test.YtgldlanfbkgfjaaP3
import Derived.RangeFuncNested
import Derived.RangeFuncBox
namespace Go.Proofs.Ytgldlanfbkgfjaa
open Go.RowKit

/-- Every block that lay, but for some k from d on, lies as it lay. -/
structure Bar (d k : Nat) (A B : World) : Prop where
  os : B.os = A.os
  tape : B.tape = A.tape
  output : B.output = A.output
  size : A.heap.size ≤ B.heap.size
  same : ∀ b, b < A.heap.size → (b < d ∨ d + k ≤ b) → B.heap[b]? = A.heap[b]?
theorem Bar.refl (d k : Nat) (A : World) : Bar d k A A := ⟨rfl, rfl, rfl, Nat.le_refl _, fun _ _ _ => rfl⟩
theorem Bar.trans {d k : Nat} {A B C : World} (h : Bar d k A B) (g : Bar d k B C) : Bar d k A C :=
  ⟨g.os.trans h.os, g.tape.trans h.tape, g.output.trans h.output, Nat.le_trans h.size g.size, fun b hb hd => (g.same b (Nat.lt_of_lt_of_le hb h.size) hd).trans (h.same b hb hd)⟩
theorem Bar.wide {d k d' k' : Nat} {A B : World} (h : Bar d k A B) (h1 : d' ≤ d) (h2 : d + k ≤ d' + k') : Bar d' k' A B :=
  ⟨h.os, h.tape, h.output, h.size, fun b hb hd => h.same b hb (by omega)⟩
theorem Bar.of_below {d k : Nat} {A B : World} (h : Below A.heap.size A B) : Bar d k A B := ⟨h.os, h.tape, h.output, h.size, fun b hb _ => h.block b hb⟩
theorem Bar.put {d k l : Nat} (A : World) (o : Obj) (h1 : d ≤ l) (h2 : l < d + k) : Bar d k A (A.putObj l o) :=
  ⟨rfl, rfl, rfl, by simp, fun b _ hd => World.putObj_heap_other (by omega)⟩
theorem Bar.below {d k n : Nat} {A B : World} (h : Bar d k A B) (h1 : n ≤ d) (h2 : n ≤ A.heap.size) : Below n A B :=
  ⟨h.os, h.tape, h.output, h.size, fun b hb => h.same b (by omega) (.inl (by omega))⟩
theorem Bar.cell {d k : Nat} {A B : World} (h : Bar d k A B) {p : Addr} (hp : p.block < A.heap.size) (hd : p.block < d ∨ d + k ≤ p.block) : B.cell? p = A.cell? p := by
  unfold World.cell?
  rw [h.same _ hp hd]

structure BarAt (d k n : Nat) (A B : World) : Prop where
  os : B.os = A.os
  tape : B.tape = A.tape
  output : B.output = A.output
  size : A.heap.size ≤ B.heap.size
  same : ∀ b, b < n → (b < d ∨ d + k ≤ b) → B.heap[b]? = A.heap[b]?
theorem Bar.trans' {d k : Nat} {A B C : World} (h : Bar d k A B) (g : BarAt d k A.heap.size B C) : Bar d k A C :=
  ⟨g.os.trans h.os, g.tape.trans h.tape, g.output.trans h.output, Nat.le_trans h.size g.size, fun b hb hd => (g.same b hb hd).trans (h.same b hb hd)⟩
theorem Bar.setCell {d k : Nat} {A B : World} (h : Bar d k A B) {q : Addr} (hq : A.heap.size ≤ q.block ∨ (d ≤ q.block ∧ q.block < d + k)) (v : Value) : Bar d k A (B.setCell q v) :=
  h.trans' ⟨rfl, rfl, rfl, by show B.heap.size ≤ (B.heap.modify _ _).size; rw [Array.size_modify]; exact Nat.le_refl _, fun b hb hd => Below.heap_setCell B q v b (by have := h.size; omega)⟩
theorem Bar.alloc {d k : Nat} {A B : World} (h : Bar d k A B) (o : Obj) : Bar d k A (B.alloc o) := h.trans (Bar.of_below ((Below.refl _ B).alloc (Nat.le_refl _) o))
theorem Bar.grown {d k : Nat} {A B C : World} {row : Option Nat} (h : Bar d k A B) (hg : B.grownBy C row) (hr : ∀ r, row = some r → A.heap.size ≤ r ∨ (d ≤ r ∧ r < d + k)) : Bar d k A C := by
  obtain ⟨g1, g2, g3, g4, g5⟩ := hg
  refine ⟨by rw [← h.os]; assumption, by rw [← h.tape]; assumption, by rw [← h.output]; assumption, Nat.le_trans h.size g4, fun b hb hd => ?_⟩
  rw [g5 b (Nat.lt_of_lt_of_le hb h.size) (fun e => by have := hr b e.symm; omega)]
  exact h.same b hb hd

/-- A fresh row of ints. -/
abbrev RowI (w : World) (base b cap : Nat) (x : List Nat) : Prop := w.ownsRow base 3 1 (.slice (some ⟨b, 0, none⟩) x.length cap) x.length (zs (iz x))

/-- What the iterator reads. -/
def Reads (A0 : Option Addr) (Bp n c : Nat) (p : List Nat) (A : World) : Prop := RdZ A A0 (iz p) ∧ A.cell? ⟨Bp, 0, none⟩ = some (.slice A0 n c)
/-- What the iterator owes: of each cycle one round, which goes on. -/
def Cycling (A0 : Option Addr) (Bp n c : Nat) (p : List Nat) (W : World) : Prop :=
  ∀ (l : Nat) (J : List (List Nat) → World → Prop),
    (∀ pre A, J pre A → Reads A0 Bp n c p A) →
    (∀ pre A A', J pre A → Bar W.heap.size 1 A A' → J pre A') →
    (∀ pre x rest A W1 b cap, cycs p n = pre ++ x :: rest → J pre A → Bar W.heap.size 1 A W1 → W.heap.size < W1.heap.size → RowI W1 A.heap.size b cap x → W.heap.size < b →
      YieldAt Fence.wide 0 Try.prog l #[.slice (some ⟨b, 0, none⟩) x.length cap] W1 fun e W' => e = .returned (.bool true) ∧ J (pre ++ [x]) W' ∧ W1.heap.size ≤ W'.heap.size ∧ W'.heap[W.heap.size]? = W1.heap[W.heap.size]?) →
    J [] W →
    CallsIn Fence.wide 0 Try.prog 45 (#[.func (.yield l) #[] #[]] ++ #[.pointer (some ⟨Bp, 0, none⟩)]) W fun e W' => (∃ v, e = .returned v) ∧ J (cycs p n) W'

set_option maxHeartbeats 4000000 in
/-- A loop over it: one round is walked. -/
theorem range_cycles {g : Operand} {ps : Array Tmp} {assign body : Code} {Q : Exit → Act → World → Prop} {a : Act} {w : World} (A0 : Option Addr) (Bp n c : Nat) (p : List Nat)
    (hps : ps.size = 1) (hg : a.eval g = .func (.func 45) #[] #[.pointer (some ⟨Bp, 0, none⟩)])
    (eg : ∀ args w, (callFunc 45 args).run Try.prog w = .ok (.enter 45 args) w)
    (hcyc : ∀ W : World, W.heap.size = w.heap.size + 2 → Below w.heap.size w W → Cycling A0 Bp n c p W)
    (I : List (List Nat) → World → Prop) (hRd : ∀ pre A, I pre A → Reads A0 Bp n c p A) (hI : ∀ pre A A', I pre A → Bar w.heap.size 3 A A' → I pre A') (h0 : I [] w) (a₁ : Value → Act)
    (hassign : ∀ (l : Nat) (v : Value) (W : World) (K : Act → World → Prop), K (a₁ v) W →
      assign.wpIn (Fence.wide.inRound l) 0 Try.prog (Exit.then K (fun _ _ _ => False)) { tmps := (ps.zip #[v]).foldl (fun t (q, v) => t.setIfInBounds q v) a.tmps, defers := [] } W)
    (hbody : ∀ (l : Nat) (pre : List (List Nat)) (x : List Nat) (rest : List (List Nat)) (A W1 : World) (b cap : Nat), cycs p n = pre ++ x :: rest → I pre A → Bar w.heap.size 3 A W1 → w.heap.size + 3 ≤ W1.heap.size → RowI W1 A.heap.size b cap x → w.heap.size + 3 ≤ b →
      body.wpIn (Fence.wide.inRound l) 0 Try.prog (fun e _ W' => e = .normal ∧ I (pre ++ [x]) W' ∧ W1.heap.size ≤ W'.heap.size ∧ ∀ k, w.heap.size ≤ k → k < w.heap.size + 3 → W'.heap[k]? = W1.heap[k]?) (a₁ (.slice (some ⟨b, 0, none⟩) x.length cap)) W1)
    (hdone : ∀ (W : World), I (cycs p n) W → W.heap[w.heap.size]? = some (.deferred (some [])) → Q .normal { a with defers := { target := .collected w.heap.size, args := #[] } :: a.defers } W) :
    (Code.rangeFunc g ps assign body).wpIn Fence.wide 0 Try.prog Q a w := by
  refine wpIn_rangeFunc ?_
  intro fn hfn
  obtain ⟨rec, hrec⟩ : ∃ rec : LoopState → Option Code → Loop, rec = fun st pe => { state := st, pending := pe, fn, tmps := a.tmps, params := ps, assign, body, defers := w.heap.size } := ⟨_, rfl⟩
  obtain ⟨W1, hW1⟩ : ∃ W1, (w.alloc (.deferred (some []))).alloc (.loop (rec .ready none)) = W1 := ⟨_, rfl⟩
  have hb1 : Below w.heap.size w W1 := by rw [← hW1]; exact ((Below.refl _ w).alloc (Nat.le_refl _) _).alloc (by simp) _
  have hs1 : W1.heap.size = w.heap.size + 2 := by rw [← hW1]; simp
  have hL1 : W1.heap[w.heap.size + 1]? = some (.loop (rec .ready none)) := by
    rw [← hW1]
    have := World.alloc_heap_new (w.alloc (.deferred (some []))) (.loop (rec .ready none))
    rwa [World.size_alloc] at this
  have hK1 : W1.heap[w.heap.size]? = some (.deferred (some [])) := by
    rw [← hW1]
    exact (Below.heap_alloc _ _ _ (by simp)).trans (World.alloc_heap_new w _)
  have hI1 : I [] W1 := hI _ _ _ h0 (Bar.of_below hb1)
  refine ⟨w.heap.size + 1, [{ target := .collected w.heap.size, args := #[] }], W1, { target := .fn (.func 45) #[.pointer (some ⟨Bp, 0, none⟩)], args := #[.func (.yield (w.heap.size + 1)) #[] #[]] }, W1, 45,
    #[.func (.yield (w.heap.size + 1)) #[] #[]] ++ #[.pointer (some ⟨Bp, 0, none⟩)], W1, ?_, ?_, ?_, ?_, fun h => by simp [Fence.wide] at h, ?_⟩
  · rw [← hW1, hrec]; exact run_enterLoop_outer _ _ _ _ _
  · simp only [resolve, hg]
    simp [go_sem]
  · intro f' _; trivial
  · simp [invoke, go_sem, eg]
  · refine (hcyc W1 hs1 hb1 (w.heap.size + 1)
      (fun pre W => I pre W ∧ w.heap.size + 2 ≤ W.heap.size ∧ W.heap[w.heap.size + 1]? = some (.loop (rec .ready none)) ∧ W.heap[w.heap.size]? = some (.deferred (some [])))
      (fun pre A h => hRd pre A h.1) ?_ ?_ ⟨hI1, by omega, hL1, hK1⟩).mono ?_
    · rintro pre A A' ⟨h1, h2, h3, h4⟩ hbar
      exact ⟨hI _ _ _ h1 (hbar.wide (by omega) (by omega)), Nat.le_trans h2 hbar.size, (hbar.same _ (by omega) (.inl (by omega))).trans h3, (hbar.same _ (by omega) (.inl (by omega))).trans h4⟩
    · rintro pre x rest A W b cap hpre ⟨h1, h2, h3, h4⟩ hbar hlt hrow hb
      have hl : W.heap[w.heap.size + 1]? = some (.loop (rec .ready none)) := (hbar.same _ (by omega) (.inl (by omega))).trans h3
      have hk : W.heap[w.heap.size]? = some (.deferred (some [])) := (hbar.same _ (by omega) (.inl (by omega))).trans h4
      have hy := run_yield (P := Try.prog) (args := #[.slice (some ⟨b, 0, none⟩) x.length cap]) hl (by rw [hrec]; exact hps.symm)
      rw [hrec] at hy
      refine ⟨fn, _, assign, body, hy, roundIn_of_wpIn hfn (hassign _ _ W _ ⟨_, run_beginRound hl (by rw [hrec]), ?_⟩)⟩
      obtain ⟨W2, hW2⟩ : ∃ W2, W2 = W.putObj (w.heap.size + 1) (.loop { rec .ready none with state := .busy }) := ⟨_, rfl⟩
      have hl2 : W2.heap[w.heap.size + 1]? = some (.loop { rec .ready none with state := .busy }) := by rw [hW2]; exact World.putObj_heap_same (by omega)
      have hk2 : W2.heap[w.heap.size]? = some (.deferred (some [])) := by rw [hW2]; exact (World.putObj_heap_other (by omega)).trans hk
      have hm2 : W2.heap[w.heap.size + 2]? = W.heap[w.heap.size + 2]? := by rw [hW2]; exact World.putObj_heap_other (by omega)
      have hz2 : W2.heap.size = W.heap.size := by rw [hW2]; simp
      have hbar2 : Bar w.heap.size 3 A W2 := by rw [hW2]; exact (hbar.wide (by omega) (by omega)).trans (Bar.put W _ (by omega) (by omega))
      have hrow2 : RowI W2 A.heap.size b cap x := by
        rw [hW2]
        exact ownsRow_putObj hrow _ hl rfl
      rw [← hW2]
      refine wpIn_mono (hbody _ pre x rest A W2 b cap hpre h1 hbar2 (by omega) hrow2 (by omega)) ?_
      rintro e a3 W3 ⟨rfl, h5, h6, h7⟩
      have hl3 := (h7 _ (by omega) (by omega)).trans hl2
      have hr := run_endRound (P := Try.prog) none hl3
      rw [hrec] at hr
      refine ⟨_, _, hr, rfl, ⟨hI _ _ _ h5 (Bar.put W3 _ (by omega) (by omega)), by simp; omega, ?_, ?_⟩, by simp; omega, ?_⟩
      · rw [hrec]; exact World.putObj_heap_same (by omega)
      · exact (World.putObj_heap_other (by omega)).trans ((h7 _ (by omega) (by omega)).trans hk2)
      · rw [hs1]
        exact (World.putObj_heap_other (by omega)).trans ((h7 _ (by omega) (by omega)).trans hm2)
    · rintro e W2 ⟨⟨v, rfl⟩, h1, h2, h3, h4⟩
      have hr := run_endLoop (P := Try.prog) h3 (by rw [hrec]; simp)
      rw [hrec] at hr
      exact ⟨none, _, hr, hdone _ (hI _ _ _ h1 (Bar.put W2 _ (by omega) (by omega))) ((World.putObj_heap_other (by omega)).trans h4)⟩
end Go.Proofs.Ytgldlanfbkgfjaa
