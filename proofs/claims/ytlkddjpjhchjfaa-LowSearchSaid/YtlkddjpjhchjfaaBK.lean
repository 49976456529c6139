/- A range over a list of numbers from its end (slices.Backward): the law for its callers, and that the iterator keeps its word. -/
import Derived.Test.YtlkddjpjhchjfaaPQ
import Derived.Test.YtlkddjpjhchjfaaW10
import Derived.RangeFuncNested
import Derived.RangeFuncBox
import Derived.RangeFuncLeaves
import Derived.RangeFuncCalls
import Derived.TacticsInMore
import Derived.WalkKit
import Derived.OwnWalkIn
import Derived.LoopIn
namespace Go.Proofs.Ytlkddjpjhchjfaa
set_option maxRecDepth 100000
open Go.RowKit

/-- What the iterator owes: each place from the last one on, one round each. -/
def BackI (A0 : Option Addr) (Bp n c : Nat) (L : List Nat) (W : World) : Prop :=
  ∀ (l : Nat) (J : Nat → World → Prop),
    (∀ j A, J j A → RdZ A A0 (iz L) ∧ A.cell? ⟨Bp, 0, none⟩ = some (.slice A0 n c)) →
    (∀ j x A, L[j]? = some x → J (j + 1) A → YieldAt Fence.wide 0 Try.prog l #[.int .i64 (j : Nat), .int .i64 (x : Nat)] A fun e W' => e = .returned (.bool true) ∧ J j W') →
    J n W →
    CallsIn Fence.wide 0 Try.prog 70 (#[.func (.yield l) #[] #[]] ++ #[.pointer (some ⟨Bp, 0, none⟩)]) W fun e W' => (∃ v, e = .returned v) ∧ J 0 W'

set_option maxHeartbeats 4000000 in
theorem range_back {g : Operand} {ps : Array Tmp} {assign body : Code} {Q : Exit → Act → World → Prop} {a : Act} {w : World} (A0 : Option Addr) (Bp n c : Nat) (L : List Nat)
    (hps : ps.size = 2) (hg : a.eval g = .func (.func 70) #[] #[.pointer (some ⟨Bp, 0, none⟩)])
    (eg : ∀ args w, (callFunc 70 args).run Try.prog w = .ok (.enter 70 args) w)
    (hback : ∀ W : World, BackI A0 Bp n c L W)
    (I : Nat → World → Prop) (hRd : ∀ j A, I j A → RdZ A A0 (iz L) ∧ A.cell? ⟨Bp, 0, none⟩ = some (.slice A0 n c)) (hI : ∀ j A A', I j A → Bar w.heap.size 2 A A' → I j A') (h0 : I n w) (a₁ : Nat → Nat → Act)
    (hassign : ∀ (l j x : Nat) (W : World) (K : Act → World → Prop), K (a₁ j x) W →
      assign.wpIn (Fence.wide.inRound l) 0 Try.prog (Exit.then K (fun _ _ _ => False)) { tmps := (ps.zip #[.int .i64 (j : Nat), .int .i64 (x : Nat)]).foldl (fun t (q, v) => t.setIfInBounds q v) a.tmps, defers := [] } W)
    (hbody : ∀ (l j x : Nat) (W1 : World), L[j]? = some x → I (j + 1) W1 → w.heap.size + 2 ≤ W1.heap.size →
      body.wpIn (Fence.wide.inRound l) 0 Try.prog (fun e _ W' => e = .normal ∧ I j W' ∧ W1.heap.size ≤ W'.heap.size ∧ ∀ k, w.heap.size ≤ k → k < w.heap.size + 2 → W'.heap[k]? = W1.heap[k]?) (a₁ j x) W1)
    (hdone : ∀ (W : World), I 0 W → W.heap[w.heap.size]? = some (.deferred (some [])) → Q .normal { a with defers := { target := .collected w.heap.size, args := #[] } :: a.defers } W) :
    (Code.rangeFunc g ps assign body).wpIn Fence.wide 0 Try.prog Q a w := by
  refine wpIn_rangeFunc ?_
  intro fn hfn
  obtain ⟨rec, hrec⟩ : ∃ rec : LoopState → Option Code → Loop, rec = fun st pe => { state := st, pending := pe, fn, tmps := a.tmps, params := ps, assign, body, defers := w.heap.size } := ⟨_, rfl⟩
  obtain ⟨W1, hW1⟩ : ∃ W1, (w.alloc (.deferred (some []))).alloc (.loop (rec .ready none)) = W1 := ⟨_, rfl⟩
  have hb1 : Below w.heap.size w W1 := by rw [← hW1]; exact ((Below.refl _ w).alloc (Nat.le_refl _) _).alloc (by simp) _
  have hs1 : W1.heap.size = w.heap.size + 2 := by rw [← hW1]; simp
  have hL1 : W1.heap[w.heap.size + 1]? = some (.loop (rec .ready none)) := by
    rw [← hW1]
    have := World.alloc_heap_new (w.alloc (.deferred (some []))) (.loop (rec .ready none))
    rwa [World.size_alloc] at this
  have hK1 : W1.heap[w.heap.size]? = some (.deferred (some [])) := by
    rw [← hW1]
    exact (Below.heap_alloc _ _ _ (by simp)).trans (World.alloc_heap_new w _)
  have hI1 : I n W1 := hI _ _ _ h0 (Bar.of_below hb1)
  refine ⟨w.heap.size + 1, [{ target := .collected w.heap.size, args := #[] }], W1, { target := .fn (.func 70) #[.pointer (some ⟨Bp, 0, none⟩)], args := #[.func (.yield (w.heap.size + 1)) #[] #[]] }, W1, 70,
    #[.func (.yield (w.heap.size + 1)) #[] #[]] ++ #[.pointer (some ⟨Bp, 0, none⟩)], W1, ?_, ?_, ?_, ?_, fun h => by simp [Fence.wide] at h, ?_⟩
  · rw [← hW1, hrec]; exact run_enterLoop_outer _ _ _ _ _
  · simp only [resolve, hg]
    simp [go_sem]
  · intro f' _; trivial
  · simp [invoke, go_sem, eg]
  · refine (hback W1 (w.heap.size + 1)
      (fun j W => I j W ∧ w.heap.size + 2 ≤ W.heap.size ∧ W.heap[w.heap.size + 1]? = some (.loop (rec .ready none)) ∧ W.heap[w.heap.size]? = some (.deferred (some [])))
      (fun j A h => hRd j A h.1) ?_ ⟨hI1, by omega, hL1, hK1⟩).mono ?_
    · rintro j x W hx ⟨h1, h2, hl, hk⟩
      have hy := run_yield (P := Try.prog) (args := #[.int .i64 (j : Nat), .int .i64 (x : Nat)]) hl (by rw [hrec]; exact hps.symm)
      rw [hrec] at hy
      refine ⟨fn, _, assign, body, hy, roundIn_of_wpIn hfn (hassign _ _ _ W _ ⟨_, run_beginRound hl (by rw [hrec]), ?_⟩)⟩
      obtain ⟨W2, hW2⟩ : ∃ W2, W2 = W.putObj (w.heap.size + 1) (.loop { rec .ready none with state := .busy }) := ⟨_, rfl⟩
      have hl2 : W2.heap[w.heap.size + 1]? = some (.loop { rec .ready none with state := .busy }) := by rw [hW2]; exact World.putObj_heap_same (by omega)
      have hk2 : W2.heap[w.heap.size]? = some (.deferred (some [])) := by rw [hW2]; exact (World.putObj_heap_other (by omega)).trans hk
      have hz2 : W2.heap.size = W.heap.size := by rw [hW2]; simp
      have hi2 : I (j + 1) W2 := hI _ _ _ h1 (by rw [hW2]; exact Bar.put W _ (by omega) (by omega))
      rw [← hW2]
      refine wpIn_mono (hbody _ j x W2 hx hi2 (by omega)) ?_
      rintro e a3 W3 ⟨rfl, h5, h6, h7⟩
      have hl3 := (h7 _ (by omega) (by omega)).trans hl2
      have hr := run_endRound (P := Try.prog) none hl3
      rw [hrec] at hr
      refine ⟨_, _, hr, rfl, hI _ _ _ h5 (Bar.put W3 _ (by omega) (by omega)), by simp; omega, ?_, ?_⟩
      · rw [hrec]; exact World.putObj_heap_same (by omega)
      · exact (World.putObj_heap_other (by omega)).trans ((h7 _ (by omega) (by omega)).trans hk2)
    · rintro e W2 ⟨⟨v, rfl⟩, h1, h2, h3, h4⟩
      have hr := run_endLoop (P := Try.prog) h3 (by rw [hrec]; simp)
      rw [hrec] at hr
      exact ⟨none, _, hr, hdone _ (hI _ _ _ h1 (Bar.put W2 _ (by omega) (by omega))) ((World.putObj_heap_other (by omega)).trans h4)⟩
attribute [local go_sem] Oper.semAt_some
set_option maxHeartbeats 8000000 in
/-- The iterator keeps its word. -/
theorem back1_any (A0 : Option Addr) (Bp n c : Nat) (L : List Nat) (W : World) (hn : n = L.length) (hn2 : n ≤ 1000) : BackI A0 Bp n c L W := by
  intro l J hRd hY h0
  have HN := Lib.hid hn
  have HRD := Lib.hid hRd
  have HY := Lib.hid hY
  have HJ0 := Lib.hid h0
  obtain ⟨_, q2⟩ := hRd _ _ h0
  clear hn hRd hY h0
  refine callsIn_of_wp Try.func70 rfl trivial ?_ rfl
  simp only [Try.ntmps70, List.size_toArray, List.length_cons, List.length_nil, Nat.reduceAdd, Nat.reduceSub, Array.replicate_succ, Array.replicate_zero, List.push_toArray, List.append_toArray, List.nil_append, List.cons_append]
  gi_wp2
  gi_loopw [3] (fun s wr => ∃ (j : Nat) (i : Int), j ≤ n ∧ s = .int .i64 i ∧ i = (j : Int) - 1 ∧ Hid (J j wr)) (fun s _ => (intOf s + 1).toNat)
  case atStart => exact ⟨n, _, Nat.le_refl _, rfl, by go_num, HJ0⟩
  case round =>
    obtain ⟨j, i, hj, rfl, hi, hJ⟩ := hrel
    cases j with
    | zero =>
      have t0 : decide ((0 : Int) ≤ i) = false := by simp; omega
      clear hi
      gi_wp2
      go_end0
      exact ⟨⟨_, rfl⟩, hJ.out⟩
    | succ m =>
      obtain rfl : i = (m : Int) := by omega
      have t1 : decide ((0 : Int) ≤ (m : Int)) = true := by simp
      obtain ⟨x, hx⟩ : ∃ x, L[m]? = some x := ⟨_, List.getElem?_eq_getElem (by rw [← HN.out]; omega)⟩
      obtain ⟨r1, r2⟩ := HRD.out _ _ hJ.out
      obtain ⟨ad, rfl, _, c1⟩ := r1 m (x : Int) (by simp [iz, hx])
      have hM0 : (0 : Int) ≤ (m : Int) := by omega
      have hM1 : (m : Int) < (n : Nat) := by omega
      obtain ⟨fn, tmps, assign, body, hy, hR⟩ := HY.out m x wr hx hJ.out
      clear hx r1 hi
      gi_wp2
      refine ⟨rfl, hR.mono ?_⟩
      rintro e W3 ⟨rfl, hJ3⟩
      have HJ3 := Lib.hid hJ3
      clear hJ3 hy hR
      gi_wp2
      go_roundw
      case rel => exact ⟨m, _, by omega, rfl, by go_num, HJ3⟩
      case measure => simp [intOf]
/-- The lesser one of two. -/
theorem min_run (ats : Array TypeId) (ty : TypeId) (a b : Int) (w : World) : (Builtin.min_ ats ty #[.int .i64 a, .int .i64 b]).run Try.prog w = .ok (.int .i64 (min a b)) w := by
  show Result.ok (Value.int .i64 (if b < a then b else a)) w = _
  by_cases h : b < a
  · rw [if_pos h, show min a b = b by omega]
  · rw [if_neg h, show min a b = a by omega]
theorem backward_any (A0 : Option Addr) (n c : Nat) (w : World) : Calls Try.prog 46 #[.slice A0 n c] w fun e w' => e = .returned (.func (.func 70) #[] #[.pointer (some ⟨w.heap.size, 0, none⟩)]) ∧ w' = w.alloc (.cells #[.slice A0 n c] 35) := by
  go_enter Try.func46, Try.ntmps46
  go_wp2_with fail
  go_ret
  exact ⟨rfl, rfl⟩
end Go.Proofs.Ytlkddjpjhchjfaa
