/- The document's own answer: the bytes of digits. -/
import Derived.Test.YtgljaimoaijcaaaT3
namespace Go.Proofs.Ytgljaimoaijcaaa
open Go.RowKit

/-- What the first i digits lay into byte q. -/
def pB (l : List Bool) (i q : Nat) : Nat := numAt l (8 * q) (min 8 (i - 8 * q))
theorem pB_step (l : List Bool) (i : Nat) : pB l (i + 1) (i / 8) = 2 * pB l i (i / 8) + (l.getD i false).toNat := by
  unfold pB
  rw [show min 8 (i + 1 - 8 * (i / 8)) = i % 8 + 1 by omega, show min 8 (i - 8 * (i / 8)) = i % 8 by omega, numAt, show 8 * (i / 8) + i % 8 = i by omega]
theorem pB_far (l : List Bool) (i q : Nat) (h : q ≠ i / 8) : pB l (i + 1) q = pB l i q := by
  unfold pB
  congr 1
  omega
theorem pB_lt (l : List Bool) (i : Nat) : pB l i (i / 8) < 128 := by
  unfold pB
  rw [show min 8 (i - 8 * (i / 8)) = i % 8 by omega]
  have h1 := numAt_lt l (8 * (i / 8)) (i % 8)
  have h2 : 2 ^ (i % 8) ≤ 2 ^ 7 := Nat.pow_le_pow_right (by omega) (by omega)
  have h3 : 2 ^ 7 = 128 := rfl
  omega
theorem pB_zero (l : List Bool) (q : Nat) : pB l 0 q = 0 := by simp [pB, numAt]
theorem pB_full (l : List Bool) (i q : Nat) (h : 8 * q + 8 ≤ i) : pB l i q = byteOf l q := by
  unfold pB byteOf b8
  rw [show min 8 (i - 8 * q) = 8 by omega]
  simp only [numAt, Nat.add_zero]
  omega
def cellsP (l : List Bool) (N i : Nat) : Array Value := ((List.range N).map fun q => by8 (pB l i q)).toArray
theorem cellsP_size (l : List Bool) (N i : Nat) : (cellsP l N i).size = N := by simp [cellsP]
theorem cellsP_get (l : List Bool) (N i q : Nat) (h : q < N) : (cellsP l N i)[q]? = some (by8 (pB l i q)) := by simp [cellsP, h]
theorem cellsP_set (l : List Bool) (N i : Nat) : (cellsP l N i).setIfInBounds (i / 8) (by8 (pB l (i + 1) (i / 8))) = cellsP l N (i + 1) := by
  apply Array.ext (by simp [cellsP])
  intro j h1 h2
  rw [Array.getElem_setIfInBounds (by simpa using h1)]
  by_cases h : i / 8 = j
  · subst h
    rw [if_pos rfl]
    simp [cellsP]
  · rw [if_neg h]
    simp [cellsP, pB_far l i j (Ne.symm h)]
theorem cellsP_zero (l : List Bool) (N : Nat) : cellsP l N 0 = madeCells #[.int .u8 0] N := by
  apply Array.ext'
  rw [toList_madeCells_one]
  simp only [cellsP, pB_zero]
  apply List.ext_getElem (by simp)
  intro j h1 h2
  simp [by8]
theorem cellsP_full (l : List Bool) (i : Nat) (h : 8 * nB l ≤ i) : cellsP l (nB l) i = cellsOf l := by
  apply Array.ext (by simp [cellsP, cellsOf])
  intro j h1 h2
  have hj : j < nB l := by simpa [cellsP] using h1
  simp [cellsP, cellsOf, pB_full l i j (by omega)]
theorem set_block {w : World} {g : Nat} {cs : Array Value} {t : TypeId} (h : w.heap[g]? = some (.cells cs t (0, 0))) (q : Nat) (u : Value) : (w.setCell ⟨g, q, none⟩ u).heap[g]? = some (.cells (cs.setIfInBounds q u) t (0, 0)) := by
  simp [World.setCell, Array.getElem?_modify, h]

set_option maxHeartbeats 2000000 in
theorem refBytes_any (l : List Bool) (w : World) (hl : l.length ≤ 4194304) :
    Calls Try.prog 55 #[.string (txt l)] w fun e w' => e = .returned (.slice (some ⟨w.heap.size, 0, none⟩) (nB l) (nB l)) ∧ Own w' w.heap.size l ∧ Below w.heap.size w w' := by
  have hz := txt_size l
  have HG : Hid (∀ i (_ : i < l.length) (h' : i < (txt l).size), ((txt l)[i].toNat : Int) = 48 + ((l.getD i false).toNat : Nat)) := Lib.hid (fun i h h' => txt_at l i h h')
  have hN : Hid (nB l = (l.length + 7) / 8) := rfl
  have HF := Lib.hid (cellsP_full l (8 * nB l) (Nat.le_refl _))
  have HZ := Lib.hid (cellsP_zero l (nB l))
  unfold Own
  have hN1 : nB l ≤ 4194304 := by rw [hN.out]; omega
  generalize txt l = s at *
  generalize nB l = N at *
  have hN2 : ((l.length : Int) + 7) / 8 = N := by rw [hN.out]; omega
  obtain ⟨i0, hi0, hz0, hz1, hz2⟩ := info_parts u8info
  have hmk : (Instr.makeSlice 22 (.int .i64 (N : Nat)) (.int .i64 (N : Nat))).run Try.prog w = .ok (.slice (some ⟨w.heap.size, 0, none⟩) N N) (w.alloc (.cells (madeCells #[.int .u8 0] N) 5)) := by
    have hr := run_make (P := Try.prog) w 22 5 i0 (.int .u8 0) Try.underlying22 hi0 hz0 .i64 .i64 N N (by omega) (by omega) (by rw [hz2]; omega) (by omega)
    simp only [Int.toNat_natCast, hz1, Nat.mul_one] at hr
    exact hr
  rw [← HZ.out] at hmk
  go_enter Try.func55, Try.ntmps55
  go_wp2_with fail
  go_loopw [4] (fun i wr => ∃ k : Nat, k ≤ l.length ∧ i = .int .i64 k ∧ Hid (wr.heap[w.heap.size]? = some (.cells (cellsP l N k) 5 (0, 0))) ∧ Hid (Below w.heap.size w wr)) (fun i _ => l.length - (intOf i).toNat)
  case atStart => exact ⟨0, Nat.zero_le _, rfl, heap_alloc_new w _, (Below.refl _ _).alloc (Nat.le_refl _) _⟩
  case round =>
    obtain ⟨k, hk, rfl, hC, hB⟩ := hrel
    by_cases hlt : k < l.length
    · have hks : k < s.size := by omega
      have hgk := HG.out k hlt hks
      have hb1 : (l.getD k false).toNat ≤ 1 := Bool.toNat_le _
      have hq : k / 8 < N := by rw [hN.out]; omega
      have hc : wr.cell? ⟨w.heap.size, k / 8, none⟩ = some (.int .u8 (pB l k (k / 8))) := by rw [cell_of hC.out, cellsP_get l N k _ hq]; rfl
      have hf := free_of hC.out (k / 8)
      have hp := pB_lt l k
      have HS := Lib.hid (pB_step l k)
      have HC2 := Lib.hid (set_block hC.out (k / 8) (by8 (pB l (k + 1) (k / 8))))
      rw [cellsP_set, HS.out] at HC2
      unfold by8 at HC2
      clear HS
      generalize (l.getD k false).toNat = b at *
      generalize pB l k (k / 8) = p at *
      go_wp2_with fail
      go_region
      all_goals
        go_wp2_with fail
        refine ⟨⟨k + 1, by omega, by go_num, ?_, (hB.out.setCell (by show _ ≤ w.heap.size; omega) _).drew⟩, by simp [intOf]; omega⟩
        show _ = _
        rw [show (p : Int) * 2 + (48 + (b : Int) - 48) = ((2 * p + b : Nat) : Int) by omega]
        exact HC2.out
    · obtain rfl : k = l.length := by omega
      have hC1 := Lib.hid hC.out
      have hB1 := Lib.hid hB.out
      clear hC hB HG hmk
      generalize hn : l.length = n at *
      go_wp2_with fail
      go_loopw [5] (fun i wr => ∃ k : Nat, k ≤ 8 * N ∧ n ≤ k ∧ i = .int .i64 k ∧ Hid (wr.heap[w.heap.size]? = some (.cells (cellsP l N k) 5 (0, 0))) ∧ Hid (Below w.heap.size w wr)) (fun i _ => 8 * N - (intOf i).toNat)
      case atStart => exact ⟨n, by rw [hN.out]; omega, Nat.le_refl _, rfl, hC1, hB1⟩
      case round =>
        obtain ⟨k, hk, hkn, rfl, hC, hB⟩ := hrel
        by_cases hlt : k < 8 * N
        · have hq : k / 8 < N := by omega
          have hc : wr.cell? ⟨w.heap.size, k / 8, none⟩ = some (.int .u8 (pB l k (k / 8))) := by rw [cell_of hC.out, cellsP_get l N k _ hq]; rfl
          have hf := free_of hC.out (k / 8)
          have hp := pB_lt l k
          have HS := Lib.hid (pB_step l k)
          have hz0 : (l.getD k false).toNat = 0 := by
            rw [List.getD_eq_getElem?_getD, List.getElem?_eq_none (by omega)]; rfl
          rw [hz0] at HS
          have HC2 := Lib.hid (set_block hC.out (k / 8) (by8 (pB l (k + 1) (k / 8))))
          rw [cellsP_set, HS.out] at HC2
          unfold by8 at HC2
          clear HS hz0
          generalize pB l k (k / 8) = p at *
          go_wp2_with fail
          refine ⟨⟨k + 1, by omega, by omega, by go_num, ?_, hB.out.setCell (by show _ ≤ w.heap.size; omega) _⟩, by simp [intOf]; omega⟩
          show _ = _
          rw [show (p : Int) * 2 = ((2 * p + 0 : Nat) : Int) by omega]
          exact HC2.out
        · obtain rfl : k = 8 * N := by omega
          have hC2 := hC.out
          rw [HF.out] at hC2
          have HC2 := Lib.hid hC2
          clear hC2 hC
          go_wp2_with fail
          go_ret
          exact ⟨rfl, HC2.out, hB.out⟩
end Go.Proofs.Ytgljaimoaijcaaa
