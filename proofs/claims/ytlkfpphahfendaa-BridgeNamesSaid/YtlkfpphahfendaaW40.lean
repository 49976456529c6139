/- The reference: is a graph right, has it an edge (fretworkref02); is a number in a list (fretworkref04). -/
import Derived.Test.YtlkfpphahfendaaW22
import Derived.IntWalk
namespace Go.Proofs.Ytlkfpphahfendaa
open Go.RowKit

theorem rightG_out {N : Int} {E : List (Int × Int)} (h : ¬ (0 ≤ N ∧ N ≤ 200 ∧ E.length ≤ 594)) : rightG N E = false := by
  unfold rightG
  rw [decide_eq_false h]
  rfl
theorem rightG_in {N : Int} {E : List (Int × Int)} (h : 0 ≤ N ∧ N ≤ 200 ∧ E.length ≤ 594) (k : ∀ j, j < E.length → okE N E j = true) : rightG N E = true := by
  unfold rightG
  rw [decide_eq_true h, Bool.true_and, List.all_eq_true]
  intro j hj
  exact k j (List.mem_range.1 hj)
def lastN (E : List (Int × Int)) (k : Nat) : Int := if k = 0 then -1 else (E.getD (k - 1) (0, 0)).1 * 200 + (E.getD (k - 1) (0, 0)).2
theorem okE_edge {N : Int} {E : List (Int × Int)} {k : Nat} {e : Int × Int} (he : E[k]? = some e) (h : edgeG N e = false) : okE N E k = false := by
  unfold okE
  rw [show E.getD k (0, 0) = e by simp [List.getD, he], h]
  rfl
theorem okE_last {N : Int} {E : List (Int × Int)} {k : Nat} {a b : Int} (he : E[k]? = some (a, b)) (h : edgeG N (a, b) = true) (hN : N ≤ 200) (hp : ∀ j, j < k → okE N E j = true) : okE N E k = decide (lastN E k < a * 200 + b) := by
  have h0 : 0 ≤ a ∧ a < b ∧ b < N := by simpa [edgeG] using h
  unfold okE lastN
  rw [show E.getD k (0, 0) = (a, b) by simp [List.getD, he], h, Bool.true_and]
  by_cases hk : k = 0
  · subst hk
    simp
    omega
  · rw [if_neg hk]
    have h1 := hp (k - 1) (by omega)
    unfold okE at h1
    rw [Bool.and_eq_true] at h1
    have h2 := h1.1
    generalize E.getD (k - 1) (0, 0) = e' at *
    obtain ⟨a', b'⟩ := e'
    have h3 : 0 ≤ a' ∧ a' < b' ∧ b' < N := by simpa [edgeG] using h2
    rw [show (k == 0) = false by simpa using hk, Bool.false_or]
    by_cases hc : cmpP (a', b') (a, b) < 0
    · rw [decide_eq_true hc]
      rw [cmpP_neg] at hc
      simp only [] at hc
      symm
      rw [decide_eq_true_iff]
      simp only []
      omega
    · rw [decide_eq_false hc]
      rw [cmpP_neg] at hc
      simp only [] at hc
      symm
      rw [decide_eq_false_iff_not]
      simp only []
      omega

set_option maxRecDepth 100000 in
set_option maxHeartbeats 8000000 in
theorem refRight_any (A : Option Addr) (c n : Nat) (N : Int) (E : List (Int × Int)) (w : World) (hr : RdP w A E) (hn : n = E.length) (hs : n ≤ 1000000) :
    Calls Try.prog 34 #[.agg #[.int .i64 N, .slice A n c]] w fun e w' => e = .returned (.bool (rightG N E)) ∧ Below w.heap.size w w' := by
  obtain ⟨W, hW⟩ : ∃ W, W = w.alloc (.cells #[.int .i64 N, .slice A n c] 24) := ⟨_, rfl⟩
  have hb : Below w.heap.size w W := by rw [hW]; exact (Below.refl _ _).alloc (Nat.le_refl _) _
  have hWS : w.heap.size < W.heap.size := by rw [hW]; simp
  obtain ⟨i0, i1, _, _⟩ := cells_two (w := W) (by rw [hW]; exact heap_alloc_new w _)
  have HJ : Hid (∀ w', Below W.heap.size W w' → w'.cell? ⟨w.heap.size, 0, none⟩ = some (.int .i64 N) ∧ w'.cell? ⟨w.heap.size, 1, none⟩ = some (.slice A n c)) := fun w' hb =>
    ⟨by rw [hb.cell (by show w.heap.size < _; omega)]; exact i0, by rw [hb.cell (by show w.heap.size < _; omega)]; exact i1⟩
  obtain ⟨r, hrr⟩ : ∃ r, rightG N E = r := ⟨_, rfl⟩
  have HRR := Lib.hid hrr
  rw [hrr]
  have HR := Lib.hid (hr.below hb)
  have HN := Lib.hid hn
  have HB := Lib.hid hb
  have HW := Lib.hid hW
  clear hr hb hW hn hrr
  by_cases hN0 : N < 0
  · have d1 : decide (N < 0) = true := by simpa using hN0
    have HF : Hid (r = false) := by show _ = _; rw [← HRR.out]; exact rightG_out (by omega)
    go_enter Try.func34, Try.ntmps34
    go_wp2_with fail
    rw [← HW.out]
    go_wp2_with fail
    go_ret
    exact ⟨by rw [HF.out]; rfl, HB.out⟩
  · have d1 : decide (N < 0) = false := by simpa using hN0
    by_cases hN1 : 200 < N
    · have d2 : decide (200 < N) = true := by simpa using hN1
      have HF : Hid (r = false) := by show _ = _; rw [← HRR.out]; exact rightG_out (by omega)
      go_enter Try.func34, Try.ntmps34
      go_wp2_with fail
      rw [← HW.out]
      go_wp2_with fail
      go_ret
      exact ⟨by rw [HF.out]; rfl, HB.out⟩
    · have d2 : decide (200 < N) = false := by simpa using hN1
      by_cases hn6 : 594 < n
      · have d3 : decide ((594 : Int) < (n : Int)) = true := by rw [decide_eq_true_iff]; omega
        have HF : Hid (r = false) := by
          show _ = _
          rw [← HRR.out]
          have := HN.out
          exact rightG_out (by omega)
        go_enter Try.func34, Try.ntmps34
        go_wp2_with fail
        rw [← HW.out]
        go_wp2_with fail
        go_ret
        exact ⟨by rw [HF.out]; rfl, HB.out⟩
      · have d3 : decide ((594 : Int) < (n : Int)) = false := by rw [decide_eq_false_iff_not]; omega
        have HL0 : Hid (Value.int .i64 (-1) = .int .i64 (lastN E 0)) := by show _ = _; rfl
        have HO0 : Hid (∀ j, j < 0 → okE N E j = true) := fun j h => by omega
        have HBW0 := Lib.hid (Below.refl W.heap.size W)
        go_enter Try.func34, Try.ntmps34
        go_wp2_with fail
        rw [← HW.out]
        go_wp2_with fail
        clear i0 i1
        go_loopw [3, 4] (fun s3 s4 wr => ∃ k : Nat, k ≤ n ∧ s3 = .int .i64 (lastN E k) ∧ s4 = .int .i64 k ∧ Hid (∀ j, j < k → okE N E j = true) ∧ Hid (Below W.heap.size W wr)) (fun _ s4 _ => n - (intOf s4).toNat)
        case atStart => exact ⟨0, Nat.zero_le _, HL0.out, rfl, HO0, HBW0⟩
        case round =>
          obtain ⟨k, hk, rfl, rfl, hO, hbel⟩ := hrel
          obtain ⟨j0, j1⟩ := HJ.out wr hbel.out
          by_cases h1 : k < n
          · have t1 : decide ((k : Int) < (n : Int)) = true := by simp; omega
            have hI0 : (0 : Int) ≤ (k : Int) := by omega
            have hI1 : (k : Int) < (n : Nat) := by omega
            obtain ⟨e, he⟩ : ∃ e, E[k]? = some e := ⟨_, List.getElem?_eq_getElem (by rw [← HN.out]; exact h1)⟩
            obtain ⟨ad, rfl, hal, p0, p1⟩ := (HR.out.below hbel.out) k e he
            obtain ⟨a, b⟩ := e
            simp only [] at p0 p1
            have HE := Lib.hid he
            have hkl : k < E.length := by rw [← HN.out]; exact h1
            have HQ := Lib.hid (fun q : Nat => below_drewN hbel.out q)
            obtain ⟨L, hL⟩ : ∃ L, lastN E k = L := ⟨_, rfl⟩
            have HL := Lib.hid hL
            have HNO : Hid (edgeG N (a, b) = false → r = false) := fun h => by rw [← HRR.out]; exact rightG_no hkl (okE_edge he h)
            rw [hL]
            clear he hL
            go_upto_region 7 with fail
            go_quiet (fail)
            rename_i nq
            have HB4 := Lib.hid (HQ.out nq)
            generalize wr.drewN nq = w4 at HB4 ⊢
            clear j0 j1 p0 p1 HQ
            obtain ⟨j0, j1⟩ := HJ.out w4 HB4.out
            by_cases ha : a < 0
            · have e1 : decide (a < 0) = true := by simpa using ha
              have HF : Hid (r = false) := HNO.out (by simp [edgeG]; omega)
              go_wp2_with fail
              go_ret
              exact ⟨by rw [HF.out]; rfl, HB.out.trans (HB4.out.mono (Nat.le_of_lt hWS))⟩
            have e1 : decide (a < 0) = false := by simpa using ha
            by_cases hb : b < 0
            · have e2 : decide (b < 0) = true := by simpa using hb
              have HF : Hid (r = false) := HNO.out (by simp [edgeG]; omega)
              go_wp2_with fail
              go_ret
              exact ⟨by rw [HF.out]; rfl, HB.out.trans (HB4.out.mono (Nat.le_of_lt hWS))⟩
            have e2 : decide (b < 0) = false := by simpa using hb
            by_cases haN : N ≤ a
            · have e3 : decide (N ≤ a) = true := by simpa using haN
              have HF : Hid (r = false) := HNO.out (by simp [edgeG]; omega)
              go_wp2_with fail
              go_ret
              exact ⟨by rw [HF.out]; rfl, HB.out.trans (HB4.out.mono (Nat.le_of_lt hWS))⟩
            have e3 : decide (N ≤ a) = false := by simpa using haN
            by_cases hbN : N ≤ b
            · have e4 : decide (N ≤ b) = true := by simpa using hbN
              have HF : Hid (r = false) := HNO.out (by simp [edgeG]; omega)
              go_wp2_with fail
              go_ret
              exact ⟨by rw [HF.out]; rfl, HB.out.trans (HB4.out.mono (Nat.le_of_lt hWS))⟩
            have e4 : decide (N ≤ b) = false := by simpa using hbN
            by_cases hba : b ≤ a
            · have e5 : decide (b ≤ a) = true := by simpa using hba
              have HF : Hid (r = false) := HNO.out (by simp [edgeG]; omega)
              go_wp2_with fail
              go_ret
              exact ⟨by rw [HF.out]; rfl, HB.out.trans (HB4.out.mono (Nat.le_of_lt hWS))⟩
            have e5 : decide (b ≤ a) = false := by simpa using hba
            have hed : edgeG N (a, b) = true := by simp [edgeG]; omega
            have hok := okE_last HE.out hed (by omega) hO.out
            rw [HL.out] at hok
            have ha0 : 0 ≤ a := by omega
            have ha1 : a ≤ 200 := by omega
            have hb0 : 0 ≤ b := by omega
            have hb1 : b ≤ 200 := by omega
            have hw1 : IntKind.i64.wrap (a * 200) = a * 200 := IntWalk.i64_in _ (by omega)
            have hw2 : wrap64 (a * 200) = a * 200 := by unfold wrap64; omega
            have hw3 : IntKind.i64.wrap (a * 200 + b) = a * 200 + b := IntWalk.i64_in _ (by omega)
            have hw4 : wrap64 (a * 200 + b) = a * 200 + b := by unfold wrap64; omega
            by_cases hlt : a * 200 + b ≤ L
            · have e6 : decide (a * 200 + b ≤ L) = true := by simpa using hlt
              have HF : Hid (r = false) := by
                show _ = _
                rw [← HRR.out]
                exact rightG_no hkl (by rw [hok, decide_eq_false_iff_not]; omega)
              clear hok
              go_wp2_with fail
              go_ret
              exact ⟨by rw [HF.out]; rfl, HB.out.trans (HB4.out.mono (Nat.le_of_lt hWS))⟩
            · have e6 : decide (a * 200 + b ≤ L) = false := by simpa using hlt
              have HO1 : Hid (∀ j, j < k + 1 → okE N E j = true) := fun j hj => by
                by_cases e : j = k
                · subst e
                  rw [hok, decide_eq_true_iff]
                  omega
                · exact hO.out j (by omega)
              have HL1 : Hid (Value.int .i64 (a * 200 + b) = .int .i64 (lastN E (k + 1))) := by
                show _ = _
                unfold lastN
                rw [if_neg (by omega), Nat.add_sub_cancel, show E.getD k (0, 0) = (a, b) by simp [List.getD, HE.out]]
              clear hok
              go_wp2_with fail
              go_roundw
              case rel => exact ⟨k + 1, by omega, HL1.out, by go_num, HO1, HB4⟩
              case measure => simp [intOf]; omega
          · obtain rfl : k = n := by omega
            have t1 : decide ((k : Int) < (k : Int)) = false := by simp
            have HF : Hid (r = true) := by
              show _ = _
              rw [← HRR.out]
              have hh := HN.out
              exact rightG_in (by omega) (fun j hj => hO.out j (by omega))
            go_wp2_with fail
            go_ret
            exact ⟨by rw [HF.out]; rfl, HB.out.trans (hbel.out.mono (Nat.le_of_lt hWS))⟩
end Go.Proofs.Ytlkfpphahfendaa
