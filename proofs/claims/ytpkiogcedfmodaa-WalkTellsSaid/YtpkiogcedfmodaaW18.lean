/- Has a graph the vertices that are asked for? -/
import Derived.Test.YtpkiogcedfmodaaW16
namespace Go.Proofs.Ytpkiogcedfmodaa
open Go.RowKit

def thereB (N : Int) (E : List (Int × Int)) (L : List Int) : Bool := L.all (fun v => decide (0 ≤ v ∧ v < N)) && (rightG N E && decide (N ≤ 60))
theorem thereB_no {N : Int} {E : List (Int × Int)} {L : List Int} {k : Nat} {x : Int} (hx : L[k]? = some x) (h : ¬ (0 ≤ x ∧ x < N)) : thereB N E L = false := by
  have : L.all (fun v => decide (0 ≤ v ∧ v < N)) = false := by
    rw [List.all_eq_false]
    exact ⟨x, List.mem_of_getElem? hx, by simpa using h⟩
  unfold thereB; rw [this]; rfl
theorem thereB_all {N : Int} {E : List (Int × Int)} {L : List Int} (h : ∀ (q : Nat) (x : Int), L[q]? = some x → 0 ≤ x ∧ x < N) : thereB N E L = (rightG N E && decide (N ≤ 60)) := by
  have : L.all (fun v => decide (0 ≤ v ∧ v < N)) = true := by
    rw [List.all_eq_true]
    intro x hx
    obtain ⟨q, hq⟩ := List.getElem?_of_mem hx
    simpa using h q x hq
  unfold thereB; rw [this]; rfl
set_option maxHeartbeats 4000000 in
theorem there_any (A B : Option Addr) (c d n m : Nat) (N : Int) (E : List (Int × Int)) (L : List Int) (w : World) (hr : RdP w A E) (hn : n = E.length) (hl : RdZ w B L) (hm : m = L.length) (hM : m ≤ 1000000) :
    Calls Try.prog 23 #[.agg #[.int .i64 N, .slice A n c], .slice B m d] w fun e w' => e = .returned (.bool (thereB N E L)) ∧ Below w.heap.size w w' := by
  obtain ⟨W, hW⟩ : ∃ W, W = w.alloc (.cells #[.int .i64 N, .slice A n c] 24) := ⟨_, rfl⟩
  have hb : Below w.heap.size w W := by rw [hW]; exact (Below.refl _ _).alloc (Nat.le_refl _) _
  have hWS : w.heap.size < W.heap.size := by rw [hW]; simp
  obtain ⟨i0, i1, _, _⟩ := cells_two (w := W) (by rw [hW]; exact heap_alloc_new w _)
  have HJ : Hid (∀ w', Below W.heap.size W w' → w'.cell? ⟨w.heap.size, 0, none⟩ = some (.int .i64 N) ∧ w'.cell? ⟨w.heap.size, 1, none⟩ = some (.slice A n c)) := fun w' hb =>
    ⟨by rw [hb.cell (by show w.heap.size < _; omega)]; exact i0, by rw [hb.cell (by show w.heap.size < _; omega)]; exact i1⟩
  have HR := Lib.hid (hr.below hb)
  have HL := Lib.hid (hl.below hb)
  have HN := Lib.hid hn
  have HMM := Lib.hid hm
  have HB := Lib.hid hb
  have HW := Lib.hid hW
  clear hr hn hl hm hb hW i0 i1
  obtain ⟨r, hr⟩ : ∃ r, thereB N E L = r := ⟨_, rfl⟩
  have HRR := Lib.hid hr
  rw [hr]
  clear hr
  go_enter Try.func23, Try.ntmps23
  go_wp2_with fail
  rw [← HW.out]
  go_loopw [9] (fun s wr => ∃ k : Nat, k ≤ m ∧ s = .int .i64 k ∧ Hid (∀ (q : Nat) (x : Int), q < k → L[q]? = some x → 0 ≤ x ∧ x < N) ∧ Hid (Below W.heap.size W wr)) (fun s _ => m - (intOf s).toNat)
  case atStart => exact ⟨0, Nat.zero_le _, rfl, fun q x h => absurd h (by omega), Lib.hid (Below.refl _ _)⟩
  case round =>
    obtain ⟨k, hk, rfl, hK, hbel⟩ := hrel
    obtain ⟨j0, j1⟩ := HJ.out wr hbel.out
    have HEND : Hid (Below w.heap.size w wr) := HB.out.trans (hbel.out.mono (Nat.le_of_lt hWS))
    by_cases h1 : k < m
    · have t1 : decide ((k : Int) < (m : Int)) = true := by simp; omega
      obtain ⟨x, hx⟩ : ∃ x, L[k]? = some x := ⟨_, List.getElem?_eq_getElem (by rw [← HMM.out]; exact h1)⟩
      obtain ⟨ad, rfl, _, c1⟩ := (HL.out.below hbel.out) k x hx
      have HX := Lib.hid hx
      have hI0 : (0 : Int) ≤ (k : Int) := by omega
      have hI2 : (k : Int) < (m : Nat) := by omega
      clear hx
      by_cases h2 : x < 0
      · have t2 : decide (x < 0) = true := by simpa using h2
        go_wp2_with fail
        go_ret
        refine ⟨?_, HEND.out⟩
        rw [← HRR.out, thereB_no HX.out (by omega)]
        rfl
      · have t2 : decide (x < 0) = false := by simpa using h2
        by_cases h3 : N ≤ x
        · have t3 : decide (N ≤ x) = true := by simpa using h3
          go_wp2_with fail
          go_ret
          refine ⟨?_, HEND.out⟩
          rw [← HRR.out, thereB_no HX.out (by omega)]
          rfl
        · have t3 : decide (N ≤ x) = false := by simpa using h3
          go_wp2_with fail
          go_roundw
          case rel =>
            refine ⟨k + 1, by omega, by go_num, fun q y hq hy => ?_, hbel⟩
            by_cases hqk : q = k
            · subst hqk
              rw [HX.out] at hy
              obtain rfl := Option.some.inj hy
              omega
            · exact hK.out q y (by omega) hy
          case measure => simp [intOf]; omega
    · obtain rfl : k = m := by omega
      have t1 : decide ((k : Int) < (k : Int)) = false := by simp
      have HALL : Hid (thereB N E L = (rightG N E && decide (N ≤ 60))) := thereB_all fun q x hq => hK.out q x (by have := (List.getElem?_eq_some_iff.1 hq).1; have := HMM.out; omega) hq
      go_wp2_with fail
      refine (right_any A c n N E wr (HR.out.below hbel.out) HN.out).mono ?_
      rintro e w1 ⟨rfl, hb1⟩
      obtain ⟨j2, j3⟩ := HJ.out w1 (next_below hbel.out hb1)
      have HB1 : Hid (Below w.heap.size w w1) := next_below HEND.out hb1
      clear hb1 j0 j1
      by_cases hg : rightG N E = true
      · rw [hg]
        have HG := Lib.hid hg
        clear hg
        go_wp2_with fail
        go_ret
        refine ⟨?_, HB1.out⟩
        rw [← HRR.out, HALL.out, HG.out]
        rfl
      · have hg : rightG N E = false := by simpa using hg
        rw [hg]
        have HG := Lib.hid hg
        clear hg
        go_wp2_with fail
        go_ret
        refine ⟨?_, HB1.out⟩
        rw [← HRR.out, HALL.out, HG.out]
        rfl
end Go.Proofs.Ytpkiogcedfmodaa
