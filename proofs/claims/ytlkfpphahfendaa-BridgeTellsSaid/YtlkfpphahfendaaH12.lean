/- The reference of layer 8: ends, On, has, meet, feet. -/
import Derived.Test.YtlkfpphahfendaaU5
import Derived.Test.YtlkfpphahfendaaW29
import Derived.Deep.AppendLies
namespace Go.Proofs.Ytlkfpphahfendaa
set_option maxRecDepth 100000
open Go.RowKit

theorem ends_any (a b v : Int) (w : World) : Calls Try.prog 77 #[.agg #[.int .i64 a, .int .i64 b], .int .i64 v] w fun e w' => e = .returned (.bool (a == v || b == v)) ∧ Below w.heap.size w w' := by
  obtain ⟨W, hW⟩ : ∃ W, W = w.alloc (.cells #[.int .i64 a, .int .i64 b] 44) := ⟨_, rfl⟩
  have hb : Below w.heap.size w W := by rw [hW]; exact (Below.refl _ _).alloc (Nat.le_refl _) _
  obtain ⟨i0, i1, _, _⟩ := cells_two (w := W) (by rw [hW]; exact heap_alloc_new w _)
  have HW := Lib.hid hW
  have HB := Lib.hid hb
  clear hW hb
  cases hp : (a == v) <;> cases hq : (b == v)
  all_goals
    go_enter Try.func77, Try.ntmps77
    go_wp2_with fail
    go_ret
    rw [← HW.out]
    exact ⟨rfl, HB.out⟩
theorem on_any8 (A : Option Addr) (c n : Nat) (W : List (Int × Int)) (v : Int) (w : World) (hr : RdP w A W) (hn : n = W.length) (hs : n ≤ 1000000) :
    Calls Try.prog 59 #[.slice A n c, .int .i64 v] w fun e w' => e = .returned (.bool (onZ W v)) ∧ Below w.heap.size w w' := by
  obtain ⟨r, hrr⟩ : ∃ r, onZ W v = r := ⟨_, rfl⟩
  have HRR := Lib.hid hrr
  rw [hrr]
  have HR := Lib.hid hr
  have HN := Lib.hid hn
  have HB0 := Lib.hid (Below.refl w.heap.size w)
  clear hr hn hrr
  go_enter Try.func59, Try.ntmps59
  go_wp2_with fail
  go_loopw [5] (fun s5 wr => ∃ k : Nat, k ≤ n ∧ s5 = .int .i64 k ∧ Hid (∀ (q : Nat) (e : Int × Int), q < k → W[q]? = some e → (e.1 == v || e.2 == v) = false) ∧ Hid (Below w.heap.size w wr)) (fun s5 _ => n - (intOf s5).toNat)
  case atStart => exact ⟨0, Nat.zero_le _, rfl, (fun q e h => by omega), HB0⟩
  case round =>
    obtain ⟨k, hk, rfl, hO, hbel⟩ := hrel
    by_cases h1 : k < n
    · have t1 : decide ((k : Int) < (n : Int)) = true := by simp; omega
      have hI0 : (0 : Int) ≤ (k : Int) := by omega
      have hI1 : (k : Int) < (n : Nat) := by omega
      obtain ⟨e, he⟩ : ∃ e, W[k]? = some e := ⟨_, List.getElem?_eq_getElem (by rw [← HN.out]; exact h1)⟩
      obtain ⟨ad, rfl, hal, p0, p1⟩ := (HR.out.below hbel.out) k e he
      obtain ⟨x, y⟩ := e
      simp only at p0 p1
      have HE := Lib.hid he
      obtain ⟨q, hq⟩ : ∃ q, (x == v || y == v) = q := ⟨_, rfl⟩
      have HQ := Lib.hid hq
      have HC := ends_any x y v wr
      rw [hq] at HC
      have HC := Lib.hid HC
      clear he hq
      go_wp2_with fail
      refine HC.out.mono ?_
      rintro e w2 ⟨rfl, hb2⟩
      have HB2 := Lib.hid (next_below hbel.out hb2)
      clear p0 p1 hb2 HC
      cases q
      · have HO2 : Hid (∀ (q : Nat) (e : Int × Int), q < k + 1 → W[q]? = some e → (e.1 == v || e.2 == v) = false) := fun q e h he => by
          by_cases e1 : q = k
          · subst e1
            rw [HE.out] at he
            injection he with he
            subst he
            exact HQ.out
          · exact hO.out q e (by omega) he
        go_wp2_with fail
        go_roundw
        case rel => exact ⟨k + 1, by omega, by go_num, HO2, HB2⟩
        case measure => simp [intOf]; omega
      · go_wp2_with fail
        go_ret
        refine ⟨?_, HB2.out⟩
        have hr1 : r = true := by
          rw [← HRR.out]
          unfold onZ
          rw [List.any_eq_true]
          exact ⟨_, List.mem_of_getElem? HE.out, HQ.out⟩
        rw [hr1]
        rfl
    · obtain rfl : k = n := by omega
      have t1 : decide ((k : Int) < (k : Int)) = false := by simp
      go_wp2_with fail
      go_ret
      refine ⟨?_, hbel.out⟩
      have hr0 : r = false := by
        rw [← HRR.out]
        unfold onZ
        rw [List.any_eq_false]
        intro e he
        obtain ⟨q, hq⟩ := List.getElem?_of_mem he
        rw [hO.out q e (by rw [HN.out]; exact (List.getElem?_eq_some_iff.1 hq).1) hq]
        simp
      rw [hr0]
      rfl
theorem has_any8 (A : Option Addr) (c n : Nat) (L : List (Int × Int)) (a b : Int) (w : World) (hr : RdP w A L) (hn : n = L.length) (hs : n ≤ 1000000) :
    Calls Try.prog 35 #[.slice A n c, .agg #[.int .i64 a, .int .i64 b]] w fun e w' => e = .returned (.bool (decide ((a, b) ∈ L))) ∧ Below w.heap.size w w' := by
  obtain ⟨W, hW⟩ : ∃ W, W = w.alloc (.cells #[.int .i64 a, .int .i64 b] 44) := ⟨_, rfl⟩
  have hb : Below w.heap.size w W := by rw [hW]; exact (Below.refl _ _).alloc (Nat.le_refl _) _
  have hWS : w.heap.size < W.heap.size := by rw [hW]; simp
  obtain ⟨i0, i1, _, _⟩ := cells_two (w := W) (by rw [hW]; exact heap_alloc_new w _)
  have HJ : Hid (∀ w', Below W.heap.size W w' → w'.cell? ⟨w.heap.size, 0, none⟩ = some (.int .i64 a) ∧ w'.cell? ⟨w.heap.size, 1, none⟩ = some (.int .i64 b)) := fun w' hb =>
    ⟨by rw [hb.cell (by show w.heap.size < _; omega)]; exact i0, by rw [hb.cell (by show w.heap.size < _; omega)]; exact i1⟩
  obtain ⟨r, hrr⟩ : ∃ r, decide ((a, b) ∈ L) = r := ⟨_, rfl⟩
  have HRR := Lib.hid hrr
  rw [hrr]
  have HR := Lib.hid (hr.below hb)
  have HN := Lib.hid hn
  have HB := Lib.hid hb
  have HW := Lib.hid hW
  have HB0 := Lib.hid (Below.refl W.heap.size W)
  clear hr hn hrr hb hW i0 i1
  go_enter Try.func35, Try.ntmps35
  go_wp2_with fail
  rw [← HW.out]
  have hgt : Try.prog.eqGuardType Try.prog.depth 44 = false := by kernel_rfl
  go_loopw [5] (fun s5 wr => ∃ k : Nat, k ≤ n ∧ s5 = .int .i64 k ∧ Hid (∀ q : Nat, q < k → L[q]? ≠ some (a, b)) ∧ Hid (Below W.heap.size W wr)) (fun s5 _ => n - (intOf s5).toNat)
  case atStart => exact ⟨0, Nat.zero_le _, rfl, (fun q h => by omega), HB0⟩
  case round =>
    obtain ⟨k, hk, rfl, hO, hbel⟩ := hrel
    obtain ⟨j0, j1⟩ := HJ.out wr hbel.out
    by_cases h1 : k < n
    · have t1 : decide ((k : Int) < (n : Int)) = true := by simp; omega
      have hI0 : (0 : Int) ≤ (k : Int) := by omega
      have hI1 : (k : Int) < (n : Nat) := by omega
      obtain ⟨e, he⟩ : ∃ e, L[k]? = some e := ⟨_, List.getElem?_eq_getElem (by rw [← HN.out]; exact h1)⟩
      obtain ⟨ad, rfl, hal, p0, p1⟩ := (HR.out.below hbel.out) k e he
      obtain ⟨x, y⟩ := e
      simp only at p0 p1
      have HE := Lib.hid he
      obtain ⟨q, hq⟩ : ∃ q, (x == a && y == b) = q := ⟨_, rfl⟩
      have HQ := Lib.hid hq
      have HQP : Hid (∀ ww, (Op.equalIn 10000 44 (.agg #[.int .i64 x, .int .i64 y]) (.agg #[.int .i64 a, .int .i64 b])).run Try.prog ww = .ok q ww) := fun ww => by rw [← hq]; exact eqPair x y a b ww
      have hqp := HQP.out
      clear he hq
      go_upto_region 4 with fail
      go_region
      cases q
      · have HO2 : Hid (∀ q : Nat, q < k + 1 → L[q]? ≠ some (a, b)) := fun q h he => by
          by_cases e1 : q = k
          · subst e1
            rw [HE.out] at he
            injection he with he
            injection he with h1 h2
            have := HQ.out
            rw [h1, h2] at this
            simp at this
          · exact hO.out q (by omega) he
        go_wp2_with fail
        go_roundw
        case rel => exact ⟨k + 1, by omega, by go_num, HO2, Lib.hid hbel.out.drew⟩
        case measure => simp [intOf]; omega
      · go_wp2_with fail
        go_ret
        refine ⟨?_, HB.out.trans (hbel.out.drew.mono (by omega))⟩
        have hr1 : r = true := by
          rw [← HRR.out, decide_eq_true_iff]
          have h1 := HQ.out
          simp only [Bool.and_eq_true, beq_iff_eq] at h1
          rw [← h1.1, ← h1.2]
          exact List.mem_of_getElem? HE.out
        rw [hr1]
        rfl
    · obtain rfl : k = n := by omega
      have t1 : decide ((k : Int) < (k : Int)) = false := by simp
      go_wp2_with fail
      go_ret
      refine ⟨?_, HB.out.trans (hbel.out.mono (by omega))⟩
      have hr0 : r = false := by
        rw [← HRR.out]
        rw [decide_eq_false_iff_not]
        intro he
        obtain ⟨q, hq⟩ := List.getElem?_of_mem he
        exact hO.out q (by rw [HN.out]; exact (List.getElem?_eq_some_iff.1 hq).1) hq
      rw [hr0]
      rfl
end Go.Proofs.Ytlkfpphahfendaa
