/- The reference of layer 2: has a graph an edge. -/
import Derived.Test.YtgldlanfbkgfjaaW24
import Derived.Test.YtgldlanfbkgfjaaW40
namespace Go.Proofs.Ytgldlanfbkgfjaa
open Go.RowKit

set_option maxRecDepth 100000 in
set_option maxHeartbeats 4000000 in
theorem refHas_any (A : Option Addr) (c n N : Nat) (E : List (Int × Int)) (a b : Int) (w : World) (hr : RdP w A E) (hn : n = E.length) (hg : rightG (N : Nat) E = true) :
    Calls Try.prog 42 #[.agg #[.int .i64 (N : Nat), .slice A n c], .int .i64 a, .int .i64 b] w fun e w' => e = .returned (.bool (hasG E a b)) ∧ Below w.heap.size w w' := by
  obtain ⟨W, hW⟩ : ∃ W, W = w.alloc (.cells #[.int .i64 (N : Nat), .slice A n c] 25) := ⟨_, rfl⟩
  have hb : Below w.heap.size w W := by rw [hW]; exact (Below.refl _ _).alloc (Nat.le_refl _) _
  have hWS : w.heap.size < W.heap.size := by rw [hW]; simp
  obtain ⟨i0, i1, _, _⟩ := cells_two (w := W) (by rw [hW]; exact heap_alloc_new w _)
  have HJ : Hid (∀ w', Below W.heap.size W w' → w'.cell? ⟨w.heap.size, 0, none⟩ = some (.int .i64 (N : Nat)) ∧ w'.cell? ⟨w.heap.size, 1, none⟩ = some (.slice A n c)) := fun w' hb =>
    ⟨by rw [hb.cell (by show w.heap.size < _; omega)]; exact i0, by rw [hb.cell (by show w.heap.size < _; omega)]; exact i1⟩
  have hn6 : n ≤ 594 := by have := rightG_bounds hg; omega
  obtain ⟨r, hrr⟩ : ∃ r, hasG E a b = r := ⟨_, rfl⟩
  have HRR := Lib.hid hrr
  rw [hrr]
  have HR := Lib.hid (hr.below hb)
  have HN := Lib.hid hn
  have HG := Lib.hid hg
  have HB := Lib.hid hb
  have HW := Lib.hid hW
  have HNO : Hid (∀ j : Nat, j < 0 → E[j]? ≠ some (min a b, max a b)) := fun j h => by omega
  clear hr hb hW hn hrr hg
  go_enter Try.func42, Try.ntmps42
  go_wp2_with fail
  rw [← HW.out]
  go_wp2_with fail
  have HBW0 := Lib.hid (Below.refl W.heap.size W)
  clear i0 i1
  go_loopw [7] (fun s7 wr => ∃ k : Nat, k ≤ n ∧ s7 = .int .i64 k ∧ Hid (∀ j : Nat, j < k → E[j]? ≠ some (min a b, max a b)) ∧ Hid (Below W.heap.size W wr)) (fun s7 _ => n - (intOf s7).toNat)
  case atStart => exact ⟨0, Nat.zero_le _, rfl, HNO, HBW0⟩
  case round =>
    obtain ⟨k, hk, rfl, hO, hbel⟩ := hrel
    obtain ⟨j0, j1⟩ := HJ.out wr hbel.out
    by_cases h1 : k < n
    · have t1 : decide ((k : Int) < (n : Int)) = true := by simp; omega
      have hI0 : (0 : Int) ≤ (k : Int) := by omega
      have hI1 : (k : Int) < (n : Nat) := by omega
      obtain ⟨e, he⟩ : ∃ e, E[k]? = some e := ⟨_, List.getElem?_eq_getElem (by rw [← HN.out]; exact h1)⟩
      obtain ⟨b1, b2, b3⟩ := rightG_edge HG.out he
      obtain ⟨ad, rfl, hal, p0, p1⟩ := (HR.out.below hbel.out) k e he
      obtain ⟨x, y⟩ := e
      simp only [] at p0 p1 b1 b2 b3
      have HE := Lib.hid he
      have hbX : Below wr.heap.size wr (wr.alloc (.cells #[.int .i64 x, .int .i64 y] 56)) := (Below.refl _ _).alloc (Nat.le_refl _) _
      have hEB : (wr.alloc (.cells #[.int .i64 x, .int .i64 y] 56)).heap[wr.heap.size]? = some (.cells #[.int .i64 x, .int .i64 y] 56 (0, 0)) := heap_alloc_new wr _
      have HBX := Lib.hid (next_below hbel.out hbX)
      have HMEM : Hid ((x, y) = (min a b, max a b) → r = true) := fun h => by
        rw [← HRR.out]
        unfold hasG
        rw [decide_eq_true_iff, ← h]
        exact List.mem_of_getElem? HE.out
      have HNX : Hid ((x, y) ≠ (min a b, max a b) → ∀ j : Nat, j < k + 1 → E[j]? ≠ some (min a b, max a b)) := fun h j hj => by
        by_cases e : j = k
        · subst e
          rw [HE.out]
          intro e2
          injection e2 with e2
          exact h e2
        · exact hO.out j (by omega)
      clear hbX he
      go_upto_region 5 with fail
      generalize wr.alloc (.cells #[.int .i64 x, .int .i64 y] 56) = X at *
      clear p0 p1 j0 j1
      obtain ⟨r0, r1, _, _⟩ := cells_two hEB
      obtain ⟨j0, j1⟩ := HJ.out X HBX.out
      have HRC := Lib.hid (refRight_any (some ad) c n (N : Nat) E X (HR.out.below HBX.out) HN.out (by omega))
      clear hEB
      by_cases hm : (x, y) = (min a b, max a b)
      · have HF : Hid (r = true) := HMEM.out hm
        have hx : x = min a b := congrArg Prod.fst hm
        have hy : y = max a b := congrArg Prod.snd hm
        clear hm
        by_cases hab : x = a
        · have d1 : (x == a) = true := by simpa using hab
          have d2 : (y == b) = true := by rw [beq_iff_eq]; omega
          clear hx hy hab
          go_wp2_with fail
          refine HRC.out.mono ?_
          rintro e w5 ⟨rfl, hb5⟩
          rw [HG.out]
          go_wp2_with fail
          go_ret
          exact ⟨by rw [HF.out]; rfl, HB.out.trans ((next_below HBX.out hb5).mono (Nat.le_of_lt hWS))⟩
        · have d1 : (x == a) = false := by simpa using hab
          have d3 : (x == b) = true := by rw [beq_iff_eq]; omega
          have d4 : (y == a) = true := by rw [beq_iff_eq]; omega
          clear hx hy hab
          go_wp2_with fail
          refine HRC.out.mono ?_
          rintro e w5 ⟨rfl, hb5⟩
          rw [HG.out]
          go_wp2_with fail
          go_ret
          exact ⟨by rw [HF.out]; rfl, HB.out.trans ((next_below HBX.out hb5).mono (Nat.le_of_lt hWS))⟩
      · have HN1 := Lib.hid (HNX.out hm)
        have hno1 : ¬ (x = a ∧ y = b) := fun h => hm (by rw [h.1, h.2]; ext <;> simp <;> omega)
        have hno2 : ¬ (x = b ∧ y = a) := fun h => hm (by rw [h.1, h.2]; ext <;> simp <;> omega)
        clear hm
        by_cases hxa : x = a
        · have d1 : (x == a) = true := by simpa using hxa
          have d2 : (y == b) = false := by rw [beq_eq_false_iff_ne]; exact fun h => hno1 ⟨hxa, h⟩
          by_cases hxb : x = b
          · have d3 : (x == b) = true := by simpa using hxb
            have d4 : (y == a) = false := by rw [beq_eq_false_iff_ne]; exact fun h => hno2 ⟨hxb, h⟩
            clear hxa hxb hno1 hno2
            go_wp2_with fail
            go_roundw
            case rel => exact ⟨k + 1, by omega, by go_num, HN1, HBX⟩
            case measure => simp [intOf]; omega
          · have d3 : (x == b) = false := by simpa using hxb
            clear hxa hxb hno1 hno2
            go_wp2_with fail
            go_roundw
            case rel => exact ⟨k + 1, by omega, by go_num, HN1, HBX⟩
            case measure => simp [intOf]; omega
        · have d1 : (x == a) = false := by simpa using hxa
          by_cases hxb : x = b
          · have d3 : (x == b) = true := by simpa using hxb
            have d4 : (y == a) = false := by rw [beq_eq_false_iff_ne]; exact fun h => hno2 ⟨hxb, h⟩
            clear hxa hxb hno1 hno2
            go_wp2_with fail
            go_roundw
            case rel => exact ⟨k + 1, by omega, by go_num, HN1, HBX⟩
            case measure => simp [intOf]; omega
          · have d3 : (x == b) = false := by simpa using hxb
            clear hxa hxb hno1 hno2
            go_wp2_with fail
            go_roundw
            case rel => exact ⟨k + 1, by omega, by go_num, HN1, HBX⟩
            case measure => simp [intOf]; omega
    · obtain rfl : k = n := by omega
      have t1 : decide ((k : Int) < (k : Int)) = false := by simp
      have HF : Hid (r = false) := by
        show _ = _
        rw [← HRR.out]
        unfold hasG
        rw [decide_eq_false_iff_not]
        intro hm
        obtain ⟨j, hj⟩ := List.getElem?_of_mem hm
        have hjl := (List.getElem?_eq_some_iff.1 hj).1
        have hh := HN.out
        exact hO.out j (by omega) hj
      go_wp2_with fail
      go_ret
      exact ⟨by rw [HF.out]; rfl, HB.out.trans (hbel.out.mono (Nat.le_of_lt hWS))⟩
end Go.Proofs.Ytgldlanfbkgfjaa
