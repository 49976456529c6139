/- The reference of layer 8: ends, On, has, meet, feet. -/
import Derived.Test.YtlkfpphahfendaaU5
import Derived.Test.YtlkfpphahfendaaW29
import Derived.Deep.AppendLies
namespace Go.Proofs.Ytlkfpphahfendaa
set_option maxRecDepth 100000
open Go.RowKit

theorem ends_any (a b v : Int) (w : World) : Calls Try.prog 77 #[.agg #[.int .i64 a, .int .i64 b], .int .i64 v] w fun e w' => e = .returned (.bool (a == v || b == v)) ∧ Below w.heap.size w w' := by
  obtain ⟨W, hW⟩ : ∃ W, W = w.alloc (.cells #[.int .i64 a, .int .i64 b] 44) := ⟨_, rfl⟩
  have hb : Below w.heap.size w W := by rw [hW]; exact (Below.refl _ _).alloc (Nat.le_refl _) _
  obtain ⟨i0, i1, _, _⟩ := cells_two (w := W) (by rw [hW]; exact heap_alloc_new w _)
  have HW := Lib.hid hW
  have HB := Lib.hid hb
  clear hW hb
  cases hp : (a == v) <;> cases hq : (b == v)
  all_goals
    go_enter Try.func77, Try.ntmps77
    go_wp2_with fail
    go_ret
    rw [← HW.out]
    exact ⟨rfl, HB.out⟩
theorem on_any8 (A : Option Addr) (c n : Nat) (W : List (Int × Int)) (v : Int) (w : World) (hr : RdP w A W) (hn : n = W.length) (hs : n ≤ 1000000) :
    Calls Try.prog 59 #[.slice A n c, .int .i64 v] w fun e w' => e = .returned (.bool (onZ W v)) ∧ Below w.heap.size w w' := by
  obtain ⟨r, hrr⟩ : ∃ r, onZ W v = r := ⟨_, rfl⟩
  have HRR := Lib.hid hrr
  rw [hrr]
  have HR := Lib.hid hr
  have HN := Lib.hid hn
  have HB0 := Lib.hid (Below.refl w.heap.size w)
  clear hr hn hrr
  go_enter Try.func59, Try.ntmps59
  go_wp2_with fail
  go_loopw [5] (fun s5 wr => ∃ k : Nat, k ≤ n ∧ s5 = .int .i64 k ∧ Hid (∀ (q : Nat) (e : Int × Int), q < k → W[q]? = some e → (e.1 == v || e.2 == v) = false) ∧ Hid (Below w.heap.size w wr)) (fun s5 _ => n - (intOf s5).toNat)
  case atStart => exact ⟨0, Nat.zero_le _, rfl, (fun q e h => by omega), HB0⟩
  case round =>
    obtain ⟨k, hk, rfl, hO, hbel⟩ := hrel
    by_cases h1 : k < n
    · have t1 : decide ((k : Int) < (n : Int)) = true := by simp; omega
      have hI0 : (0 : Int) ≤ (k : Int) := by omega
      have hI1 : (k : Int) < (n : Nat) := by omega
      obtain ⟨e, he⟩ : ∃ e, W[k]? = some e := ⟨_, List.getElem?_eq_getElem (by rw [← HN.out]; exact h1)⟩
      obtain ⟨ad, rfl, hal, p0, p1⟩ := (HR.out.below hbel.out) k e he
      obtain ⟨x, y⟩ := e
      simp only at p0 p1
      have HE := Lib.hid he
      obtain ⟨q, hq⟩ : ∃ q, (x == v || y == v) = q := ⟨_, rfl⟩
      have HQ := Lib.hid hq
      have HC := ends_any x y v wr
      rw [hq] at HC
      have HC := Lib.hid HC
      clear he hq
      go_wp2_with fail
      refine HC.out.mono ?_
      rintro e w2 ⟨rfl, hb2⟩
      have HB2 := Lib.hid (next_below hbel.out hb2)
      clear p0 p1 hb2 HC
      cases q
      · have HO2 : Hid (∀ (q : Nat) (e : Int × Int), q < k + 1 → W[q]? = some e → (e.1 == v || e.2 == v) = false) := fun q e h he => by
          by_cases e1 : q = k
          · subst e1
            rw [HE.out] at he
            injection he with he
            subst he
            exact HQ.out
          · exact hO.out q e (by omega) he
        go_wp2_with fail
        go_roundw
        case rel => exact ⟨k + 1, by omega, by go_num, HO2, HB2⟩
        case measure => simp [intOf]; omega
      · go_wp2_with fail
        go_ret
        refine ⟨?_, HB2.out⟩
        have hr1 : r = true := by
          rw [← HRR.out]
          unfold onZ
          rw [List.any_eq_true]
          exact ⟨_, List.mem_of_getElem? HE.out, HQ.out⟩
        rw [hr1]
        rfl
    · obtain rfl : k = n := by omega
      have t1 : decide ((k : Int) < (k : Int)) = false := by simp
      go_wp2_with fail
      go_ret
      refine ⟨?_, hbel.out⟩
      have hr0 : r = false := by
        rw [← HRR.out]
        unfold onZ
        rw [List.any_eq_false]
        intro e he
        obtain ⟨q, hq⟩ := List.getElem?_of_mem he
        rw [hO.out q e (by rw [HN.out]; exact (List.getElem?_eq_some_iff.1 hq).1) hq]
        simp
      rw [hr0]
      rfl
theorem has_any8 (A : Option Addr) (c n : Nat) (L : List (Int × Int)) (a b : Int) (w : World) (hr : RdP w A L) (hn : n = L.length) (hs : n ≤ 1000000) :
    Calls Try.prog 35 #[.slice A n c, .agg #[.int .i64 a, .int .i64 b]] w fun e w' => e = .returned (.bool (decide ((a, b) ∈ L))) ∧ Below w.heap.size w w' := by
  obtain ⟨W, hW⟩ : ∃ W, W = w.alloc (.cells #[.int .i64 a, .int .i64 b] 44) := ⟨_, rfl⟩
  have hb : Below w.heap.size w W := by rw [hW]; exact (Below.refl _ _).alloc (Nat.le_refl _) _
  have hWS : w.heap.size < W.heap.size := by rw [hW]; simp
  obtain ⟨i0, i1, _, _⟩ := cells_two (w := W) (by rw [hW]; exact heap_alloc_new w _)
  have HJ : Hid (∀ w', Below W.heap.size W w' → w'.cell? ⟨w.heap.size, 0, none⟩ = some (.int .i64 a) ∧ w'.cell? ⟨w.heap.size, 1, none⟩ = some (.int .i64 b)) := fun w' hb =>
    ⟨by rw [hb.cell (by show w.heap.size < _; omega)]; exact i0, by rw [hb.cell (by show w.heap.size < _; omega)]; exact i1⟩
  obtain ⟨r, hrr⟩ : ∃ r, decide ((a, b) ∈ L) = r := ⟨_, rfl⟩
  have HRR := Lib.hid hrr
  rw [hrr]
  have HR := Lib.hid (hr.below hb)
  have HN := Lib.hid hn
  have HB := Lib.hid hb
  have HW := Lib.hid hW
  have HB0 := Lib.hid (Below.refl W.heap.size W)
  clear hr hn hrr hb hW i0 i1
  go_enter Try.func35, Try.ntmps35
  go_wp2_with fail
  rw [← HW.out]
  have hgt : Try.prog.eqGuardType Try.prog.depth 44 = false := by kernel_rfl
  go_loopw [5] (fun s5 wr => ∃ k : Nat, k ≤ n ∧ s5 = .int .i64 k ∧ Hid (∀ q : Nat, q < k → L[q]? ≠ some (a, b)) ∧ Hid (Below W.heap.size W wr)) (fun s5 _ => n - (intOf s5).toNat)
  case atStart => exact ⟨0, Nat.zero_le _, rfl, (fun q h => by omega), HB0⟩
  case round =>
    obtain ⟨k, hk, rfl, hO, hbel⟩ := hrel
    obtain ⟨j0, j1⟩ := HJ.out wr hbel.out
    by_cases h1 : k < n
    · have t1 : decide ((k : Int) < (n : Int)) = true := by simp; omega
      have hI0 : (0 : Int) ≤ (k : Int) := by omega
      have hI1 : (k : Int) < (n : Nat) := by omega
      obtain ⟨e, he⟩ : ∃ e, L[k]? = some e := ⟨_, List.getElem?_eq_getElem (by rw [← HN.out]; exact h1)⟩
      obtain ⟨ad, rfl, hal, p0, p1⟩ := (HR.out.below hbel.out) k e he
      obtain ⟨x, y⟩ := e
      simp only at p0 p1
      have HE := Lib.hid he
      obtain ⟨q, hq⟩ : ∃ q, (x == a && y == b) = q := ⟨_, rfl⟩
      have HQ := Lib.hid hq
      have HQP : Hid (∀ ww, (Op.equalIn 10000 44 (.agg #[.int .i64 x, .int .i64 y]) (.agg #[.int .i64 a, .int .i64 b])).run Try.prog ww = .ok q ww) := fun ww => by rw [← hq]; exact eqPair x y a b ww
      have hqp := HQP.out
      clear he hq
      go_upto_region 4 with fail
      go_region
      cases q
      · have HO2 : Hid (∀ q : Nat, q < k + 1 → L[q]? ≠ some (a, b)) := fun q h he => by
          by_cases e1 : q = k
          · subst e1
            rw [HE.out] at he
            injection he with he
            injection he with h1 h2
            have := HQ.out
            rw [h1, h2] at this
            simp at this
          · exact hO.out q (by omega) he
        go_wp2_with fail
        go_roundw
        case rel => exact ⟨k + 1, by omega, by go_num, HO2, Lib.hid hbel.out.drew⟩
        case measure => simp [intOf]; omega
      · go_wp2_with fail
        go_ret
        refine ⟨?_, HB.out.trans (hbel.out.drew.mono (by omega))⟩
        have hr1 : r = true := by
          rw [← HRR.out, decide_eq_true_iff]
          have h1 := HQ.out
          simp only [Bool.and_eq_true, beq_iff_eq] at h1
          rw [← h1.1, ← h1.2]
          exact List.mem_of_getElem? HE.out
        rw [hr1]
        rfl
    · obtain rfl : k = n := by omega
      have t1 : decide ((k : Int) < (k : Int)) = false := by simp
      go_wp2_with fail
      go_ret
      refine ⟨?_, HB.out.trans (hbel.out.mono (by omega))⟩
      have hr0 : r = false := by
        rw [← HRR.out]
        rw [decide_eq_false_iff_not]
        intro he
        obtain ⟨q, hq⟩ := List.getElem?_of_mem he
        exact hO.out q (by rw [HN.out]; exact (List.getElem?_eq_some_iff.1 hq).1) hq
      rw [hr0]
      rfl

set_option maxHeartbeats 8000000 in
theorem meet_any (a b c d : Int) (A : Option Addr) (k n : Nat) (W : List (Int × Int)) (w : World) (hr : RdP w A W) (hn : n = W.length) (hs : n ≤ 1000000) :
    Calls Try.prog 58 #[.agg #[.int .i64 a, .int .i64 b], .agg #[.int .i64 c, .int .i64 d], .slice A n k] w fun e w' => e = .returned (.bool (meetP W (a, b) (c, d))) ∧ Below w.heap.size w w' := by
  obtain ⟨w2, hw2⟩ : ∃ w2, w2 = (w.alloc (.cells #[.int .i64 a, .int .i64 b] 44)).alloc (.cells #[.int .i64 c, .int .i64 d] 44) := ⟨_, rfl⟩
  have hb : Below w.heap.size w w2 := by rw [hw2]; exact ((Below.refl _ _).alloc (Nat.le_refl _) _).alloc (by simp) _
  have hs2 : w2.heap.size = w.heap.size + 2 := by rw [hw2]; simp
  obtain ⟨i0, i1, _, _⟩ := cells_two (w := w2) (g := w.heap.size) (by rw [hw2]; exact two_first w _ _)
  obtain ⟨i2, i3, _, _⟩ := cells_two (w := w2) (g := w.heap.size + 1) (by rw [hw2]; exact two_second w _ _)
  have HJ : Hid (∀ w', Below w2.heap.size w2 w' → (w'.cell? ⟨w.heap.size, 0, none⟩ = some (.int .i64 a) ∧ w'.cell? ⟨w.heap.size, 1, none⟩ = some (.int .i64 b)) ∧ w'.cell? ⟨w.heap.size + 1, 0, none⟩ = some (.int .i64 c) ∧ w'.cell? ⟨w.heap.size + 1, 1, none⟩ = some (.int .i64 d)) := fun w' hb =>
    ⟨⟨by rw [hb.cell (by show w.heap.size < _; omega)]; exact i0, by rw [hb.cell (by show w.heap.size < _; omega)]; exact i1⟩, by rw [hb.cell (by show w.heap.size + 1 < _; omega)]; exact i2, by rw [hb.cell (by show w.heap.size + 1 < _; omega)]; exact i3⟩
  obtain ⟨p1, h1⟩ : ∃ p, (c == a || d == a) = p := ⟨_, rfl⟩
  obtain ⟨p2, h2⟩ : ∃ p, onZ W a = p := ⟨_, rfl⟩
  obtain ⟨p3, h3⟩ : ∃ p, (c == b || d == b) = p := ⟨_, rfl⟩
  obtain ⟨p4, h4⟩ : ∃ p, onZ W b = p := ⟨_, rfl⟩
  have hm : meetP W (a, b) (c, d) = ((p1 && !p2) || (p3 && !p4)) := by unfold meetP; rw [h1, h2, h3, h4]
  rw [hm]
  have C1 : Hid (∀ w', Calls Try.prog 77 #[.agg #[.int .i64 c, .int .i64 d], .int .i64 a] w' fun e w'' => e = .returned (.bool p1) ∧ Below w'.heap.size w' w'') := fun w' => by rw [← h1]; exact ends_any c d a w'
  have C3 : Hid (∀ w', Calls Try.prog 77 #[.agg #[.int .i64 c, .int .i64 d], .int .i64 b] w' fun e w'' => e = .returned (.bool p3) ∧ Below w'.heap.size w' w'') := fun w' => by rw [← h3]; exact ends_any c d b w'
  have C2 : Hid (∀ w', Below w2.heap.size w2 w' → Calls Try.prog 59 #[.slice A n k, .int .i64 a] w' fun e w'' => e = .returned (.bool p2) ∧ Below w'.heap.size w' w'') := fun w' hb' => by rw [← h2]; exact on_any8 A k n W a w' ((hr.below hb).below hb') hn hs
  have C4 : Hid (∀ w', Below w2.heap.size w2 w' → Calls Try.prog 59 #[.slice A n k, .int .i64 b] w' fun e w'' => e = .returned (.bool p4) ∧ Below w'.heap.size w' w'') := fun w' hb' => by rw [← h4]; exact on_any8 A k n W b w' ((hr.below hb).below hb') hn hs
  have HW := Lib.hid hw2
  have HB := Lib.hid hb
  clear hw2 hb hr hn hm h1 h2 h3 h4 i0 i1 i2 i3
  go_enter Try.func58, Try.ntmps58
  go_wp2_with fail
  rw [← HW.out]
  refine (C1.out w2).mono ?_
  rintro e w3 ⟨rfl, hb3⟩
  obtain ⟨⟨j0, j1⟩, j2, j3⟩ := HJ.out w3 hb3
  have fin : ∀ w', Below w2.heap.size w2 w' → Below w.heap.size w w' := fun w' h => HB.out.trans (h.mono (by omega))
  have FIN := Lib.hid fin
  have HB3 := Lib.hid hb3
  clear fin hb3
  have tail : Hid (∀ w4, Below w2.heap.size w2 w4 → Hid ((w4.cell? ⟨w.heap.size, 0, none⟩ = some (.int .i64 a) ∧ w4.cell? ⟨w.heap.size, 1, none⟩ = some (.int .i64 b)) ∧ w4.cell? ⟨w.heap.size + 1, 0, none⟩ = some (.int .i64 c) ∧ w4.cell? ⟨w.heap.size + 1, 1, none⟩ = some (.int .i64 d))) := fun w4 h => HJ.out w4 h
  clear tail
  cases p1
  · go_wp2_with fail
    refine (C3.out w3).mono ?_
    rintro e x5 ⟨rfl, hb5⟩
    have HB5 := Lib.hid (next_below HB3.out hb5)
    clear hb5 j0 j1 j2 j3
    obtain ⟨⟨j0, j1⟩, j2, j3⟩ := HJ.out x5 HB5.out
    cases p3
    · go_wp2_with fail
      go_ret
      exact ⟨rfl, FIN.out _ HB5.out⟩
    · go_wp2_with fail
      refine (C4.out x5 HB5.out).mono ?_
      rintro e x6 ⟨rfl, hb6⟩
      have HB6 := Lib.hid (next_below HB5.out hb6)
      cases p4
      all_goals
        go_wp2_with fail
        go_ret
        exact ⟨rfl, FIN.out _ HB6.out⟩
  · go_wp2_with fail
    refine (C2.out w3 HB3.out).mono ?_
    rintro e w4 ⟨rfl, hb4⟩
    have HB4 := Lib.hid (next_below HB3.out hb4)
    clear hb4 j0 j1 j2 j3
    obtain ⟨⟨j0, j1⟩, j2, j3⟩ := HJ.out w4 HB4.out
    cases p2
    · go_wp2_with fail
      go_ret
      exact ⟨rfl, FIN.out _ HB4.out⟩
    · go_wp2_with fail
      refine (C3.out w4).mono ?_
      rintro e y5 ⟨rfl, hb5⟩
      have HB5 := Lib.hid (next_below HB4.out hb5)
      clear hb5 j0 j1 j2 j3
      obtain ⟨⟨j0, j1⟩, j2, j3⟩ := HJ.out y5 HB5.out
      cases p3
      · go_wp2_with fail
        go_ret
        exact ⟨rfl, FIN.out _ HB5.out⟩
      · go_wp2_with fail
        refine (C4.out y5 HB5.out).mono ?_
        rintro e y6 ⟨rfl, hb6⟩
        have HB6 := Lib.hid (next_below HB5.out hb6)
        cases p4
        all_goals
          go_wp2_with fail
          go_ret
          exact ⟨rfl, FIN.out _ HB6.out⟩

def feetR (W l : List (Int × Int)) (k : Nat) : List Int := ((List.range k).filter fun (v : Nat) => onZ W (v : Int) && onZ l (v : Int)).map fun (v : Nat) => (v : Int)
theorem feetR_step (W l : List (Int × Int)) (k : Nat) : feetR W l (k + 1) = if (onZ W (k : Int) && onZ l (k : Int)) = true then feetR W l k ++ [(k : Int)] else feetR W l k := by
  unfold feetR
  rw [List.range_succ, List.filter_append, List.map_append]
  split
  · rename_i h
    simp [h]
  · rename_i h
    have : (onZ W (k : Int) && onZ l (k : Int)) = false := by simpa using h
    simp [this]
theorem feetR_le (W l : List (Int × Int)) (k : Nat) : (feetR W l k).length ≤ k := by
  unfold feetR
  rw [List.length_map]
  exact Nat.le_trans (List.length_filter_le _ _) (by simp)
set_option maxHeartbeats 8000000 in
theorem feet_any (A B : Option Addr) (c d n m N : Nat) (W l : List (Int × Int)) (w : World) (hr : RdP w A W) (hl : RdP w B l) (hn : n = W.length) (hm : m = l.length) (hs : n ≤ 1000000) (ht : m ≤ 1000000) (hN : N ≤ 1000) :
    Calls Try.prog 37 #[.int .i64 (N : Nat), .slice A n c, .slice B m d] w fun e w' => ∃ V, e = .returned V ∧ w'.ownsRow w.heap.size 3 1 V (feetR W l N).length (zs (feetR W l N)) ∧ Below w.heap.size w w' := by
  have C1 : Hid (∀ w' (v : Int), Below w.heap.size w w' → Calls Try.prog 59 #[.slice A n c, .int .i64 v] w' fun e w'' => e = .returned (.bool (onZ W v)) ∧ Below w'.heap.size w' w'') := fun w' v hb' => on_any8 A c n W v w' (hr.below hb') hn hs
  have C2 : Hid (∀ w' (v : Int), Below w.heap.size w w' → Calls Try.prog 59 #[.slice B m d, .int .i64 v] w' fun e w'' => e = .returned (.bool (onZ l v)) ∧ Below w'.heap.size w' w'') := fun w' v hb' => on_any8 B d m l v w' (hl.below hb') hm ht
  obtain ⟨i0, hi0, hz0, hz1, hz2⟩ := info_partsI i64info
  have HB0 := Lib.hid (Below.refl w.heap.size w)
  have HO0 : Hid (w.ownsRow w.heap.size 3 1 (.slice none 0 0) (feetR W l 0).length (zs (feetR W l 0))) := World.ownsRow_nil _ _ _ _
  clear hr hl hn hm
  go_enter Try.func37, Try.ntmps37
  go_wp2_with fail
  go_loopw [8, 7] (fun s8 s7 wr => ∃ (k : Nat) (V : Value), k ≤ N ∧ s8 = .int .i64 k ∧ s7 = V ∧ Hid (wr.ownsRow w.heap.size 3 1 V (feetR W l k).length (zs (feetR W l k))) ∧ Hid (Below w.heap.size w wr)) (fun s8 _ _ => N - (intOf s8).toNat)
  case atStart => exact ⟨0, _, Nat.zero_le _, rfl, rfl, HO0, HB0⟩
  case round =>
    obtain ⟨k, V, hk, rfl, rfl, hO, hbel⟩ := hrel
    by_cases h1 : k < N
    · have t1 : decide ((k : Int) < (N : Int)) = true := by simp; omega
      have hst := feetR_step W l k
      have hle := feetR_le W l k
      obtain ⟨p, hp⟩ : ∃ p, onZ W (k : Int) = p := ⟨_, rfl⟩
      obtain ⟨q, hq⟩ : ∃ q, onZ l (k : Int) = q := ⟨_, rfl⟩
      have D1 := C1.out wr (k : Int) hbel.out
      have D2 : Hid (∀ w', Below w.heap.size w w' → Calls Try.prog 59 #[.slice B m d, .int .i64 (k : Int)] w' fun e w'' => e = .returned (.bool q) ∧ Below w'.heap.size w' w'') := fun w' hb' => by rw [← hq]; exact C2.out w' (k : Int) hb'
      rw [hp] at D1 hst
      rw [hq] at hst
      have HD1 := Lib.hid D1
      have HST := Lib.hid hst
      clear D1 hst hp hq
      go_wp2_with fail
      refine HD1.out.mono ?_
      rintro e w2 ⟨rfl, hb2⟩
      have HB2 := Lib.hid (hbel.out.trans (hb2.mono hbel.out.size))
      have HO2 := Lib.hid (row_below hO.out hb2)
      clear hb2 HD1 hO
      cases p
      · have hsame : feetR W l (k + 1) = feetR W l k := by rw [HST.out]; simp
        go_wp2_with fail
        go_roundw
        case rel => exact ⟨k + 1, _, by omega, by go_num, rfl, by rw [hsame]; exact HO2, HB2⟩
        case measure => simp [intOf]; omega
      · go_wp2_with fail
        refine (D2.out w2 HB2.out).mono ?_
        rintro e w3 ⟨rfl, hb3⟩
        have HB3 := Lib.hid (HB2.out.trans (hb3.mono HB2.out.size))
        have HO3 := Lib.hid (row_below HO2.out hb3)
        clear hb3 HO2
        cases q
        · have hsame : feetR W l (k + 1) = feetR W l k := by rw [HST.out]; simp
          go_wp2_with fail
          go_roundw
          case rel => exact ⟨k + 1, _, by omega, by go_num, rfl, by rw [hsame]; exact HO3, HB3⟩
          case measure => simp [intOf]; omega
        · have HSN : Hid (feetR W l (k + 1) = feetR W l k ++ [(k : Int)]) := by show _ = _; rw [HST.out]; simp
          have HFA := Lib.hid (HO3.out.alloc (.cells #[.int .i64 (k : Int)] 3))
          have HLT : Hid (∀ (i : Nat) (u : Value), [Value.int .i64 (k : Int)][i]? = some u → (w3.alloc (.cells #[.int .i64 (k : Int)] 3)).cell? ((⟨w3.heap.size, 0, none⟩ : Addr).add i) = some u) := fun i u hi => by
            rw [← hi, add_off, World.cell?_alloc_at _ _ _ _ rfl]
            simp
          have hz3 := HB3.out.size
          obtain ⟨fl, hfl⟩ : ∃ fl, (feetR W l k).length = fl := ⟨_, rfl⟩
          rw [hfl] at HFA hle
          have HFL := Lib.hid hfl
          clear hfl
          go_wp2_with (at_builtin; refine wpList_append_lies _ rfl (.tmp 22) (.tmp 24) 41 rfl w.heap.size 3 i0 (.int .i64 0) 1 8 Try.underlying41 hi0 hz0 hz1 hz2 rfl (by decide) _ fl (zs (feetR W l k)) rfl HFA.out ⟨w3.heap.size, 0, none⟩ 1 1 [.int .i64 (k : Int)] (by simp [Act.eval]) rfl HLT.out (by simp [Value.oneCell']) (by omega) (by simp [maxLen]; omega) (by omega) (by simp; omega) (w3.heap.size + 1) (by simp) ?_; intro g7 c7 w7 hr7 hg7 _ _)
          have HB7 := Lib.hid ((HB3.out.alloc hz3 _).grown hg7 (by simp; omega) (fun q e => (HFA.out.lt q e).1))
          have HO7 : Hid (w7.ownsRow w.heap.size 3 1 (.slice (some ⟨g7, 0, none⟩) (fl + 1) c7) (feetR W l (k + 1)).length (zs (feetR W l (k + 1)))) := by
            show World.ownsRow _ _ _ _ _ _ _
            rw [HSN.out, List.length_append, HFL.out, show zs (feetR W l k ++ [(k : Int)]) = zs (feetR W l k) ++ [.int .i64 (k : Int)] by simp [zs, zv]]
            exact hr7
          clear hr7 hg7
          go_wp2_with fail
          go_roundw
          case rel => exact ⟨k + 1, _, by omega, by go_num, rfl, HO7, HB7⟩
          case measure => simp [intOf]; omega
    · obtain rfl : k = N := by omega
      have t1 : decide ((k : Int) < (k : Int)) = false := by simp
      go_wp2_with fail
      go_ret
      exact ⟨_, rfl, hO.out, hbel.out⟩
end Go.Proofs.Ytlkfpphahfendaa
