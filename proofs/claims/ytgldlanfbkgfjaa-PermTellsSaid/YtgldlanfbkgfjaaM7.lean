/- The reference's Apply. -/
import Derived.Test.YtgldlanfbkgfjaaM6
namespace Go.Proofs.Ytgldlanfbkgfjaa
open Go.RowKit

set_option maxRecDepth 100000 in
set_option maxHeartbeats 16000000 in
theorem refApp_yes (A0 A1 : Option Addr) (c d m n : Nat) (E : List (Int × Int)) (p : List Nat) (w : World) (hr : RdP w A0 E) (hs : RdZ w A1 (iz p)) (hm : m = E.length) (hg : rightG (n : Nat) E = true) (hp : Perm n p) :
    Calls Try.prog 29 #[.agg #[.int .i64 (n : Nat), .slice A0 m c], .slice A1 n d] w fun e w' => GAns e w' (n : Nat) (preL (hApp E p) n n) 0 ∧ Below w.heap.size w w' := by
  obtain ⟨hn0, hn200, hm594⟩ := rightG_bounds hg
  have hn : n ≤ 200 := by omega
  have hm6 : m ≤ 594 := by omega
  obtain ⟨W, hW⟩ : ∃ W, W = (w.alloc (.cells #[.int .i64 (n : Nat), .slice A0 m c] 25)).alloc (.cells #[.int .i64 0, .slice none 0 0] 25) := ⟨_, rfl⟩
  have hbW : Below w.heap.size w W := by rw [hW]; exact ((Below.refl _ _).alloc (Nat.le_refl _) _).alloc (by simp) _
  have hWS : W.heap.size = w.heap.size + 2 := by rw [hW]; simp
  have HW0 : Hid (W.heap[w.heap.size]? = some (.cells #[.int .i64 (n : Nat), .slice A0 m c] 25 (0, 0))) := by
    show _ = _
    rw [hW, heap_alloc_old _ _ (by simp)]
    exact heap_alloc_new w _
  have HW1 : Hid (W.heap[w.heap.size + 1]? = some (.cells #[.int .i64 0, .slice none 0 0] 25 (0, 0))) := by
    show _ = _
    rw [hW]
    have h1 := heap_alloc_new (w.alloc (.cells #[.int .i64 (n : Nat), .slice A0 m c] 25)) (.cells #[.int .i64 0, .slice none 0 0] 25)
    simpa using h1
  obtain ⟨j0, j1, _, _⟩ := cells_two (w := W) HW0.out
  have HA := Lib.hid (hr.below hbW)
  have HB := Lib.hid (hs.below hbW)
  have HM := Lib.hid hm
  have HW := Lib.hid hW
  have HBW := Lib.hid hbW
  have HP := Lib.hid hp
  have HG := Lib.hid hg
  have HP1 := Lib.hid (perm_right hp hn)
  have g3 : ((n : Int) != (n : Int)) = false := by simp
  obtain ⟨i0, hi0, hz0, hz1, hz2⟩ := info_partsI pairinfo
  obtain ⟨h, hh⟩ : ∃ h, h = hApp E p := ⟨_, rfl⟩
  rw [← hh]
  have HH := Lib.hid hh
  have HIL : Hid ((invP p).length = n) := by show _ = _; simp [invP, hp.len]
  clear hr hs hm hg hp hW hbW hWS hm594 hn200 hh
  go_enter Try.func29, Try.ntmps29
  go_wp2_with fail
  rw [← HW.out]
  refine (refRight_any A0 c m (n : Nat) E W HA.out HM.out (by omega)).mono ?_
  rintro e w1 ⟨rfl, hb1⟩
  rw [HG.out]
  have HB1 := Lib.hid hb1
  clear hb1 j0 j1
  obtain ⟨k0, k1, _, _⟩ := cells_two (w := w1) (blk_below HW0.out HB1.out)
  go_wp2_with fail
  refine (refRt_any A1 d n (iz p) w1 (HB.out.below HB1.out) (izl HP.out) hn).mono ?_
  rintro e w2 ⟨rfl, hb2⟩
  rw [HP1.out]
  have HB2 := Lib.hid (next_below HB1.out hb2)
  clear hb2 k0 k1
  obtain ⟨k0, k1, _, _⟩ := cells_two (w := w2) (blk_below HW0.out HB2.out)
  go_wp2_with fail
  refine (refInv_yes A1 d n p w2 (HB.out.below HB2.out) HP.out hn).mono ?_
  rintro e w4 ⟨Iv, ci, rfl, hI, hb4⟩
  have HI := Lib.hid hI
  have HB4 := Lib.hid (next_below HB2.out hb4)
  clear hI hb4 k0 k1
  obtain ⟨k0, k1, _, _⟩ := cells_two (w := w4) (blk_below HW0.out HB4.out)
  obtain ⟨X, hX⟩ : ∃ X, X = w4.alloc (.cells #[.int .i64 (n : Nat), .slice none 0 0] 25) := ⟨_, rfl⟩
  have HX := Lib.hid hX
  have HIX : Hid (AppI w4 n 0 (preL h n 0) (.slice none 0 0) X) := by
    show AppI _ _ _ _ _ _
    rw [hX]
    exact ⟨(Below.refl _ _).alloc (Nat.le_refl _) _, by simp, heap_alloc_new w4 _, World.ownsRow_nil _ _ _ _⟩
  have HJ : Hid (∀ w', Below w4.heap.size w4 w' → w'.cell? ⟨w.heap.size, 0, none⟩ = some (.int .i64 (n : Nat)) ∧ w'.cell? ⟨w.heap.size, 1, none⟩ = some (.slice A0 m c)) := fun w' hb => by
    obtain ⟨e0, e1, _, _⟩ := cells_two (w := w') (blk_below (blk_below HW0.out HB4.out) hb)
    exact ⟨e0, e1⟩
  clear hX
  go_wp2_with fail
  rw [← HX.out]
  clear k0 k1
  go_loopw [9] (fun s9 wr => ∃ (a kr : Nat) (V : Value), a ≤ n ∧ kr ≤ a * 200 ∧ s9 = .int .i64 a ∧ Hid (AppI w4 n kr (preL h n a) V wr)) (fun s9 _ => n - (intOf s9).toNat)
  case atStart => exact ⟨0, 0, _, Nat.zero_le _, by omega, rfl, HIX⟩
  case round =>
    obtain ⟨a, kr, V, ha, hkr, rfl, hI⟩ := hrel
    obtain ⟨j0, j1⟩ := HJ.out wr hI.out.below
    by_cases h1 : a < n
    · have t1 : decide ((a : Int) < (n : Int)) = true := by simp; omega
      obtain ⟨wo, hwo⟩ : ∃ wo, wo = wr := ⟨_, rfl⟩
      rw [← hwo] at hI j0 j1 ⊢
      clear hwo
      have HA1 := Lib.hid h1
      have HI1 : Hid (AppI w4 n kr (preL h n a ++ rowL h a (a + 1)) V wo) := by
        show AppI _ _ _ _ _ _
        rw [rowL_first, List.append_nil]
        exact hI.out
      go_wp2_with fail
      clear j0 j1 hI
      go_loopw [10] (fun s10 wr => ∃ (b kr : Nat) (V : Value), a + 1 ≤ b ∧ b ≤ n ∧ kr ≤ a * 200 + b ∧ s10 = .int .i64 b ∧ Hid (AppI w4 n kr (preL h n a ++ rowL h a b) V wr)) (fun s10 _ => n - (intOf s10).toNat)
      case atStart => exact ⟨a + 1, kr, V, by omega, by omega, by omega, by go_num, HI1⟩
      case round =>
        clear HI1 hkr kr V
        obtain ⟨b, kr, V, hab, hb, hkr, rfl, hI⟩ := hrel
        obtain ⟨j0, j1⟩ := HJ.out wr hI.out.below
        by_cases h2 : b < n
        · have t2 : decide ((b : Int) < (n : Int)) = true := by simp; omega
          have hI0 : (0 : Int) ≤ (a : Int) := by omega
          have hI1 : (a : Int) < (n : Nat) := by omega
          have hJ0 : (0 : Int) ≤ (b : Int) := by omega
          have hJ1 : (b : Int) < (n : Nat) := by omega
          obtain ⟨ai, rfl, hail, e0⟩ := (HI.out.below hI.out.below) a _ (iz_at (by rw [HIL.out]; exact h1))
          obtain ⟨ai2, ea, hail, e1⟩ := (HI.out.below hI.out.below) b _ (iz_at (by rw [HIL.out]; exact h2))
          injection ea with ea
          subst ea
          obtain ⟨x, hx⟩ : ∃ x, x = gn (invP p) a := ⟨_, rfl⟩
          obtain ⟨y, hy⟩ : ∃ y, y = gn (invP p) b := ⟨_, rfl⟩
          obtain ⟨v, hv⟩ : ∃ v, h a b = v := ⟨_, rfl⟩
          have HV := Lib.hid hv
          have HHG : Hid (hasG E (x : Int) (y : Int) = v) := by
            show _ = _
            rw [← hv, HH.out, hx, hy]
            rfl
          rw [← hx] at e0
          rw [← hy] at e1
          have HS : Hid (∀ w', Below wr.heap.size wr w' → Calls Try.prog 42 #[.agg #[.int .i64 (n : Nat), .slice A0 m c], .int .i64 (x : Nat), .int .i64 (y : Nat)] w' fun e w'' => e = .returned (.bool v) ∧ Below w'.heap.size w' w'') := by
            intro w' hb
            rw [← HHG.out]
            exact refHas_any A0 c m n E (x : Nat) (y : Nat) w' (HA.out.below (next_below HB4.out (next_below hI.out.below hb))) HM.out HG.out
          have HKP : Hid (∀ w', Below wr.heap.size wr w' → w'.cell? ⟨w.heap.size, 0, none⟩ = some (.int .i64 (n : Nat)) ∧ w'.cell? ⟨w.heap.size, 1, none⟩ = some (.slice A0 m c) ∧ w'.cell? (ai.add a) = some (.int .i64 (x : Nat)) ∧ w'.cell? (ai.add b) = some (.int .i64 (y : Nat)) ∧ Below wr.heap.size wr w') := fun w' hb => by
            obtain ⟨q0, q1⟩ := HJ.out w' (next_below hI.out.below hb)
            exact ⟨q0, q1, by rw [hb.cell (by rw [block_add]; exact hail)]; exact e0, by rw [hb.cell (by rw [block_add]; exact hail)]; exact e1, hb⟩
          have hD := HKP.out wr.drew (Below.refl _ _).drew
          have HPU : Hid (∀ w6, Below wr.heap.size wr w6 → AppI w4 n kr (preL h n a ++ rowL h a b) V w6) := fun w6 h6 => hI.out.on h6
          clear hx hy hv e0 e1 hail
          go_wp2_with fail
          clear j0 j1
          cases v
          · have HRL : Hid (rowL h a (b + 1) = rowL h a b) := rowL_no HV.out
            go_region_held3 (fun w' => w'.cell? ⟨w.heap.size, 0, none⟩ = some (.int .i64 (n : Nat)) ∧ w'.cell? ⟨w.heap.size, 1, none⟩ = some (.slice A0 m c) ∧ w'.cell? (ai.add a) = some (.int .i64 (x : Nat)) ∧ w'.cell? (ai.add b) = some (.int .i64 (y : Nat)) ∧ Below wr.heap.size wr w')
              (first | exact hS | exact hD)
              (first | (go_at_call 42; refine (HS.out _ (‹_ ∧ _ ∧ _ ∧ _ ∧ Below wr.heap.size wr _›).2.2.2.2).mono ?_; rintro e wn ⟨rfl, hb⟩; have hS := HKP.out wn (next_below (‹_ ∧ _ ∧ _ ∧ _ ∧ Below wr.heap.size wr _›).2.2.2.2 hb)))
            all_goals go_wp2_with fail
            all_goals go_roundw
            case rel =>
              refine ⟨b + 1, kr, V, by omega, by omega, by omega, by go_num, ?_⟩
              rw [HRL.out]
              exact Lib.hid (HPU.out _ hS.2.2.2.2)
            case measure => simp [intOf]; omega
          · have HRL : Hid (rowL h a (b + 1) = rowL h a b ++ [((a : Int), (b : Int))]) := rowL_yes (by omega) HV.out
            have HAP : Hid (∀ (w6 : World) (j : Nat) (u : Value), [Value.int .i64 (a : Nat), .int .i64 (b : Nat)][j]? = some u → (w6.alloc (.cells #[.int .i64 (a : Nat), .int .i64 (b : Nat)] 56)).cell? ((⟨w6.heap.size, 0, none⟩ : Addr).add j) = some u) := fun w6 j u hj => by
              rw [← hj, add_off, World.cell?_alloc_at _ _ _ _ rfl]
              simp
            have HN7 : Hid (∀ w6 w7 V', AppI w4 n kr (preL h n a ++ rowL h a b) V w6 → w7.ownsRow (w4.heap.size + 1) 56 2 V' (kr + 1) (pcells (preL h n a ++ rowL h a b) ++ [.int .i64 (a : Nat), .int .i64 (b : Nat)]) → (w6.alloc (.cells #[.int .i64 (a : Nat), .int .i64 (b : Nat)] 56)).grownBy w7 V.ownBlock →
                w7.cell? ⟨w4.heap.size, 1, none⟩ = some V ∧ w7.frozen? ⟨w4.heap.size, 1, none⟩ = false ∧ Hid (AppI w4 n (kr + 1) (preL h n a ++ rowL h a (b + 1)) V' (w7.setCell ⟨w4.heap.size, 1, none⟩ V'))) := fun w6 w7 V' h6 hr hg => by
              rw [HRL.out, ← List.append_assoc]
              rw [← pcells_push _ ((a : Int), (b : Int))] at hr
              exact (h6.on ((Below.refl _ _).alloc (Nat.le_refl _) _)).push hr hg
            go_region_held3 (fun w' => w'.cell? ⟨w.heap.size, 0, none⟩ = some (.int .i64 (n : Nat)) ∧ w'.cell? ⟨w.heap.size, 1, none⟩ = some (.slice A0 m c) ∧ w'.cell? (ai.add a) = some (.int .i64 (x : Nat)) ∧ w'.cell? (ai.add b) = some (.int .i64 (y : Nat)) ∧ Below wr.heap.size wr w')
              (first | exact hS | exact hD)
              (first | (go_at_call 42; refine (HS.out _ (‹_ ∧ _ ∧ _ ∧ _ ∧ Below wr.heap.size wr _›).2.2.2.2).mono ?_; rintro e wn ⟨rfl, hb⟩; have hS := HKP.out wn (next_below (‹_ ∧ _ ∧ _ ∧ _ ∧ Below wr.heap.size wr _›).2.2.2.2 hb)))
            have HI6 := Lib.hid (HPU.out _ hS.2.2.2.2)
            have l1 := cell_of HI6.out.box 1
            simp only [List.getElem?_toArray, List.getElem?_cons_succ, List.getElem?_cons_zero] at l1
            go_wp2_with (first
              | (at_builtin; refine wpList_append_lies _ rfl (.tmp 59) (.tmp 63) 23 rfl (w4.heap.size + 1) 56 i0 (.agg #[.int .i64 0, .int .i64 0]) 2 16 Try.underlying23 hi0 hz0 hz1 hz2 rfl (by decide) V kr (pcells (preL h n a ++ rowL h a b)) rfl (HI6.out.row.alloc _) ⟨wn.heap.size, 0, none⟩ 1 1 [.int .i64 (a : Nat), .int .i64 (b : Nat)] (by simp [Act.eval]) rfl (HAP.out wn) (by simp [Value.oneCell']) (by omega) (by simp [maxLen]; omega) (by omega) (by have := HI6.out.size; simp; omega) (wn.heap.size + 1) (by simp) ?_; intro g7 c7 w7 hr7 hg7 _ _; obtain ⟨f0, f1, HI7⟩ := HN7.out wn w7 _ HI6.out hr7 hg7))
            go_roundw
            case rel => exact ⟨b + 1, kr + 1, _, by omega, by omega, by omega, by go_num, HI7⟩
            case measure => simp [intOf]; omega
        · obtain rfl : b = n := by omega
          have t2 : decide ((b : Int) < (b : Int)) = false := by simp
          have HI2 : Hid (AppI w4 b kr (preL h b (a + 1)) V wr) := by
            show AppI _ _ _ _ _ _
            rw [preL_step]
            exact hI.out
          go_wp2_with fail
          go_roundw
          case rel => exact ⟨a + 1, kr, V, by omega, by omega, by go_num, HI2⟩
          case measure => simp [intOf]; omega
    · obtain rfl : a = n := by omega
      have t1 : decide ((a : Int) < (a : Int)) = false := by simp
      have hkl := row_many hI.out.row
      have cb0 := cell_of hI.out.box 0
      have cb1 := cell_of hI.out.box 1
      have hb9 := blk_below (blk_below HW1.out HB4.out) hI.out.below
      have hr0 := cell_of hb9 0
      have hr1 := cell_of hb9 1
      have hf0 := free_of hb9 0
      have hf1 := free_of hb9 1
      have HBL := Lib.hid (next_below HBW.out (next_below HB4.out hI.out.below))
      have HKL := Lib.hid hkl
      have HSZ : Hid (w.heap.size + 2 ≤ w4.heap.size) := by
        have h1 := HB4.out.size
        have h2 : W.heap.size = w.heap.size + 2 := by rw [HW.out]; simp
        show _ ≤ _
        omega
      clear hkl hb9
      rcases Joins.ownsRow_forms hI.out.row with ⟨rfl, hk0⟩ | ⟨g, cap, rfl⟩
      · have HNL : Hid (preL h a a = []) := List.length_eq_zero_iff.1 (by have := HKL.out; omega)
        clear hk0
        go_wp2_with fail
        have q0 := World.cell?_setCell_same' wr ⟨w.heap.size + 1, 0, none⟩ (.int .i64 (a : Nat)) (by rw [hr0]; rfl)
        have q1 := World.cell?_setCell_same' (wr.setCell ⟨w.heap.size + 1, 0, none⟩ (.int .i64 (a : Nat))) ⟨w.heap.size + 1, 1, none⟩ (.slice none 0 0) (by rw [World.cell?_setCell_other _ _ _ _ (by simp), hr1]; rfl)
        refine bodyPost_ret (by rw [results_cell_tmp rfl]; simp [go_sem, q0, q1, Result.andThen] <;> rfl) rfl ?_
        refine ⟨⟨none, 0, by rw [HNL.out]; rfl, by rw [HNL.out]; intro q e hq; simp at hq⟩, ?_⟩
        exact ((HBL.out).setCell (p := ⟨w.heap.size + 1, 0, none⟩) (by show _ ≤ w.heap.size + 1; omega) _).setCell (p := ⟨w.heap.size + 1, 1, none⟩) (by show _ ≤ w.heap.size + 1; omega) _
      · have ho5 := ownP_of (HKL.out ▸ hI.out.row)
        have hg1 := (hI.out.row.lt g rfl).1
        have HO5 := Lib.hid ho5
        have HG1 := Lib.hid hg1
        clear ho5 hg1
        go_wp2_with fail
        have q0 := World.cell?_setCell_same' wr ⟨w.heap.size + 1, 0, none⟩ (.int .i64 (a : Nat)) (by rw [hr0]; rfl)
        have q1 := World.cell?_setCell_same' (wr.setCell ⟨w.heap.size + 1, 0, none⟩ (.int .i64 (a : Nat))) ⟨w.heap.size + 1, 1, none⟩ (.slice (some ⟨g, 0, none⟩) kr cap) (by rw [World.cell?_setCell_other _ _ _ _ (by simp), hr1]; rfl)
        refine bodyPost_ret (by rw [results_cell_tmp rfl]; simp [go_sem, q0, q1, Result.andThen] <;> rfl) rfl ?_
        have s1 := HSZ.out
        have s2 := HG1.out
        refine ⟨⟨some ⟨g, 0, none⟩, cap, by rw [← HKL.out], ?_⟩, ?_⟩
        · exact ((HO5.out.set (by show g ≠ w.heap.size + 1; omega) _).set (by show g ≠ w.heap.size + 1; omega) _).rd
        · exact ((HBL.out).setCell (p := ⟨w.heap.size + 1, 0, none⟩) (by show _ ≤ w.heap.size + 1; omega) _).setCell (p := ⟨w.heap.size + 1, 1, none⟩) (by show _ ≤ w.heap.size + 1; omega) _
end Go.Proofs.Ytgldlanfbkgfjaa
