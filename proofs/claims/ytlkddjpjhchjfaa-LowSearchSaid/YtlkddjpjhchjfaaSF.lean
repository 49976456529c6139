/- LowSearch' walk (layer 5). -/
import Derived.Test.YtlkddjpjhchjfaaZL
import Derived.Test.YtlkddjpjhchjfaaSE
import Derived.Test.YtlkddjpjhchjfaaDM
import Derived.Test.YtlkddjpjhchjfaaW24
namespace Go.Proofs.Ytlkddjpjhchjfaa
set_option maxRecDepth 100000
open Go.RowKit Go.Maps

attribute [local go_sem ↓] min_run
/-- What the statement has of a search at each time. -/
def LI (w2 : World) (N nn kk : Nat) (f : Int → Option Int) (G : Nat → Nat) (X : World) : Prop := Below w2.heap.size w2 X ∧ OwnZ X w2.heap.size (gZ N G) ∧ MapZ X (w2.heap.size + 1) nn f kk
theorem LI.below {w2 X Y : World} {N nn kk : Nat} {f : Int → Option Int} {G : Nat → Nat} (h : LI w2 N nn kk f G X) (hb : Below X.heap.size X Y) : LI w2 N nn kk f G Y := ⟨next_below h.1 hb, h.2.1.below hb, h.2.2.below hb⟩
theorem LI.set {w2 X : World} {N nn kk : Nat} {f : Int → Option Int} {G : Nat → Nat} (h : LI w2 N nn kk f G X) (v z : Nat) : LI w2 N nn kk f (putF G v z) (X.setCell ⟨w2.heap.size, v, none⟩ (.int .i64 (z : Int))) :=
  ⟨h.1.setCell (by show w2.heap.size ≤ w2.heap.size; omega) _, by have := h.2.1.set (v := v) (z : Int); rw [gZ_set] at this; exact this, h.2.2.set (by show w2.heap.size + 1 ≠ w2.heap.size; omega) _⟩
theorem LI.mapped {w2 X w6 : World} {N nn kk kk6 : Nat} {f f6 : Int → Option Int} {G : Nat → Nat} (h : LI w2 N nn kk f G X) (hM : MapZ w6 (w2.heap.size + 1) (nn + 1) f6 kk6) (hg : X.grownBy w6 (some (w2.heap.size + 1))) : LI w2 N (nn + 1) kk6 f6 G w6 := by
  obtain ⟨h1, h2, h3⟩ := h
  have hlt := h3.lt
  have hsame : ∀ i, i < X.heap.size → i ≠ w2.heap.size + 1 → w6.heap[i]? = X.heap[i]? := fun i hi hne => hg.block i hi (by simpa using hne)
  refine ⟨⟨hg.os.trans h1.os, hg.tape.trans h1.tape, hg.output.trans h1.output, Nat.le_trans h1.size hg.size, fun i hi => (hsame i (by omega) (by omega)).trans (h1.block i hi)⟩, ?_, hM⟩
  unfold OwnZ at h2 ⊢
  rw [hsame _ (by omega) (by omega)]
  exact h2
theorem LI.drew {w2 X : World} {N nn kk : Nat} {f : Int → Option Int} {G : Nat → Nat} (h : LI w2 N nn kk f G X) : LI w2 N nn kk f G X.drew := h.below (Below.refl _ _).drew
set_option maxHeartbeats 64000000 in
theorem lowsearch_g (A0 : Option Addr) (c n : Nat) (N : Int) (E : List (Int × Int)) (w : World) (hE : RdP w A0 E) (hn : n = E.length) :
    Calls Try.prog 8 #[.agg #[.int .i64 N, .slice A0 n c]] w fun e w' => e = .returned (.bool true) ∧ Below w.heap.size w w' := by
  obtain ⟨X, hX⟩ : ∃ X, X = w.alloc (.cells #[.int .i64 N, .slice A0 n c] 24) := ⟨_, rfl⟩
  have hb : Below w.heap.size w X := by rw [hX]; exact (Below.refl _ _).alloc (Nat.le_refl _) _
  have hXS : w.heap.size < X.heap.size := by rw [hX]; simp
  obtain ⟨j0, j1, _, _⟩ := cells_two (w := X) (by rw [hX]; exact heap_alloc_new w _)
  have HJ : Hid (∀ w', Below X.heap.size X w' → w'.cell? ⟨w.heap.size, 0, none⟩ = some (.int .i64 N) ∧ w'.cell? ⟨w.heap.size, 1, none⟩ = some (.slice A0 n c)) := fun w' hb =>
    ⟨by rw [hb.cell (by show w.heap.size < _; omega)]; exact j0, by rw [hb.cell (by show w.heap.size < _; omega)]; exact j1⟩
  have HR := right24_any A0 c n N E X (hE.below hb) hn
  obtain ⟨p, hp⟩ : ∃ p, right24 N E = p := ⟨_, rfl⟩
  rw [hp] at HR
  have HR := Lib.hid HR
  have HE := Lib.hid (hE.below hb)
  have HN := Lib.hid hn
  have HX := Lib.hid hX
  have HB := Lib.hid hb
  have HP := Lib.hid hp
  have HXS := Lib.hid hXS
  clear hE hn hX hb hp hXS
  go_enter Try.func8, Try.ntmps8
  go_wp2_with fail
  rw [← HX.out]
  refine HR.out.mono ?_
  rintro e w1 ⟨rfl, hb1⟩
  have HB1 := Lib.hid hb1
  clear hb1 j0 j1 HR
  cases p with
  | false =>
    go_wp2_with fail
    refine (awake5_any w1).mono ?_
    rintro e w2 ⟨rfl, hb2⟩
    go_wp2_with fail
    go_ret
    exact ⟨rfl, HB.out.trans ((next_below HB1.out hb2).mono (Nat.le_of_lt HXS.out))⟩
  | true =>
    have hp := HP.out
    unfold right24 at hp
    rw [Bool.and_eq_true] at hp
    have hg := hp.1
    have hn6 : n ≤ 594 := by rw [HN.out]; exact (rightG_bounds hg).2.2
    obtain ⟨Nn, rfl⟩ := Int.eq_ofNat_of_zero_le (rightG_bounds hg).1
    have hN2 : Nn ≤ 200 := by have := (rightG_bounds hg).2.1; omega
    have HG := Lib.hid hg
    clear hp hg
    obtain ⟨j0, j1⟩ := HJ.out w1 HB1.out
    go_wp2_with fail
    refine (search_any A0 c n Nn E w1 (HE.out.below HB1.out) HN.out HG.out).mono ?_
    rintro e w2 ⟨B, A, U, F, rfl, hOT, hNR, hLF, _, hb2⟩
    have HOT := Lib.hid hOT
    have HNR := Lib.hid hNR
    have HLF := Lib.hid hLF
    have HB2 := Lib.hid (next_below HB1.out hb2)
    obtain ⟨P, hP⟩ : ∃ P, w2.heap.size = P := ⟨_, rfl⟩
    have hmk := make_ints Nn (by omega) w2
    have hmm := @run_makeMap Try.prog
    obtain ⟨W, hW⟩ : ∃ W, W = (w2.alloc (.cells (zs (List.replicate Nn 0)).toArray 3 (0, 0))).alloc (.map #[] 0) := ⟨_, rfl⟩
    have HLI0 : Hid (LI w2 Nn 0 0 (fun _ => none) (upto 0 (numF A)) W) := by
      have h0 : OwnZ (w2.alloc (.cells (zs (List.replicate Nn 0)).toArray 3 (0, 0))) w2.heap.size (gZ Nn (upto 0 (numF A))) := by
        rw [← upto_zero, ← gZ_zero]
        exact heap_alloc_new w2 _
      refine ⟨?_, ?_, ?_⟩
      · rw [hW]; exact ((Below.refl _ _).alloc (Nat.le_refl _) _).alloc (by simp) _
      · rw [hW]; exact h0.below ((Below.refl _ _).alloc (Nat.le_refl _) _)
      · rw [hW]
        have := MapZ.made (w2.alloc (.cells (zs (List.replicate Nn 0)).toArray 3 (0, 0)))
        rw [show (w2.alloc (.cells (zs (List.replicate Nn 0)).toArray 3 (0, 0))).heap.size = w2.heap.size + 1 by simp] at this
        exact this
    have HFX : Hid (∀ X' nn kk f G, LI w2 Nn nn kk f G X' → X'.cell? ⟨w.heap.size, 0, none⟩ = some (.int .i64 (Nn : Nat)) ∧ X'.cell? ⟨w.heap.size, 1, none⟩ = some (.slice A0 n c) ∧ RdP X' A0 E ∧ OwnT X' B (lowL Nn A U F)) := fun X' nn kk f G h =>
      ⟨(HJ.out X' (next_below HB2.out h.1)).1, (HJ.out X' (next_below HB2.out h.1)).2, HE.out.below (next_below HB2.out h.1), HOT.out.below h.1⟩
    have HW := Lib.hid hW
    have HPS := Lib.hid hP
    clear hOT hNR hLF hb2 hW j0 j1
    obtain ⟨j0, j1⟩ := HJ.out w2 HB2.out
    go_upto_region 8 with fail
    rw [← HW.out]
    clear hmk hmm j0 j1
    (try rw [hP])
    clear hP
    go_wp2_with fail
    go_loopw [42] (fun s42 wr => ∃ (k nn kk : Nat) (f : Int → Option Int), k ≤ Nn ∧ nn ≤ k ∧ s42 = .int .i64 k ∧ Hid (MT Nn A k f) ∧ Hid (LI w2 Nn nn kk f (upto k (numF A)) wr)) (fun s42 _ => Nn - (intOf s42).toNat)
    case atStart => exact ⟨0, 0, 0, _, Nat.zero_le _, Nat.zero_le _, rfl, MT.start Nn A, HLI0⟩
    case round =>
      clear HLI0
      obtain ⟨k, nn, kk, f, hk, hnn, rfl, hMT, hLI⟩ := hrel
      by_cases h1 : k < Nn
      · have t1 : decide ((k : Int) < (Nn : Int)) = true := by simp; omega
        have hI0 : (0 : Int) ≤ (k : Int) := by omega
        have hI1 : (k : Int) < (Nn : Nat) := by omega
        obtain ⟨x0, x1, rE, hT⟩ := HFX.out wr _ _ _ _ hLI.out
        obtain ⟨a0, a1, a2⟩ := hT.at_ (lowL_at A U F h1)
        obtain ⟨nv, hnv⟩ : ∃ nv, numF A k = nv := ⟨_, rfl⟩
        obtain ⟨uz, huz⟩ : ∃ uz, upZ U k = uz := ⟨_, rfl⟩
        obtain ⟨fv, hfv⟩ : ∃ fv, F k = fv := ⟨_, rfl⟩
        simp only at a0 a1 a2
        rw [hnv] at a0
        rw [huz] at a1
        rw [hfv] at a2
        obtain ⟨n1, n2, _⟩ := HNR.out.num HG.out h1
        rw [hnv] at n1 n2
        have fz : wr.frozen? ⟨P, k, none⟩ = false := by rw [← HPS.out]; exact free_of hLI.out.2.1 _
        have HNV := Lib.hid hnv
        have HUZ := Lib.hid huz
        have HLI := Lib.hid hLI.out
        have HMT := Lib.hid hMT.out
        have HH1 := Lib.hid h1
        have hplt : P + 1 < wr.heap.size := by have := hLI.out.2.2.lt; rw [← HPS.out]; exact this
        obtain ⟨W1, hW1⟩ : ∃ W1, W1 = wr.alloc (.cells #[.int .i64 (nv : Nat), .int .i64 uz, .int .i64 (fv : Nat)] 57) := ⟨_, rfl⟩
        have hb1 : Below wr.heap.size wr W1 := by rw [hW1]; exact (Below.refl _ _).alloc (Nat.le_refl _) _
        obtain ⟨p1, hp1⟩ : ∃ p1, wr.heap.size = p1 := ⟨_, rfl⟩
        have hxb : W1.heap[p1]? = some (.cells #[.int .i64 (nv : Nat), .int .i64 uz, .int .i64 (fv : Nat)] 57 (0, 0)) := by rw [hW1, ← hp1]; exact heap_alloc_new wr _
        have hL1 := hLI.out.below hb1
        have fz1 : W1.frozen? ⟨P, k, none⟩ = false := by rw [← HPS.out]; exact free_of hL1.2.1 _
        have cz1 : W1.cell? ⟨P, k, none⟩ = some (.int .i64 ((upto k (numF A) k : Nat) : Int)) := by rw [← HPS.out]; exact hL1.2.1.at_ (gZ_at _ h1)
        obtain ⟨Y, hY⟩ : ∃ Y, Y = W1.setCell ⟨P, k, none⟩ (.int .i64 (nv : Nat)) := ⟨_, rfl⟩
        have hLY : LI w2 Nn nn kk f (upto (k + 1) (numF A)) Y := by
          have h := hL1.set k nv
          rw [← HNV.out, upto_step, HNV.out, HPS.out] at h
          rw [hY]
          exact h
        have hxy : Y.heap[p1]? = some (.cells #[.int .i64 (nv : Nat), .int .i64 uz, .int .i64 (fv : Nat)] 57 (0, 0)) := by
          rw [hY, Below.heap_setCell _ _ _ _ (by show p1 ≠ P; omega)]
          exact hxb
        obtain ⟨y0, y1, y2⟩ : W1.cell? ⟨p1, 0, none⟩ = some (.int .i64 (nv : Nat)) ∧ Y.cell? ⟨p1, 0, none⟩ = some (.int .i64 (nv : Nat)) ∧ Y.cell? ⟨p1, 1, none⟩ = some (.int .i64 uz) := by
          refine ⟨?_, ?_, ?_⟩
          · rw [cell_of hxb]; rfl
          · rw [cell_of hxy]; rfl
          · rw [cell_of hxy]; rfl
        have hlk : (Instr.lookup 55 (.map (some (P + 1))) (.int .i64 (nv : Nat)) true).run Try.prog Y = .ok (.tuple #[.int .i64 0, .bool false]) Y := by
          have h := hLY.2.2.look_ok (x := ((nv : Nat) : Int)) (by unfold inI; omega)
          have h0 := hMT.out.no k (Nat.le_refl _) h1
          rw [HNV.out] at h0
          rw [h0, HPS.out] at h
          exact h
        have HLY := Lib.hid hLY
        have HXY := Lib.hid hxy
        have HW1 := Lib.hid hW1
        have HYE := Lib.hid hY
        clear hnv huz hfv hMT hLI rE hT hW1 hb1 hxb hL1 hY hLY hxy
        go_upto_region 11 with fail
        rw [← HW1.out]
        (try rw [hp1])
        clear hp1 a0 a1 a2 x0 x1 fz
        go_upto_region 12 with fail
        rw [← HYE.out]
        clear y0 fz1 cz1
        go_upto_region 13 with fail
        clear hlk y1 y2
        have HRD0 : Hid (∀ X', Below Y.heap.size Y X' → X'.cell? ⟨w.heap.size, 0, none⟩ = some (.int .i64 (Nn : Nat)) ∧ X'.cell? ⟨w.heap.size, 1, none⟩ = some (.slice A0 n c) ∧ X'.cell? ⟨p1, 0, none⟩ = some (.int .i64 (nv : Nat)) ∧ X'.cell? ⟨p1, 1, none⟩ = some (.int .i64 uz) ∧ X'.cell? ⟨p1, 2, none⟩ = some (.int .i64 (fv : Nat))) := fun X' hb => by
          have hx := blk_below HXY.out hb
          obtain ⟨z0, z1, _, _⟩ := HFX.out X' _ _ _ _ (HLY.out.below hb)
          refine ⟨z0, z1, ?_, ?_, ?_⟩ <;> (rw [cell_of hx]; rfl)
        have q1 : decide ((nv : Int) < 1) = false := by simp; omega
        have q2 : decide ((Nn : Int) < (nv : Int)) = false := by simp; omega
        have q2b : decide (Nn < nv) = false := by simp; omega
        go_cut [107] from 59 to 106 (fun s107 wx => s107 = .bool false ∧ Below Y.heap.size Y wx)
        case first =>
          have hd0 : Below Y.heap.size Y Y.drew := (Below.refl _ _).drew
          obtain hu | ⟨u, hu⟩ : U k = none ∨ ∃ u, U k = some u := by
            cases U k with
            | none => exact .inl rfl
            | some u => exact .inr ⟨u, rfl⟩
          · have q3 : decide (uz < -1) = false := by rw [← HUZ.out]; unfold upZ; rw [hu]; decide
            have q4 : decide ((Nn : Int) ≤ uz) = false := by rw [← HUZ.out]; unfold upZ; rw [hu]; simp; omega
            have q5 : decide (0 ≤ uz) = false := by rw [← HUZ.out]; unfold upZ; rw [hu]; decide
            have HRD := HRD0
            clear hu
            refine wp_region_held_drew (S := fun X' => Below Y.heap.size Y X') (by kernel_rfl) hd0 (fun hS => ?_)
            try simp only [List.append_eq, List.cons_append, List.nil_append]
            refine wpAnyH_take (i := 0) (v := ?_) rfl (by kernel_rfl) (by kernel_rfl) (by kernel_rfl) (fun _ _ _ h => h) (Or.inl ⟨by rfl, ?_⟩) hS ?_
            rotate_left
            · intro wz hSw; (try dsimp only at hSw); obtain ⟨s1, s2, s3, s4, s5⟩ := HRD.out wz hSw; go_simp; (try with_reducible rfl)
            try simp only [List.getElem_toArray, List.getElem_cons_zero, List.getElem_cons_succ, Act.put, List.setIfInBounds_toArray, List.set_cons_zero, List.set_cons_succ]
            refine wpAnyH_take (i := 1) (v := ?_) rfl (by kernel_rfl) (by kernel_rfl) (by kernel_rfl) (fun _ _ _ h => h) (Or.inl ⟨by rfl, ?_⟩) hS ?_
            rotate_left
            · intro wz hSw; (try dsimp only at hSw); obtain ⟨s1, s2, s3, s4, s5⟩ := HRD.out wz hSw; go_simp; (try with_reducible rfl)
            try simp only [List.getElem_toArray, List.getElem_cons_zero, List.getElem_cons_succ, Act.put, List.setIfInBounds_toArray, List.set_cons_zero, List.set_cons_succ]
            refine wpAnyH_take (i := 2) (v := ?_) rfl (by kernel_rfl) (by kernel_rfl) (by kernel_rfl) (fun _ _ _ h => h) (Or.inl ⟨by rfl, ?_⟩) hS ?_
            rotate_left
            · intro wz hSw; (try dsimp only at hSw); obtain ⟨s1, s2, s3, s4, s5⟩ := HRD.out wz hSw; go_simp; (try with_reducible rfl)
            try simp only [List.getElem_toArray, List.getElem_cons_zero, List.getElem_cons_succ, Act.put, List.setIfInBounds_toArray, List.set_cons_zero, List.set_cons_succ]
            refine wpAnyH_take (i := 3) (v := ?_) rfl (by kernel_rfl) (by kernel_rfl) (by kernel_rfl) (fun _ _ _ h => h) (Or.inl ⟨by rfl, ?_⟩) hS ?_
            rotate_left
            · intro wz hSw; (try dsimp only at hSw); obtain ⟨s1, s2, s3, s4, s5⟩ := HRD.out wz hSw; go_simp; (try with_reducible rfl)
            try simp only [List.getElem_toArray, List.getElem_cons_zero, List.getElem_cons_succ, Act.put, List.setIfInBounds_toArray, List.set_cons_zero, List.set_cons_succ]
            refine wpAnyH_take (i := 4) (v := ?_) rfl (by kernel_rfl) (by kernel_rfl) (by kernel_rfl) (fun _ _ _ h => h) (Or.inl ⟨by rfl, ?_⟩) hS ?_
            rotate_left
            · intro wz hSw; (try dsimp only at hSw); obtain ⟨s1, s2, s3, s4, s5⟩ := HRD.out wz hSw; go_simp; (try with_reducible rfl)
            try simp only [List.getElem_toArray, List.getElem_cons_zero, List.getElem_cons_succ, Act.put, List.setIfInBounds_toArray, List.set_cons_zero, List.set_cons_succ]
            refine wpAnyH_take (i := 5) (v := ?_) rfl (by kernel_rfl) (by kernel_rfl) (by kernel_rfl) (fun _ _ _ h => h) (Or.inl ⟨by rfl, ?_⟩) hS ?_
            rotate_left
            · intro wz hSw; (try dsimp only at hSw); obtain ⟨s1, s2, s3, s4, s5⟩ := HRD.out wz hSw; go_simp; (try with_reducible rfl)
            try simp only [List.getElem_toArray, List.getElem_cons_zero, List.getElem_cons_succ, Act.put, List.setIfInBounds_toArray, List.set_cons_zero, List.set_cons_succ]
            refine wpAnyH_take (i := 6) (v := ?_) rfl (by kernel_rfl) (by kernel_rfl) (by kernel_rfl) (fun _ _ _ h => h) (Or.inl ⟨by rfl, ?_⟩) hS ?_
            rotate_left
            · intro wz hSw; (try dsimp only at hSw); obtain ⟨s1, s2, s3, s4, s5⟩ := HRD.out wz hSw; go_simp; (try with_reducible rfl)
            try simp only [List.getElem_toArray, List.getElem_cons_zero, List.getElem_cons_succ, Act.put, List.setIfInBounds_toArray, List.set_cons_zero, List.set_cons_succ]
            refine wpAnyH_take (i := 7) (v := ?_) rfl (by kernel_rfl) (by kernel_rfl) (by kernel_rfl) (fun _ _ _ h => h) (Or.inl ⟨by rfl, ?_⟩) hS ?_
            rotate_left
            · intro wz hSw; (try dsimp only at hSw); obtain ⟨s1, s2, s3, s4, s5⟩ := HRD.out wz hSw; go_simp; (try with_reducible rfl)
            try simp only [List.getElem_toArray, List.getElem_cons_zero, List.getElem_cons_succ, Act.put, List.setIfInBounds_toArray, List.set_cons_zero, List.set_cons_succ]
            refine wpAnyH_take (i := 8) (v := ?_) rfl (by kernel_rfl) (by kernel_rfl) (by kernel_rfl) (fun _ _ _ h => h) (Or.inl ⟨by rfl, ?_⟩) hS ?_
            rotate_left
            · intro wz hSw; (try dsimp only at hSw); obtain ⟨s1, s2, s3, s4, s5⟩ := HRD.out wz hSw; go_simp; (try with_reducible rfl)
            try simp only [List.getElem_toArray, List.getElem_cons_zero, List.getElem_cons_succ, Act.put, List.setIfInBounds_toArray, List.set_cons_zero, List.set_cons_succ]
            refine wpAnyH_take (i := 9) (v := ?_) rfl (by kernel_rfl) (by kernel_rfl) (by kernel_rfl) (fun _ _ _ h => h) (Or.inl ⟨by rfl, ?_⟩) hS ?_
            rotate_left
            · intro wz hSw; (try dsimp only at hSw); obtain ⟨s1, s2, s3, s4, s5⟩ := HRD.out wz hSw; go_simp; (try with_reducible rfl)
            try simp only [List.getElem_toArray, List.getElem_cons_zero, List.getElem_cons_succ, Act.put, List.setIfInBounds_toArray, List.set_cons_zero, List.set_cons_succ]
            refine wpAnyH_take (i := 10) (v := ?_) rfl (by kernel_rfl) (by kernel_rfl) (by kernel_rfl) (fun _ _ _ h => h) (Or.inl ⟨by rfl, ?_⟩) hS ?_
            rotate_left
            · intro wz hSw; (try dsimp only at hSw); obtain ⟨s1, s2, s3, s4, s5⟩ := HRD.out wz hSw; go_simp; (try with_reducible rfl)
            try simp only [List.getElem_toArray, List.getElem_cons_zero, List.getElem_cons_succ, Act.put, List.setIfInBounds_toArray, List.set_cons_zero, List.set_cons_succ]
            refine wpAnyH_take (i := 11) (v := ?_) rfl (by kernel_rfl) (by kernel_rfl) (by kernel_rfl) (fun _ _ _ h => h) (Or.inl ⟨by rfl, ?_⟩) hS ?_
            rotate_left
            · intro wz hSw; (try dsimp only at hSw); obtain ⟨s1, s2, s3, s4, s5⟩ := HRD.out wz hSw; go_simp; (try with_reducible rfl)
            try simp only [List.getElem_toArray, List.getElem_cons_zero, List.getElem_cons_succ, Act.put, List.setIfInBounds_toArray, List.set_cons_zero, List.set_cons_succ]
            refine wpAnyH_take (i := 12) (v := ?_) rfl (by kernel_rfl) (by kernel_rfl) (by kernel_rfl) (fun _ _ _ h => h) (Or.inl ⟨by rfl, ?_⟩) hS ?_
            rotate_left
            · intro wz hSw; (try dsimp only at hSw); obtain ⟨s1, s2, s3, s4, s5⟩ := HRD.out wz hSw; go_simp; (try with_reducible rfl)
            try simp only [List.getElem_toArray, List.getElem_cons_zero, List.getElem_cons_succ, Act.put, List.setIfInBounds_toArray, List.set_cons_zero, List.set_cons_succ]
            refine wpAnyH_take (i := 13) (v := ?_) rfl (by kernel_rfl) (by kernel_rfl) (by kernel_rfl) (fun _ _ _ h => h) (Or.inl ⟨by rfl, ?_⟩) hS ?_
            rotate_left
            · intro wz hSw; (try dsimp only at hSw); obtain ⟨s1, s2, s3, s4, s5⟩ := HRD.out wz hSw; go_simp; (try with_reducible rfl)
            try simp only [List.getElem_toArray, List.getElem_cons_zero, List.getElem_cons_succ, Act.put, List.setIfInBounds_toArray, List.set_cons_zero, List.set_cons_succ]
            refine wpAnyH_take (i := 14) (v := ?_) rfl (by kernel_rfl) (by kernel_rfl) (by kernel_rfl) (fun _ _ _ h => h) (Or.inl ⟨by rfl, ?_⟩) hS ?_
            rotate_left
            · intro wz hSw; (try dsimp only at hSw); obtain ⟨s1, s2, s3, s4, s5⟩ := HRD.out wz hSw; go_simp; (try with_reducible rfl)
            try simp only [List.getElem_toArray, List.getElem_cons_zero, List.getElem_cons_succ, Act.put, List.setIfInBounds_toArray, List.set_cons_zero, List.set_cons_succ]
            refine wpAnyH_take (i := 15) (v := ?_) rfl (by kernel_rfl) (by kernel_rfl) (by kernel_rfl) (fun _ _ _ h => h) (Or.inl ⟨by rfl, ?_⟩) hS ?_
            rotate_left
            · intro wz hSw; (try dsimp only at hSw); obtain ⟨s1, s2, s3, s4, s5⟩ := HRD.out wz hSw; go_simp; (try with_reducible rfl)
            try simp only [List.getElem_toArray, List.getElem_cons_zero, List.getElem_cons_succ, Act.put, List.setIfInBounds_toArray, List.set_cons_zero, List.set_cons_succ]
            refine wpAnyH_take (i := 16) (v := ?_) rfl (by kernel_rfl) (by kernel_rfl) (by kernel_rfl) (fun _ _ _ h => h) (Or.inl ⟨by rfl, ?_⟩) hS ?_
            rotate_left
            · intro wz hSw; (try dsimp only at hSw); obtain ⟨s1, s2, s3, s4, s5⟩ := HRD.out wz hSw; go_simp; (try with_reducible rfl)
            try simp only [List.getElem_toArray, List.getElem_cons_zero, List.getElem_cons_succ, Act.put, List.setIfInBounds_toArray, List.set_cons_zero, List.set_cons_succ]
            refine wpAnyH_take (i := 17) (v := ?_) rfl (by kernel_rfl) (by kernel_rfl) (by kernel_rfl) (fun _ _ _ h => h) (Or.inl ⟨by rfl, ?_⟩) hS ?_
            rotate_left
            · intro wz hSw; (try dsimp only at hSw); obtain ⟨s1, s2, s3, s4, s5⟩ := HRD.out wz hSw; go_simp; (try with_reducible rfl)
            try simp only [List.getElem_toArray, List.getElem_cons_zero, List.getElem_cons_succ, Act.put, List.setIfInBounds_toArray, List.set_cons_zero, List.set_cons_succ]
            refine wpAnyH_take (i := 18) (v := ?_) rfl (by kernel_rfl) (by kernel_rfl) (by kernel_rfl) (fun _ _ _ h => h) (Or.inl ⟨by rfl, ?_⟩) hS ?_
            rotate_left
            · intro wz hSw; (try dsimp only at hSw); obtain ⟨s1, s2, s3, s4, s5⟩ := HRD.out wz hSw; go_simp; (try with_reducible rfl)
            try simp only [List.getElem_toArray, List.getElem_cons_zero, List.getElem_cons_succ, Act.put, List.setIfInBounds_toArray, List.set_cons_zero, List.set_cons_succ]
            refine wpAnyH_take (i := 19) (v := ?_) rfl (by kernel_rfl) (by kernel_rfl) (by kernel_rfl) (fun _ _ _ h => h) (Or.inl ⟨by rfl, ?_⟩) hS ?_
            rotate_left
            · intro wz hSw; (try dsimp only at hSw); obtain ⟨s1, s2, s3, s4, s5⟩ := HRD.out wz hSw; go_simp; (try with_reducible rfl)
            try simp only [List.getElem_toArray, List.getElem_cons_zero, List.getElem_cons_succ, Act.put, List.setIfInBounds_toArray, List.set_cons_zero, List.set_cons_succ]
            refine wpAnyH_take (i := 20) (v := ?_) rfl (by kernel_rfl) (by kernel_rfl) (by kernel_rfl) (fun _ _ _ h => h) (Or.inl ⟨by rfl, ?_⟩) hS ?_
            rotate_left
            · intro wz hSw; (try dsimp only at hSw); obtain ⟨s1, s2, s3, s4, s5⟩ := HRD.out wz hSw; go_simp; (try with_reducible rfl)
            try simp only [List.getElem_toArray, List.getElem_cons_zero, List.getElem_cons_succ, Act.put, List.setIfInBounds_toArray, List.set_cons_zero, List.set_cons_succ]
            refine wpAnyH_take (i := 21) (v := ?_) rfl (by kernel_rfl) (by kernel_rfl) (by kernel_rfl) (fun _ _ _ h => h) (Or.inl ⟨by rfl, ?_⟩) hS ?_
            rotate_left
            · intro wz hSw; (try dsimp only at hSw); obtain ⟨s1, s2, s3, s4, s5⟩ := HRD.out wz hSw; go_simp; (try with_reducible rfl)
            try simp only [List.getElem_toArray, List.getElem_cons_zero, List.getElem_cons_succ, Act.put, List.setIfInBounds_toArray, List.set_cons_zero, List.set_cons_succ]
            refine wpAnyH_take (i := 22) (v := ?_) rfl (by kernel_rfl) (by kernel_rfl) (by kernel_rfl) (fun _ _ _ h => h) (Or.inl ⟨by rfl, ?_⟩) hS ?_
            rotate_left
            · intro wz hSw; (try dsimp only at hSw); obtain ⟨s1, s2, s3, s4, s5⟩ := HRD.out wz hSw; go_simp; (try with_reducible rfl)
            try simp only [List.getElem_toArray, List.getElem_cons_zero, List.getElem_cons_succ, Act.put, List.setIfInBounds_toArray, List.set_cons_zero, List.set_cons_succ]
            refine wpAnyH_take (i := 23) (v := ?_) rfl (by kernel_rfl) (by kernel_rfl) (by kernel_rfl) (fun _ _ _ h => h) (Or.inl ⟨by rfl, ?_⟩) hS ?_
            rotate_left
            · intro wz hSw; (try dsimp only at hSw); obtain ⟨s1, s2, s3, s4, s5⟩ := HRD.out wz hSw; go_simp; (try with_reducible rfl)
            try simp only [List.getElem_toArray, List.getElem_cons_zero, List.getElem_cons_succ, Act.put, List.setIfInBounds_toArray, List.set_cons_zero, List.set_cons_succ]
            refine wpAnyH_take (i := 24) (v := ?_) rfl (by kernel_rfl) (by kernel_rfl) (by kernel_rfl) (fun _ _ _ h => h) (Or.inl ⟨by rfl, ?_⟩) hS ?_
            rotate_left
            · intro wz hSw; (try dsimp only at hSw); obtain ⟨s1, s2, s3, s4, s5⟩ := HRD.out wz hSw; go_simp; (try with_reducible rfl)
            try simp only [List.getElem_toArray, List.getElem_cons_zero, List.getElem_cons_succ, Act.put, List.setIfInBounds_toArray, List.set_cons_zero, List.set_cons_succ]
            refine wpAnyH_take (i := 25) (v := ?_) rfl (by kernel_rfl) (by kernel_rfl) (by kernel_rfl) (fun _ _ _ h => h) (Or.inl ⟨by rfl, ?_⟩) hS ?_
            rotate_left
            · intro wz hSw; (try dsimp only at hSw); obtain ⟨s1, s2, s3, s4, s5⟩ := HRD.out wz hSw; go_simp; (try with_reducible rfl)
            try simp only [List.getElem_toArray, List.getElem_cons_zero, List.getElem_cons_succ, Act.put, List.setIfInBounds_toArray, List.set_cons_zero, List.set_cons_succ]
            refine wpAnyH_take (i := 26) (v := ?_) rfl (by kernel_rfl) (by kernel_rfl) (by kernel_rfl) (fun _ _ _ h => h) (Or.inl ⟨by rfl, ?_⟩) hS ?_
            rotate_left
            · intro wz hSw; (try dsimp only at hSw); obtain ⟨s1, s2, s3, s4, s5⟩ := HRD.out wz hSw; go_simp; (try with_reducible rfl)
            try simp only [List.getElem_toArray, List.getElem_cons_zero, List.getElem_cons_succ, Act.put, List.setIfInBounds_toArray, List.set_cons_zero, List.set_cons_succ]
            refine wpAnyH_take (i := 27) (v := ?_) rfl (by kernel_rfl) (by kernel_rfl) (by kernel_rfl) (fun _ _ _ h => h) (Or.inl ⟨by rfl, ?_⟩) hS ?_
            rotate_left
            · intro wz hSw; (try dsimp only at hSw); obtain ⟨s1, s2, s3, s4, s5⟩ := HRD.out wz hSw; go_simp; (try with_reducible rfl)
            try simp only [List.getElem_toArray, List.getElem_cons_zero, List.getElem_cons_succ, Act.put, List.setIfInBounds_toArray, List.set_cons_zero, List.set_cons_succ]
            refine wpAnyH_take (i := 28) (v := ?_) rfl (by kernel_rfl) (by kernel_rfl) (by kernel_rfl) (fun _ _ _ h => h) (Or.inl ⟨by rfl, ?_⟩) hS ?_
            rotate_left
            · intro wz hSw; (try dsimp only at hSw); obtain ⟨s1, s2, s3, s4, s5⟩ := HRD.out wz hSw; go_simp; (try with_reducible rfl)
            try simp only [List.getElem_toArray, List.getElem_cons_zero, List.getElem_cons_succ, Act.put, List.setIfInBounds_toArray, List.set_cons_zero, List.set_cons_succ]
            refine wpAnyH_take (i := 29) (v := ?_) rfl (by kernel_rfl) (by kernel_rfl) (by kernel_rfl) (fun _ _ _ h => h) (Or.inl ⟨by rfl, ?_⟩) hS ?_
            rotate_left
            · intro wz hSw; (try dsimp only at hSw); obtain ⟨s1, s2, s3, s4, s5⟩ := HRD.out wz hSw; go_simp; (try with_reducible rfl)
            try simp only [List.getElem_toArray, List.getElem_cons_zero, List.getElem_cons_succ, Act.put, List.setIfInBounds_toArray, List.set_cons_zero, List.set_cons_succ]
            refine wpAnyH_take (i := 30) (v := undef) rfl (by kernel_rfl) (by kernel_rfl) (by kernel_rfl) (fun _ _ _ h => h) (Or.inr ⟨by rfl, rfl⟩) hS ?_
            try simp only [List.getElem_toArray, List.getElem_cons_zero, List.getElem_cons_succ, Act.put, List.setIfInBounds_toArray, List.set_cons_zero, List.set_cons_succ]
            refine wpAnyH_take (i := 31) (v := undef) rfl (by kernel_rfl) (by kernel_rfl) (by kernel_rfl) (fun _ _ _ h => h) (Or.inr ⟨by rfl, rfl⟩) hS ?_
            try simp only [List.getElem_toArray, List.getElem_cons_zero, List.getElem_cons_succ, Act.put, List.setIfInBounds_toArray, List.set_cons_zero, List.set_cons_succ]
            refine wpAnyH_take (i := 32) (v := undef) rfl (by kernel_rfl) (by kernel_rfl) (by kernel_rfl) (fun _ _ _ h => h) (Or.inr ⟨by rfl, rfl⟩) hS ?_
            try simp only [List.getElem_toArray, List.getElem_cons_zero, List.getElem_cons_succ, Act.put, List.setIfInBounds_toArray, List.set_cons_zero, List.set_cons_succ]
            refine wpAnyH_take (i := 33) (v := undef) rfl (by kernel_rfl) (by kernel_rfl) (by kernel_rfl) (fun _ _ _ h => h) (Or.inr ⟨by rfl, rfl⟩) hS ?_
            try simp only [List.getElem_toArray, List.getElem_cons_zero, List.getElem_cons_succ, Act.put, List.setIfInBounds_toArray, List.set_cons_zero, List.set_cons_succ]
            refine wpAnyH_take (i := 34) (v := undef) rfl (by kernel_rfl) (by kernel_rfl) (by kernel_rfl) (fun _ _ _ h => h) (Or.inr ⟨by rfl, rfl⟩) hS ?_
            try simp only [List.getElem_toArray, List.getElem_cons_zero, List.getElem_cons_succ, Act.put, List.setIfInBounds_toArray, List.set_cons_zero, List.set_cons_succ]
            refine wpAnyH_take (i := 35) (v := undef) rfl (by kernel_rfl) (by kernel_rfl) (by kernel_rfl) (fun _ _ _ h => h) (Or.inr ⟨by rfl, rfl⟩) hS ?_
            try simp only [List.getElem_toArray, List.getElem_cons_zero, List.getElem_cons_succ, Act.put, List.setIfInBounds_toArray, List.set_cons_zero, List.set_cons_succ]
            refine wpAnyH_take (i := 36) (v := undef) rfl (by kernel_rfl) (by kernel_rfl) (by kernel_rfl) (fun _ _ _ h => h) (Or.inr ⟨by rfl, rfl⟩) hS ?_
            try simp only [List.getElem_toArray, List.getElem_cons_zero, List.getElem_cons_succ, Act.put, List.setIfInBounds_toArray, List.set_cons_zero, List.set_cons_succ]
            refine wpAnyH_take (i := 37) (v := undef) rfl (by kernel_rfl) (by kernel_rfl) (by kernel_rfl) (fun _ _ _ h => h) (Or.inr ⟨by rfl, rfl⟩) hS ?_
            try simp only [List.getElem_toArray, List.getElem_cons_zero, List.getElem_cons_succ, Act.put, List.setIfInBounds_toArray, List.set_cons_zero, List.set_cons_succ]
            refine wpAnyH_take (i := 38) (v := undef) rfl (by kernel_rfl) (by kernel_rfl) (by kernel_rfl) (fun _ _ _ h => h) (Or.inr ⟨by rfl, rfl⟩) hS ?_
            try simp only [List.getElem_toArray, List.getElem_cons_zero, List.getElem_cons_succ, Act.put, List.setIfInBounds_toArray, List.set_cons_zero, List.set_cons_succ]
            refine wpAnyH_take (i := 39) (v := undef) rfl (by kernel_rfl) (by kernel_rfl) (by kernel_rfl) (fun _ _ _ h => h) (Or.inr ⟨by rfl, rfl⟩) hS ?_
            try simp only [List.getElem_toArray, List.getElem_cons_zero, List.getElem_cons_succ, Act.put, List.setIfInBounds_toArray, List.set_cons_zero, List.set_cons_succ]
            refine wpAnyH_take (i := 40) (v := undef) rfl (by kernel_rfl) (by kernel_rfl) (by kernel_rfl) (fun _ _ _ h => h) (Or.inr ⟨by rfl, rfl⟩) hS ?_
            try simp only [List.getElem_toArray, List.getElem_cons_zero, List.getElem_cons_succ, Act.put, List.setIfInBounds_toArray, List.set_cons_zero, List.set_cons_succ]
            refine wpAnyH_take (i := 41) (v := undef) rfl (by kernel_rfl) (by kernel_rfl) (by kernel_rfl) (fun _ _ _ h => h) (Or.inr ⟨by rfl, rfl⟩) hS ?_
            try simp only [List.getElem_toArray, List.getElem_cons_zero, List.getElem_cons_succ, Act.put, List.setIfInBounds_toArray, List.set_cons_zero, List.set_cons_succ]
            refine wpAnyH_take (i := 42) (v := undef) rfl (by kernel_rfl) (by kernel_rfl) (by kernel_rfl) (fun _ _ _ h => h) (Or.inr ⟨by rfl, rfl⟩) hS ?_
            try simp only [List.getElem_toArray, List.getElem_cons_zero, List.getElem_cons_succ, Act.put, List.setIfInBounds_toArray, List.set_cons_zero, List.set_cons_succ]
            refine wpAnyH_take (i := 43) (v := undef) rfl (by kernel_rfl) (by kernel_rfl) (by kernel_rfl) (fun _ _ _ h => h) (Or.inr ⟨by rfl, rfl⟩) hS ?_
            try simp only [List.getElem_toArray, List.getElem_cons_zero, List.getElem_cons_succ, Act.put, List.setIfInBounds_toArray, List.set_cons_zero, List.set_cons_succ]
            refine wpAnyH_take (i := 44) (v := undef) rfl (by kernel_rfl) (by kernel_rfl) (by kernel_rfl) (fun _ _ _ h => h) (Or.inr ⟨by rfl, rfl⟩) hS ?_
            try simp only [List.getElem_toArray, List.getElem_cons_zero, List.getElem_cons_succ, Act.put, List.setIfInBounds_toArray, List.set_cons_zero, List.set_cons_succ]
            refine wpAnyH_take (i := 45) (v := undef) rfl (by kernel_rfl) (by kernel_rfl) (by kernel_rfl) (fun _ _ _ h => h) (Or.inr ⟨by rfl, rfl⟩) hS ?_
            try simp only [List.getElem_toArray, List.getElem_cons_zero, List.getElem_cons_succ, Act.put, List.setIfInBounds_toArray, List.set_cons_zero, List.set_cons_succ]
            refine wpAnyH_take (i := 46) (v := undef) rfl (by kernel_rfl) (by kernel_rfl) (by kernel_rfl) (fun _ _ _ h => h) (Or.inr ⟨by rfl, rfl⟩) hS ?_
            try simp only [List.getElem_toArray, List.getElem_cons_zero, List.getElem_cons_succ, Act.put, List.setIfInBounds_toArray, List.set_cons_zero, List.set_cons_succ]
            refine wpAnyH_take (i := 47) (v := ?_) rfl (by kernel_rfl) (by kernel_rfl) (by kernel_rfl) (fun _ _ _ h => h) (Or.inl ⟨by rfl, ?_⟩) hS ?_
            rotate_left
            · intro wz hSw; (try dsimp only at hSw); obtain ⟨s1, s2, s3, s4, s5⟩ := HRD.out wz hSw; go_simp; (try with_reducible rfl)
            try simp only [List.getElem_toArray, List.getElem_cons_zero, List.getElem_cons_succ, Act.put, List.setIfInBounds_toArray, List.set_cons_zero, List.set_cons_succ]
            refine wpAnyH_take (i := 48) (v := ?_) rfl (by kernel_rfl) (by kernel_rfl) (by kernel_rfl) (fun _ _ _ h => h) (Or.inl ⟨by rfl, ?_⟩) hS ?_
            rotate_left
            · intro wz hSw; (try dsimp only at hSw); obtain ⟨s1, s2, s3, s4, s5⟩ := HRD.out wz hSw; go_simp; (try with_reducible rfl)
            try simp only [List.getElem_toArray, List.getElem_cons_zero, List.getElem_cons_succ, Act.put, List.setIfInBounds_toArray, List.set_cons_zero, List.set_cons_succ]
            refine wpAnyH_done (by kernel_rfl) ?_ _
            go_wp2_with fail
            go_meet
            exact ⟨rfl, hS⟩
          · obtain ⟨huN, _⟩ := HNR.out.up_lt HG.out hu
            have hup := ((HNR.out.forest HG.out).ups _ _ hu)
            obtain rfl : uz = (u : Int) := by rw [← HUZ.out]; unfold upZ; rw [hu]
            obtain ⟨nu, hnu⟩ : ∃ nu, numF A u = nu := ⟨_, rfl⟩
            have q3 : decide ((u : Int) < -1) = false := decide_eq_false (by omega)
            have q4 : decide ((Nn : Int) ≤ (u : Int)) = false := decide_eq_false (by omega)
            have q5 : decide (0 ≤ (u : Int)) = true := decide_eq_true (by omega)
            have q6 : decide ((nv : Int) ≤ (nu : Int)) = false := by have := hup.1; rw [hnu, HNV.out] at this; simp; omega
            have q4b : decide (Nn ≤ u) = false := by simp; omega
            have q6b : decide (nv ≤ nu) = false := by have := hup.1; rw [hnu, HNV.out] at this; simp; omega
            have hU0 : (0 : Int) ≤ (u : Int) := by omega
            have hU1 : (u : Int) < (Nn : Nat) := by omega
            have hhs : hasG E (k : Int) (u : Int) = true := (hasG_adj HG.out HH1.out huN).2 (tabG_sym HG.out hup.2)
            have HHAS : Hid (∀ X', Below Y.heap.size Y X' → Calls Try.prog 37 #[.agg #[.int .i64 (Nn : Nat), .slice A0 n c], .int .i64 (k : Nat), .int .i64 (u : Nat)] X' fun e w' => e = .returned (.bool true) ∧ Below X'.heap.size X' w') := fun X' hb => by
              obtain ⟨_, _, rE, _⟩ := HFX.out X' _ _ _ _ (HLY.out.below hb)
              have h := has_any A0 c n Nn E (k : Int) (u : Int) X' rE HN.out HG.out
              rw [hhs] at h
              exact h
            have HRD : Hid (∀ X', Below Y.heap.size Y X' → X'.cell? ⟨w.heap.size, 0, none⟩ = some (.int .i64 (Nn : Nat)) ∧ X'.cell? ⟨w.heap.size, 1, none⟩ = some (.slice A0 n c) ∧ X'.cell? ⟨p1, 0, none⟩ = some (.int .i64 (nv : Nat)) ∧ X'.cell? ⟨p1, 1, none⟩ = some (.int .i64 (u : Nat)) ∧ X'.cell? ⟨p1, 2, none⟩ = some (.int .i64 (fv : Nat)) ∧ X'.cell? ⟨B, u * 3, none⟩ = some (.int .i64 (nu : Nat))) := fun X' hb => by
              obtain ⟨z1, z2, z3, z4, z5⟩ := HRD0.out X' hb
              obtain ⟨_, _, _, hT⟩ := HFX.out X' _ _ _ _ (HLY.out.below hb)
              have h := (hT.at_ (lowL_at A U F huN)).1
              simp only at h
              rw [hnu] at h
              exact ⟨z1, z2, z3, z4, z5, h⟩
            clear hu huN hup hnu hhs
            refine wp_region_held_drew (S := fun X' => Below Y.heap.size Y X') (by kernel_rfl) hd0 (fun hS => ?_)
            try simp only [List.append_eq, List.cons_append, List.nil_append]
            refine wpAnyH_take (i := 0) (v := ?_) rfl (by kernel_rfl) (by kernel_rfl) (by kernel_rfl) (fun _ _ _ h => h) (Or.inl ⟨by rfl, ?_⟩) hS ?_
            rotate_left
            · intro wz hSw; (try dsimp only at hSw); obtain ⟨s1, s2, s3, s4, s5, s6⟩ := HRD.out wz hSw; go_simp; (try with_reducible rfl)
            try simp only [List.getElem_toArray, List.getElem_cons_zero, List.getElem_cons_succ, Act.put, List.setIfInBounds_toArray, List.set_cons_zero, List.set_cons_succ]
            refine wpAnyH_take (i := 1) (v := ?_) rfl (by kernel_rfl) (by kernel_rfl) (by kernel_rfl) (fun _ _ _ h => h) (Or.inl ⟨by rfl, ?_⟩) hS ?_
            rotate_left
            · intro wz hSw; (try dsimp only at hSw); obtain ⟨s1, s2, s3, s4, s5, s6⟩ := HRD.out wz hSw; go_simp; (try with_reducible rfl)
            try simp only [List.getElem_toArray, List.getElem_cons_zero, List.getElem_cons_succ, Act.put, List.setIfInBounds_toArray, List.set_cons_zero, List.set_cons_succ]
            refine wpAnyH_take (i := 2) (v := ?_) rfl (by kernel_rfl) (by kernel_rfl) (by kernel_rfl) (fun _ _ _ h => h) (Or.inl ⟨by rfl, ?_⟩) hS ?_
            rotate_left
            · intro wz hSw; (try dsimp only at hSw); obtain ⟨s1, s2, s3, s4, s5, s6⟩ := HRD.out wz hSw; go_simp; (try with_reducible rfl)
            try simp only [List.getElem_toArray, List.getElem_cons_zero, List.getElem_cons_succ, Act.put, List.setIfInBounds_toArray, List.set_cons_zero, List.set_cons_succ]
            refine wpAnyH_take (i := 3) (v := ?_) rfl (by kernel_rfl) (by kernel_rfl) (by kernel_rfl) (fun _ _ _ h => h) (Or.inl ⟨by rfl, ?_⟩) hS ?_
            rotate_left
            · intro wz hSw; (try dsimp only at hSw); obtain ⟨s1, s2, s3, s4, s5, s6⟩ := HRD.out wz hSw; go_simp; (try with_reducible rfl)
            try simp only [List.getElem_toArray, List.getElem_cons_zero, List.getElem_cons_succ, Act.put, List.setIfInBounds_toArray, List.set_cons_zero, List.set_cons_succ]
            refine wpAnyH_take (i := 4) (v := ?_) rfl (by kernel_rfl) (by kernel_rfl) (by kernel_rfl) (fun _ _ _ h => h) (Or.inl ⟨by rfl, ?_⟩) hS ?_
            rotate_left
            · intro wz hSw; (try dsimp only at hSw); obtain ⟨s1, s2, s3, s4, s5, s6⟩ := HRD.out wz hSw; go_simp; (try with_reducible rfl)
            try simp only [List.getElem_toArray, List.getElem_cons_zero, List.getElem_cons_succ, Act.put, List.setIfInBounds_toArray, List.set_cons_zero, List.set_cons_succ]
            refine wpAnyH_take (i := 5) (v := ?_) rfl (by kernel_rfl) (by kernel_rfl) (by kernel_rfl) (fun _ _ _ h => h) (Or.inl ⟨by rfl, ?_⟩) hS ?_
            rotate_left
            · intro wz hSw; (try dsimp only at hSw); obtain ⟨s1, s2, s3, s4, s5, s6⟩ := HRD.out wz hSw; go_simp; (try with_reducible rfl)
            try simp only [List.getElem_toArray, List.getElem_cons_zero, List.getElem_cons_succ, Act.put, List.setIfInBounds_toArray, List.set_cons_zero, List.set_cons_succ]
            refine wpAnyH_take (i := 6) (v := ?_) rfl (by kernel_rfl) (by kernel_rfl) (by kernel_rfl) (fun _ _ _ h => h) (Or.inl ⟨by rfl, ?_⟩) hS ?_
            rotate_left
            · intro wz hSw; (try dsimp only at hSw); obtain ⟨s1, s2, s3, s4, s5, s6⟩ := HRD.out wz hSw; go_simp; (try with_reducible rfl)
            try simp only [List.getElem_toArray, List.getElem_cons_zero, List.getElem_cons_succ, Act.put, List.setIfInBounds_toArray, List.set_cons_zero, List.set_cons_succ]
            refine wpAnyH_take (i := 7) (v := ?_) rfl (by kernel_rfl) (by kernel_rfl) (by kernel_rfl) (fun _ _ _ h => h) (Or.inl ⟨by rfl, ?_⟩) hS ?_
            rotate_left
            · intro wz hSw; (try dsimp only at hSw); obtain ⟨s1, s2, s3, s4, s5, s6⟩ := HRD.out wz hSw; go_simp; (try with_reducible rfl)
            try simp only [List.getElem_toArray, List.getElem_cons_zero, List.getElem_cons_succ, Act.put, List.setIfInBounds_toArray, List.set_cons_zero, List.set_cons_succ]
            refine wpAnyH_take (i := 8) (v := ?_) rfl (by kernel_rfl) (by kernel_rfl) (by kernel_rfl) (fun _ _ _ h => h) (Or.inl ⟨by rfl, ?_⟩) hS ?_
            rotate_left
            · intro wz hSw; (try dsimp only at hSw); obtain ⟨s1, s2, s3, s4, s5, s6⟩ := HRD.out wz hSw; go_simp; (try with_reducible rfl)
            try simp only [List.getElem_toArray, List.getElem_cons_zero, List.getElem_cons_succ, Act.put, List.setIfInBounds_toArray, List.set_cons_zero, List.set_cons_succ]
            refine wpAnyH_take (i := 9) (v := ?_) rfl (by kernel_rfl) (by kernel_rfl) (by kernel_rfl) (fun _ _ _ h => h) (Or.inl ⟨by rfl, ?_⟩) hS ?_
            rotate_left
            · intro wz hSw; (try dsimp only at hSw); obtain ⟨s1, s2, s3, s4, s5, s6⟩ := HRD.out wz hSw; go_simp; (try with_reducible rfl)
            try simp only [List.getElem_toArray, List.getElem_cons_zero, List.getElem_cons_succ, Act.put, List.setIfInBounds_toArray, List.set_cons_zero, List.set_cons_succ]
            refine wpAnyH_take (i := 10) (v := ?_) rfl (by kernel_rfl) (by kernel_rfl) (by kernel_rfl) (fun _ _ _ h => h) (Or.inl ⟨by rfl, ?_⟩) hS ?_
            rotate_left
            · intro wz hSw; (try dsimp only at hSw); obtain ⟨s1, s2, s3, s4, s5, s6⟩ := HRD.out wz hSw; go_simp; (try with_reducible rfl)
            try simp only [List.getElem_toArray, List.getElem_cons_zero, List.getElem_cons_succ, Act.put, List.setIfInBounds_toArray, List.set_cons_zero, List.set_cons_succ]
            refine wpAnyH_take (i := 11) (v := ?_) rfl (by kernel_rfl) (by kernel_rfl) (by kernel_rfl) (fun _ _ _ h => h) (Or.inl ⟨by rfl, ?_⟩) hS ?_
            rotate_left
            · intro wz hSw; (try dsimp only at hSw); obtain ⟨s1, s2, s3, s4, s5, s6⟩ := HRD.out wz hSw; go_simp; (try with_reducible rfl)
            try simp only [List.getElem_toArray, List.getElem_cons_zero, List.getElem_cons_succ, Act.put, List.setIfInBounds_toArray, List.set_cons_zero, List.set_cons_succ]
            refine wpAnyH_take (i := 12) (v := ?_) rfl (by kernel_rfl) (by kernel_rfl) (by kernel_rfl) (fun _ _ _ h => h) (Or.inl ⟨by rfl, ?_⟩) hS ?_
            rotate_left
            · intro wz hSw; (try dsimp only at hSw); obtain ⟨s1, s2, s3, s4, s5, s6⟩ := HRD.out wz hSw; go_simp; (try with_reducible rfl)
            try simp only [List.getElem_toArray, List.getElem_cons_zero, List.getElem_cons_succ, Act.put, List.setIfInBounds_toArray, List.set_cons_zero, List.set_cons_succ]
            refine wpAnyH_take (i := 13) (v := ?_) rfl (by kernel_rfl) (by kernel_rfl) (by kernel_rfl) (fun _ _ _ h => h) (Or.inl ⟨by rfl, ?_⟩) hS ?_
            rotate_left
            · intro wz hSw; (try dsimp only at hSw); obtain ⟨s1, s2, s3, s4, s5, s6⟩ := HRD.out wz hSw; go_simp; (try with_reducible rfl)
            try simp only [List.getElem_toArray, List.getElem_cons_zero, List.getElem_cons_succ, Act.put, List.setIfInBounds_toArray, List.set_cons_zero, List.set_cons_succ]
            refine wpAnyH_take (i := 14) (v := ?_) rfl (by kernel_rfl) (by kernel_rfl) (by kernel_rfl) (fun _ _ _ h => h) (Or.inl ⟨by rfl, ?_⟩) hS ?_
            rotate_left
            · intro wz hSw; (try dsimp only at hSw); obtain ⟨s1, s2, s3, s4, s5, s6⟩ := HRD.out wz hSw; go_simp; (try with_reducible rfl)
            try simp only [List.getElem_toArray, List.getElem_cons_zero, List.getElem_cons_succ, Act.put, List.setIfInBounds_toArray, List.set_cons_zero, List.set_cons_succ]
            refine wpAnyH_take (i := 15) (v := ?_) rfl (by kernel_rfl) (by kernel_rfl) (by kernel_rfl) (fun _ _ _ h => h) (Or.inl ⟨by rfl, ?_⟩) hS ?_
            rotate_left
            · intro wz hSw; (try dsimp only at hSw); obtain ⟨s1, s2, s3, s4, s5, s6⟩ := HRD.out wz hSw; go_simp; (try with_reducible rfl)
            try simp only [List.getElem_toArray, List.getElem_cons_zero, List.getElem_cons_succ, Act.put, List.setIfInBounds_toArray, List.set_cons_zero, List.set_cons_succ]
            refine wpAnyH_take (i := 16) (v := ?_) rfl (by kernel_rfl) (by kernel_rfl) (by kernel_rfl) (fun _ _ _ h => h) (Or.inl ⟨by rfl, ?_⟩) hS ?_
            rotate_left
            · intro wz hSw; (try dsimp only at hSw); obtain ⟨s1, s2, s3, s4, s5, s6⟩ := HRD.out wz hSw; go_simp; (try with_reducible rfl)
            try simp only [List.getElem_toArray, List.getElem_cons_zero, List.getElem_cons_succ, Act.put, List.setIfInBounds_toArray, List.set_cons_zero, List.set_cons_succ]
            refine wpAnyH_take (i := 17) (v := ?_) rfl (by kernel_rfl) (by kernel_rfl) (by kernel_rfl) (fun _ _ _ h => h) (Or.inl ⟨by rfl, ?_⟩) hS ?_
            rotate_left
            · intro wz hSw; (try dsimp only at hSw); obtain ⟨s1, s2, s3, s4, s5, s6⟩ := HRD.out wz hSw; go_simp; (try with_reducible rfl)
            try simp only [List.getElem_toArray, List.getElem_cons_zero, List.getElem_cons_succ, Act.put, List.setIfInBounds_toArray, List.set_cons_zero, List.set_cons_succ]
            refine wpAnyH_take (i := 18) (v := ?_) rfl (by kernel_rfl) (by kernel_rfl) (by kernel_rfl) (fun _ _ _ h => h) (Or.inl ⟨by rfl, ?_⟩) hS ?_
            rotate_left
            · intro wz hSw; (try dsimp only at hSw); obtain ⟨s1, s2, s3, s4, s5, s6⟩ := HRD.out wz hSw; go_simp; (try with_reducible rfl)
            try simp only [List.getElem_toArray, List.getElem_cons_zero, List.getElem_cons_succ, Act.put, List.setIfInBounds_toArray, List.set_cons_zero, List.set_cons_succ]
            refine wpAnyH_take (i := 19) (v := ?_) rfl (by kernel_rfl) (by kernel_rfl) (by kernel_rfl) (fun _ _ _ h => h) (Or.inl ⟨by rfl, ?_⟩) hS ?_
            rotate_left
            · intro wz hSw; (try dsimp only at hSw); obtain ⟨s1, s2, s3, s4, s5, s6⟩ := HRD.out wz hSw; go_simp; (try with_reducible rfl)
            try simp only [List.getElem_toArray, List.getElem_cons_zero, List.getElem_cons_succ, Act.put, List.setIfInBounds_toArray, List.set_cons_zero, List.set_cons_succ]
            refine wpAnyH_take (i := 20) (v := ?_) rfl (by kernel_rfl) (by kernel_rfl) (by kernel_rfl) (fun _ _ _ h => h) (Or.inl ⟨by rfl, ?_⟩) hS ?_
            rotate_left
            · intro wz hSw; (try dsimp only at hSw); obtain ⟨s1, s2, s3, s4, s5, s6⟩ := HRD.out wz hSw; go_simp; (try with_reducible rfl)
            try simp only [List.getElem_toArray, List.getElem_cons_zero, List.getElem_cons_succ, Act.put, List.setIfInBounds_toArray, List.set_cons_zero, List.set_cons_succ]
            refine wpAnyH_take (i := 21) (v := ?_) rfl (by kernel_rfl) (by kernel_rfl) (by kernel_rfl) (fun _ _ _ h => h) (Or.inl ⟨by rfl, ?_⟩) hS ?_
            rotate_left
            · intro wz hSw; (try dsimp only at hSw); obtain ⟨s1, s2, s3, s4, s5, s6⟩ := HRD.out wz hSw; go_simp; (try with_reducible rfl)
            try simp only [List.getElem_toArray, List.getElem_cons_zero, List.getElem_cons_succ, Act.put, List.setIfInBounds_toArray, List.set_cons_zero, List.set_cons_succ]
            refine wpAnyH_take (i := 22) (v := ?_) rfl (by kernel_rfl) (by kernel_rfl) (by kernel_rfl) (fun _ _ _ h => h) (Or.inl ⟨by rfl, ?_⟩) hS ?_
            rotate_left
            · intro wz hSw; (try dsimp only at hSw); obtain ⟨s1, s2, s3, s4, s5, s6⟩ := HRD.out wz hSw; go_simp; (try with_reducible rfl)
            try simp only [List.getElem_toArray, List.getElem_cons_zero, List.getElem_cons_succ, Act.put, List.setIfInBounds_toArray, List.set_cons_zero, List.set_cons_succ]
            refine wpAnyH_take (i := 23) (v := ?_) rfl (by kernel_rfl) (by kernel_rfl) (by kernel_rfl) (fun _ _ _ h => h) (Or.inl ⟨by rfl, ?_⟩) hS ?_
            rotate_left
            · intro wz hSw; (try dsimp only at hSw); obtain ⟨s1, s2, s3, s4, s5, s6⟩ := HRD.out wz hSw; go_simp; (try with_reducible rfl)
            try simp only [List.getElem_toArray, List.getElem_cons_zero, List.getElem_cons_succ, Act.put, List.setIfInBounds_toArray, List.set_cons_zero, List.set_cons_succ]
            refine wpAnyH_take (i := 24) (v := ?_) rfl (by kernel_rfl) (by kernel_rfl) (by kernel_rfl) (fun _ _ _ h => h) (Or.inl ⟨by rfl, ?_⟩) hS ?_
            rotate_left
            · intro wz hSw; (try dsimp only at hSw); obtain ⟨s1, s2, s3, s4, s5, s6⟩ := HRD.out wz hSw; go_simp; (try with_reducible rfl)
            try simp only [List.getElem_toArray, List.getElem_cons_zero, List.getElem_cons_succ, Act.put, List.setIfInBounds_toArray, List.set_cons_zero, List.set_cons_succ]
            refine wpAnyH_take (i := 25) (v := ?_) rfl (by kernel_rfl) (by kernel_rfl) (by kernel_rfl) (fun _ _ _ h => h) (Or.inl ⟨by rfl, ?_⟩) hS ?_
            rotate_left
            · intro wz hSw; (try dsimp only at hSw); obtain ⟨s1, s2, s3, s4, s5, s6⟩ := HRD.out wz hSw; go_simp; (try with_reducible rfl)
            try simp only [List.getElem_toArray, List.getElem_cons_zero, List.getElem_cons_succ, Act.put, List.setIfInBounds_toArray, List.set_cons_zero, List.set_cons_succ]
            refine wpAnyH_take (i := 26) (v := ?_) rfl (by kernel_rfl) (by kernel_rfl) (by kernel_rfl) (fun _ _ _ h => h) (Or.inl ⟨by rfl, ?_⟩) hS ?_
            rotate_left
            · intro wz hSw; (try dsimp only at hSw); obtain ⟨s1, s2, s3, s4, s5, s6⟩ := HRD.out wz hSw; go_simp; (try with_reducible rfl)
            try simp only [List.getElem_toArray, List.getElem_cons_zero, List.getElem_cons_succ, Act.put, List.setIfInBounds_toArray, List.set_cons_zero, List.set_cons_succ]
            refine wpAnyH_take (i := 27) (v := ?_) rfl (by kernel_rfl) (by kernel_rfl) (by kernel_rfl) (fun _ _ _ h => h) (Or.inl ⟨by rfl, ?_⟩) hS ?_
            rotate_left
            · intro wz hSw; (try dsimp only at hSw); obtain ⟨s1, s2, s3, s4, s5, s6⟩ := HRD.out wz hSw; go_simp; (try with_reducible rfl)
            try simp only [List.getElem_toArray, List.getElem_cons_zero, List.getElem_cons_succ, Act.put, List.setIfInBounds_toArray, List.set_cons_zero, List.set_cons_succ]
            refine wpAnyH_take (i := 28) (v := ?_) rfl (by kernel_rfl) (by kernel_rfl) (by kernel_rfl) (fun _ _ _ h => h) (Or.inl ⟨by rfl, ?_⟩) hS ?_
            rotate_left
            · intro wz hSw; (try dsimp only at hSw); obtain ⟨s1, s2, s3, s4, s5, s6⟩ := HRD.out wz hSw; go_simp; (try with_reducible rfl)
            try simp only [List.getElem_toArray, List.getElem_cons_zero, List.getElem_cons_succ, Act.put, List.setIfInBounds_toArray, List.set_cons_zero, List.set_cons_succ]
            refine wpAnyH_take (i := 29) (v := ?_) rfl (by kernel_rfl) (by kernel_rfl) (by kernel_rfl) (fun _ _ _ h => h) (Or.inl ⟨by rfl, ?_⟩) hS ?_
            rotate_left
            · intro wz hSw; (try dsimp only at hSw); obtain ⟨s1, s2, s3, s4, s5, s6⟩ := HRD.out wz hSw; go_simp; (try with_reducible rfl)
            try simp only [List.getElem_toArray, List.getElem_cons_zero, List.getElem_cons_succ, Act.put, List.setIfInBounds_toArray, List.set_cons_zero, List.set_cons_succ]
            refine wpAnyH_take (i := 30) (v := ?_) rfl (by kernel_rfl) (by kernel_rfl) (by kernel_rfl) (fun _ _ _ h => h) (Or.inl ⟨by rfl, ?_⟩) hS ?_
            rotate_left
            · intro wz hSw; (try dsimp only at hSw); obtain ⟨s1, s2, s3, s4, s5, s6⟩ := HRD.out wz hSw; go_simp; (try with_reducible rfl)
            try simp only [List.getElem_toArray, List.getElem_cons_zero, List.getElem_cons_succ, Act.put, List.setIfInBounds_toArray, List.set_cons_zero, List.set_cons_succ]
            refine wpAnyH_take (i := 31) (v := ?_) rfl (by kernel_rfl) (by kernel_rfl) (by kernel_rfl) (fun _ _ _ h => h) (Or.inl ⟨by rfl, ?_⟩) hS ?_
            rotate_left
            · intro wz hSw; (try dsimp only at hSw); obtain ⟨s1, s2, s3, s4, s5, s6⟩ := HRD.out wz hSw; go_simp; (try with_reducible rfl)
            try simp only [List.getElem_toArray, List.getElem_cons_zero, List.getElem_cons_succ, Act.put, List.setIfInBounds_toArray, List.set_cons_zero, List.set_cons_succ]
            refine wpAnyH_take (i := 32) (v := ?_) rfl (by kernel_rfl) (by kernel_rfl) (by kernel_rfl) (fun _ _ _ h => h) (Or.inl ⟨by rfl, ?_⟩) hS ?_
            rotate_left
            · intro wz hSw; (try dsimp only at hSw); obtain ⟨s1, s2, s3, s4, s5, s6⟩ := HRD.out wz hSw; go_simp; (try with_reducible rfl)
            try simp only [List.getElem_toArray, List.getElem_cons_zero, List.getElem_cons_succ, Act.put, List.setIfInBounds_toArray, List.set_cons_zero, List.set_cons_succ]
            refine wpAnyH_take (i := 33) (v := ?_) rfl (by kernel_rfl) (by kernel_rfl) (by kernel_rfl) (fun _ _ _ h => h) (Or.inl ⟨by rfl, ?_⟩) hS ?_
            rotate_left
            · intro wz hSw; (try dsimp only at hSw); obtain ⟨s1, s2, s3, s4, s5, s6⟩ := HRD.out wz hSw; go_simp; (try with_reducible rfl)
            try simp only [List.getElem_toArray, List.getElem_cons_zero, List.getElem_cons_succ, Act.put, List.setIfInBounds_toArray, List.set_cons_zero, List.set_cons_succ]
            refine wpAnyH_ready (rs := [34]) (by kernel_rfl) (by simp) (AllReadyH.cons rfl (fun K hK => ?_) AllReadyH.nil)
            go_simp
            go_at_call 37
            refine (HHAS.out _ hS).mono ?_
            rintro e9 wn ⟨rfl, hbn⟩
            go_wp2_with fail
            have hS := next_below hS hbn
            refine hK.out _ _ hS (fun _ => ?_)
            clear hK K
            try simp only [List.getElem_toArray, List.getElem_cons_zero, List.getElem_cons_succ, Act.put, List.setIfInBounds_toArray, List.set_cons_zero, List.set_cons_succ]
            refine wpAnyH_take (i := 35) (v := ?_) rfl (by kernel_rfl) (by kernel_rfl) (by kernel_rfl) (fun _ _ _ h => h) (Or.inl ⟨by rfl, ?_⟩) hS ?_
            rotate_left
            · intro wz hSw; (try dsimp only at hSw); obtain ⟨s1, s2, s3, s4, s5, s6⟩ := HRD.out wz hSw; go_simp; (try with_reducible rfl)
            try simp only [List.getElem_toArray, List.getElem_cons_zero, List.getElem_cons_succ, Act.put, List.setIfInBounds_toArray, List.set_cons_zero, List.set_cons_succ]
            refine wpAnyH_take (i := 36) (v := ?_) rfl (by kernel_rfl) (by kernel_rfl) (by kernel_rfl) (fun _ _ _ h => h) (Or.inl ⟨by rfl, ?_⟩) hS ?_
            rotate_left
            · intro wz hSw; (try dsimp only at hSw); obtain ⟨s1, s2, s3, s4, s5, s6⟩ := HRD.out wz hSw; go_simp; (try with_reducible rfl)
            try simp only [List.getElem_toArray, List.getElem_cons_zero, List.getElem_cons_succ, Act.put, List.setIfInBounds_toArray, List.set_cons_zero, List.set_cons_succ]
            refine wpAnyH_take (i := 37) (v := ?_) rfl (by kernel_rfl) (by kernel_rfl) (by kernel_rfl) (fun _ _ _ h => h) (Or.inl ⟨by rfl, ?_⟩) hS ?_
            rotate_left
            · intro wz hSw; (try dsimp only at hSw); obtain ⟨s1, s2, s3, s4, s5, s6⟩ := HRD.out wz hSw; go_simp; (try with_reducible rfl)
            try simp only [List.getElem_toArray, List.getElem_cons_zero, List.getElem_cons_succ, Act.put, List.setIfInBounds_toArray, List.set_cons_zero, List.set_cons_succ]
            refine wpAnyH_take (i := 38) (v := ?_) rfl (by kernel_rfl) (by kernel_rfl) (by kernel_rfl) (fun _ _ _ h => h) (Or.inl ⟨by rfl, ?_⟩) hS ?_
            rotate_left
            · intro wz hSw; (try dsimp only at hSw); obtain ⟨s1, s2, s3, s4, s5, s6⟩ := HRD.out wz hSw; go_simp; (try with_reducible rfl)
            try simp only [List.getElem_toArray, List.getElem_cons_zero, List.getElem_cons_succ, Act.put, List.setIfInBounds_toArray, List.set_cons_zero, List.set_cons_succ]
            refine wpAnyH_take (i := 39) (v := ?_) rfl (by kernel_rfl) (by kernel_rfl) (by kernel_rfl) (fun _ _ _ h => h) (Or.inl ⟨by rfl, ?_⟩) hS ?_
            rotate_left
            · intro wz hSw; (try dsimp only at hSw); obtain ⟨s1, s2, s3, s4, s5, s6⟩ := HRD.out wz hSw; go_simp; (try with_reducible rfl)
            try simp only [List.getElem_toArray, List.getElem_cons_zero, List.getElem_cons_succ, Act.put, List.setIfInBounds_toArray, List.set_cons_zero, List.set_cons_succ]
            refine wpAnyH_take (i := 40) (v := ?_) rfl (by kernel_rfl) (by kernel_rfl) (by kernel_rfl) (fun _ _ _ h => h) (Or.inl ⟨by rfl, ?_⟩) hS ?_
            rotate_left
            · intro wz hSw; (try dsimp only at hSw); obtain ⟨s1, s2, s3, s4, s5, s6⟩ := HRD.out wz hSw; go_simp; (try with_reducible rfl)
            try simp only [List.getElem_toArray, List.getElem_cons_zero, List.getElem_cons_succ, Act.put, List.setIfInBounds_toArray, List.set_cons_zero, List.set_cons_succ]
            refine wpAnyH_take (i := 41) (v := ?_) rfl (by kernel_rfl) (by kernel_rfl) (by kernel_rfl) (fun _ _ _ h => h) (Or.inl ⟨by rfl, ?_⟩) hS ?_
            rotate_left
            · intro wz hSw; (try dsimp only at hSw); obtain ⟨s1, s2, s3, s4, s5, s6⟩ := HRD.out wz hSw; go_simp; (try with_reducible rfl)
            try simp only [List.getElem_toArray, List.getElem_cons_zero, List.getElem_cons_succ, Act.put, List.setIfInBounds_toArray, List.set_cons_zero, List.set_cons_succ]
            refine wpAnyH_take (i := 42) (v := ?_) rfl (by kernel_rfl) (by kernel_rfl) (by kernel_rfl) (fun _ _ _ h => h) (Or.inl ⟨by rfl, ?_⟩) hS ?_
            rotate_left
            · intro wz hSw; (try dsimp only at hSw); obtain ⟨s1, s2, s3, s4, s5, s6⟩ := HRD.out wz hSw; go_simp; (try with_reducible rfl)
            try simp only [List.getElem_toArray, List.getElem_cons_zero, List.getElem_cons_succ, Act.put, List.setIfInBounds_toArray, List.set_cons_zero, List.set_cons_succ]
            refine wpAnyH_take (i := 43) (v := ?_) rfl (by kernel_rfl) (by kernel_rfl) (by kernel_rfl) (fun _ _ _ h => h) (Or.inl ⟨by rfl, ?_⟩) hS ?_
            rotate_left
            · intro wz hSw; (try dsimp only at hSw); obtain ⟨s1, s2, s3, s4, s5, s6⟩ := HRD.out wz hSw; go_simp; (try with_reducible rfl)
            try simp only [List.getElem_toArray, List.getElem_cons_zero, List.getElem_cons_succ, Act.put, List.setIfInBounds_toArray, List.set_cons_zero, List.set_cons_succ]
            refine wpAnyH_take (i := 44) (v := ?_) rfl (by kernel_rfl) (by kernel_rfl) (by kernel_rfl) (fun _ _ _ h => h) (Or.inl ⟨by rfl, ?_⟩) hS ?_
            rotate_left
            · intro wz hSw; (try dsimp only at hSw); obtain ⟨s1, s2, s3, s4, s5, s6⟩ := HRD.out wz hSw; go_simp; (try with_reducible rfl)
            try simp only [List.getElem_toArray, List.getElem_cons_zero, List.getElem_cons_succ, Act.put, List.setIfInBounds_toArray, List.set_cons_zero, List.set_cons_succ]
            refine wpAnyH_take (i := 45) (v := ?_) rfl (by kernel_rfl) (by kernel_rfl) (by kernel_rfl) (fun _ _ _ h => h) (Or.inl ⟨by rfl, ?_⟩) hS ?_
            rotate_left
            · intro wz hSw; (try dsimp only at hSw); obtain ⟨s1, s2, s3, s4, s5, s6⟩ := HRD.out wz hSw; go_simp; (try with_reducible rfl)
            try simp only [List.getElem_toArray, List.getElem_cons_zero, List.getElem_cons_succ, Act.put, List.setIfInBounds_toArray, List.set_cons_zero, List.set_cons_succ]
            refine wpAnyH_take (i := 46) (v := ?_) rfl (by kernel_rfl) (by kernel_rfl) (by kernel_rfl) (fun _ _ _ h => h) (Or.inl ⟨by rfl, ?_⟩) hS ?_
            rotate_left
            · intro wz hSw; (try dsimp only at hSw); obtain ⟨s1, s2, s3, s4, s5, s6⟩ := HRD.out wz hSw; go_simp; (try with_reducible rfl)
            try simp only [List.getElem_toArray, List.getElem_cons_zero, List.getElem_cons_succ, Act.put, List.setIfInBounds_toArray, List.set_cons_zero, List.set_cons_succ]
            refine wpAnyH_take (i := 47) (v := ?_) rfl (by kernel_rfl) (by kernel_rfl) (by kernel_rfl) (fun _ _ _ h => h) (Or.inl ⟨by rfl, ?_⟩) hS ?_
            rotate_left
            · intro wz hSw; (try dsimp only at hSw); obtain ⟨s1, s2, s3, s4, s5, s6⟩ := HRD.out wz hSw; go_simp; (try with_reducible rfl)
            try simp only [List.getElem_toArray, List.getElem_cons_zero, List.getElem_cons_succ, Act.put, List.setIfInBounds_toArray, List.set_cons_zero, List.set_cons_succ]
            refine wpAnyH_take (i := 48) (v := ?_) rfl (by kernel_rfl) (by kernel_rfl) (by kernel_rfl) (fun _ _ _ h => h) (Or.inl ⟨by rfl, ?_⟩) hS ?_
            rotate_left
            · intro wz hSw; (try dsimp only at hSw); obtain ⟨s1, s2, s3, s4, s5, s6⟩ := HRD.out wz hSw; go_simp; (try with_reducible rfl)
            try simp only [List.getElem_toArray, List.getElem_cons_zero, List.getElem_cons_succ, Act.put, List.setIfInBounds_toArray, List.set_cons_zero, List.set_cons_succ]
            refine wpAnyH_done (by kernel_rfl) ?_ _
            go_wp2_with fail
            go_meet
            exact ⟨rfl, hS⟩
        case rest =>
          obtain ⟨rfl, hbx⟩ := hcut
          have HLZ := Lib.hid (HLY.out.below hbx)
          have hzb := blk_below HXY.out hbx
          have z0 : wc.cell? ⟨p1, 0, none⟩ = some (.int .i64 (nv : Nat)) := by rw [cell_of hzb]; rfl
          have HMM : Hid (MapZ wc (P + 1) nn f kk) := by rw [← HPS.out]; exact HLZ.out.2.2
          have HXI : Hid (inI (nv : Int)) := by show inI _; unfold inI; omega
          have HII : Hid (inI (k : Int)) := by show inI _; unfold inI; omega
          have HN6 : Hid (∀ (w6 : World) (kk2 : Nat), MapZ w6 (P + 1) (nn + 1) (upd f (nv : Int) (k : Int)) kk2 → wc.grownBy w6 (some (P + 1)) →
              LI w2 Nn (nn + 1) kk2 (upd f (nv : Int) (k : Int)) (upto (k + 1) (numF A)) w6) := fun w6 kk2 hM6 hg6 => by
            rw [← HPS.out] at hM6 hg6
            exact HLZ.out.mapped hM6 hg6
          have HMT1 : Hid (MT Nn A (k + 1) (upd f (nv : Int) (k : Int))) := by
            have h := HMT.out.step HG.out HNR.out HH1.out
            rw [HNV.out] at h
            exact h
          clear hzb hbx q1 q2 q2b
          go_wp2_with (first
            | (at_mapUpdate; refine wpList_putZ _ rfl _ _ _ rfl (P + 1) nn kk f rfl HMM.out (by omega) (nv : Int) (k : Int) rfl rfl HXI.out HII.out ?_; intro w6 hM6 hg6; have HG6 := Lib.hid (HN6.out w6 _ hM6 hg6); clear hM6 hg6))
          go_roundw
          case rel => exact ⟨k + 1, nn + 1, _, _, by omega, by omega, by go_num, HMT1.out, HG6.out⟩
          case measure => simp [intOf]; omega
      · obtain rfl : Nn = k := by omega
        have t1 : decide ((Nn : Int) < (Nn : Int)) = false := by simp
        obtain ⟨x0, x1, rE, hT⟩ := HFX.out wr _ _ _ _ hLI.out
        have HLI2 : Hid (LI w2 Nn nn kk f (numF A) wr) := by
          have h := hLI.out
          unfold LI at h
          rw [gZ_upto] at h
          exact h
        have HQ0 := Lib.hid (LQ.start (F := F) HG.out HNR.out)
        have HMT := Lib.hid hMT.out
        clear hMT hLI rE hT
        go_wp2_with fail
        clear x0 x1
        go_loopw [116] (fun s116 wr => ∃ (k : Nat) (G : Nat → Nat), k ≤ n ∧ s116 = .int .i64 k ∧ Hid (LQ Nn E A U F k Nn G) ∧ Hid (LI w2 Nn nn kk f G wr)) (fun s116 _ => n - (intOf s116).toNat)
        case atStart => exact ⟨0, _, Nat.zero_le _, rfl, HQ0, HLI2⟩
        case round =>
          clear HLI2 HQ0
          obtain ⟨i, G, hi, rfl, hQ, hLI⟩ := hrel
          by_cases h2 : i < n
          · have t2 : decide ((i : Int) < (n : Int)) = true := by simp; omega
            have hJ0 : (0 : Int) ≤ (i : Int) := by omega
            have hJ1 : (i : Int) < (n : Nat) := by omega
            obtain ⟨e, he⟩ : ∃ e, E[i]? = some e := ⟨_, List.getElem?_eq_getElem (by rw [← HN.out]; exact h2)⟩
            have hed := rightG_mem HG.out (List.mem_of_getElem? he)
            obtain ⟨a, b⟩ := e
            simp only at hed
            obtain ⟨x, rfl⟩ := Int.eq_ofNat_of_zero_le (show 0 ≤ a by omega)
            obtain ⟨y, rfl⟩ := Int.eq_ofNat_of_zero_le (show 0 ≤ b by omega)
            obtain ⟨x0, x1, rE, hT⟩ := HFX.out wr _ _ _ _ hLI.out
            obtain ⟨ad, rfl, _, e0, e1⟩ := rE i _ he
            have hbd := edge_adj HG.out he
            obtain ⟨nx, hnx⟩ : ∃ nx, numF A x = nx := ⟨_, rfl⟩
            obtain ⟨ny, hny⟩ : ∃ ny, numF A y = ny := ⟨_, rfl⟩
            have hne := LQ.ne HG.out HNR.out he
            rw [hnx, hny] at hne
            obtain ⟨W1, hW1⟩ : ∃ W1, W1 = wr.alloc (.cells #[.int .i64 (x : Nat), .int .i64 (y : Nat)] 51) := ⟨_, rfl⟩
            have hb1 : Below wr.heap.size wr W1 := by rw [hW1]; exact (Below.refl _ _).alloc (Nat.le_refl _) _
            obtain ⟨p1, hp1⟩ : ∃ p1, wr.heap.size = p1 := ⟨_, rfl⟩
            have hxb : W1.heap[p1]? = some (.cells #[.int .i64 (x : Nat), .int .i64 (y : Nat)] 51 (0, 0)) := by rw [hW1, ← hp1]; exact heap_alloc_new wr _
            have HL1 := Lib.hid (hLI.out.below hb1)
            have HXB := Lib.hid hxb
            have HED := Lib.hid he
            have HBD := Lib.hid hbd
            have HNX := Lib.hid hnx
            have HNY := Lib.hid hny
            have HNE := Lib.hid hne
            have HQ := Lib.hid hQ.out
            have HW1 := Lib.hid hW1
            have hx1 : x < Nn := by omega
            have hy1 : y < Nn := by omega
            have hd0 : Below W1.heap.size W1 W1.drew := (Below.refl _ _).drew
            have HRD : Hid (∀ X', Below W1.heap.size W1 X' → X'.cell? ⟨p1, 0, none⟩ = some (.int .i64 (x : Nat)) ∧ X'.cell? ⟨p1, 1, none⟩ = some (.int .i64 (y : Nat)) ∧ X'.cell? ⟨B, x * 3, none⟩ = some (.int .i64 (nx : Nat)) ∧ X'.cell? ⟨B, y * 3, none⟩ = some (.int .i64 (ny : Nat)) ∧ X'.cell? ⟨B, x * 3 + 1, none⟩ = some (.int .i64 (upZ U x)) ∧ X'.cell? ⟨B, y * 3 + 1, none⟩ = some (.int .i64 (upZ U y))) := fun X' hb => by
              have hx := blk_below HXB.out hb
              obtain ⟨_, _, _, hT⟩ := HFX.out X' _ _ _ _ (HL1.out.below hb)
              obtain ⟨u0, u1, _⟩ := hT.at_ (lowL_at A U F hx1)
              obtain ⟨v0, v1, _⟩ := hT.at_ (lowL_at A U F hy1)
              simp only at u0 u1 v0 v1
              rw [HNX.out] at u0
              rw [HNY.out] at v0
              exact ⟨by rw [cell_of hx]; rfl, by rw [cell_of hx]; rfl, u0, v0, u1, v1⟩
            clear hT hed hbd hnx hny hne hW1 hb1 hxb he hQ hLI
            go_upto_region 20 with fail
            rw [← HW1.out]
            (try rw [hp1])
            clear hp1 e0 e1 x0 x1
            obtain ⟨s1, s2, s3, s4, s5, s6⟩ := HRD.out W1 (Below.refl _ _)
            go_region
            clear s1 s2 s3 s4 s5 s6
            have hS : Below W1.heap.size W1 W1.drew := (Below.refl _ _).drew
            go_wp2_with fail
            have hd1 : Below W1.heap.size W1 W1.drew.drew := hS.drew
            obtain ⟨Z, hZ⟩ : ∃ Z, Z = W1.drew.drew := ⟨_, rfl⟩
            have HBZ : Hid (Below W1.heap.size W1 Z) := by rw [hZ]; exact hd1
            have HLZ : Hid (LI w2 Nn nn kk f G Z) := HL1.out.below HBZ.out
            have HZ := Lib.hid hZ
            clear hZ hS
            rcases Nat.lt_or_ge nx ny with hlt | hge
            · have t3 : decide (nx < ny) = true := decide_eq_true (by omega)
              have hlt2 : numF A x < numF A y := by rw [HNX.out, HNY.out]; exact hlt
              clear hlt
              have hLQ := LQ.up' HG.out HNR.out HQ.out HED.out hlt2
              clear hlt2
              obtain ⟨s1, s2, s3, s4, s5, s6⟩ := HRD.out Z HBZ.out
              obtain ⟨ga, hga⟩ : ∃ ga, G y = ga := ⟨_, rfl⟩
              have c1 : Z.cell? ⟨P, y, none⟩ = some (.int .i64 (ga : Nat)) := by rw [← HPS.out, ← hga]; exact HLZ.out.2.1.at_ (gZ_at _ hy1)
              have fz : Z.frozen? ⟨P, y, none⟩ = false := by rw [← HPS.out]; exact free_of HLZ.out.2.1 _
              have hA0 : (0 : Int) ≤ (y : Int) := by omega
              have hA1 : (y : Int) < (Nn : Nat) := by omega
              have hB0 : (0 : Int) ≤ (x : Int) := by omega
              have hB1 : (x : Int) < (Nn : Nat) := by omega
              by_cases q : U y = some x
              · have e3 : (upZ U y != (x : Int)) = false := by simp [(upZ_is U y x).2 q]
                have HQ2 := Lib.hid (hLQ.1 q)
                clear q hLQ hga
                generalize upZ U x = ux at *
                generalize upZ U y = uy at *
                refine wp_region_held_drew (S := fun X' => Below W1.heap.size W1 X') (by kernel_rfl) hd1 (fun hS => ?_)
                refine wpAnyH_take (i := 0) (v := ?_) rfl (by kernel_rfl) (by kernel_rfl) (by kernel_rfl) (fun _ _ _ h => h) (Or.inl ⟨by rfl, ?_⟩) hS ?_
                rotate_left
                · intro wz hSw; (try dsimp only at hSw); obtain ⟨s1, s2, s3, s4, s5, s6⟩ := HRD.out wz hSw; go_simp; (try with_reducible rfl)
                try simp only [List.getElem_toArray, List.getElem_cons_zero, List.getElem_cons_succ, Act.put, List.setIfInBounds_toArray, List.set_cons_zero, List.set_cons_succ]
                refine wpAnyH_take (i := 1) (v := ?_) rfl (by kernel_rfl) (by kernel_rfl) (by kernel_rfl) (fun _ _ _ h => h) (Or.inl ⟨by rfl, ?_⟩) hS ?_
                rotate_left
                · intro wz hSw; (try dsimp only at hSw); obtain ⟨s1, s2, s3, s4, s5, s6⟩ := HRD.out wz hSw; go_simp; (try with_reducible rfl)
                try simp only [List.getElem_toArray, List.getElem_cons_zero, List.getElem_cons_succ, Act.put, List.setIfInBounds_toArray, List.set_cons_zero, List.set_cons_succ]
                refine wpAnyH_take (i := 2) (v := ?_) rfl (by kernel_rfl) (by kernel_rfl) (by kernel_rfl) (fun _ _ _ h => h) (Or.inl ⟨by rfl, ?_⟩) hS ?_
                rotate_left
                · intro wz hSw; (try dsimp only at hSw); obtain ⟨s1, s2, s3, s4, s5, s6⟩ := HRD.out wz hSw; go_simp; (try with_reducible rfl)
                try simp only [List.getElem_toArray, List.getElem_cons_zero, List.getElem_cons_succ, Act.put, List.setIfInBounds_toArray, List.set_cons_zero, List.set_cons_succ]
                refine wpAnyH_take (i := 3) (v := ?_) rfl (by kernel_rfl) (by kernel_rfl) (by kernel_rfl) (fun _ _ _ h => h) (Or.inl ⟨by rfl, ?_⟩) hS ?_
                rotate_left
                · intro wz hSw; (try dsimp only at hSw); obtain ⟨s1, s2, s3, s4, s5, s6⟩ := HRD.out wz hSw; go_simp; (try with_reducible rfl)
                try simp only [List.getElem_toArray, List.getElem_cons_zero, List.getElem_cons_succ, Act.put, List.setIfInBounds_toArray, List.set_cons_zero, List.set_cons_succ]
                refine wpAnyH_take (i := 4) (v := ?_) rfl (by kernel_rfl) (by kernel_rfl) (by kernel_rfl) (fun _ _ _ h => h) (Or.inl ⟨by rfl, ?_⟩) hS ?_
                rotate_left
                · intro wz hSw; (try dsimp only at hSw); obtain ⟨s1, s2, s3, s4, s5, s6⟩ := HRD.out wz hSw; go_simp; (try with_reducible rfl)
                try simp only [List.getElem_toArray, List.getElem_cons_zero, List.getElem_cons_succ, Act.put, List.setIfInBounds_toArray, List.set_cons_zero, List.set_cons_succ]
                refine wpAnyH_take (i := 5) (v := ?_) rfl (by kernel_rfl) (by kernel_rfl) (by kernel_rfl) (fun _ _ _ h => h) (Or.inl ⟨by rfl, ?_⟩) hS ?_
                rotate_left
                · intro wz hSw; (try dsimp only at hSw); obtain ⟨s1, s2, s3, s4, s5, s6⟩ := HRD.out wz hSw; go_simp; (try with_reducible rfl)
                try simp only [List.getElem_toArray, List.getElem_cons_zero, List.getElem_cons_succ, Act.put, List.setIfInBounds_toArray, List.set_cons_zero, List.set_cons_succ]
                refine wpAnyH_take (i := 6) (v := ?_) rfl (by kernel_rfl) (by kernel_rfl) (by kernel_rfl) (fun _ _ _ h => h) (Or.inl ⟨by rfl, ?_⟩) hS ?_
                rotate_left
                · intro wz hSw; (try dsimp only at hSw); obtain ⟨s1, s2, s3, s4, s5, s6⟩ := HRD.out wz hSw; go_simp; (try with_reducible rfl)
                try simp only [List.getElem_toArray, List.getElem_cons_zero, List.getElem_cons_succ, Act.put, List.setIfInBounds_toArray, List.set_cons_zero, List.set_cons_succ]
                refine wpAnyH_take (i := 7) (v := ?_) rfl (by kernel_rfl) (by kernel_rfl) (by kernel_rfl) (fun _ _ _ h => h) (Or.inl ⟨by rfl, ?_⟩) hS ?_
                rotate_left
                · intro wz hSw; (try dsimp only at hSw); obtain ⟨s1, s2, s3, s4, s5, s6⟩ := HRD.out wz hSw; go_simp; (try with_reducible rfl)
                try simp only [List.getElem_toArray, List.getElem_cons_zero, List.getElem_cons_succ, Act.put, List.setIfInBounds_toArray, List.set_cons_zero, List.set_cons_succ]
                refine wpAnyH_take (i := 8) (v := ?_) rfl (by kernel_rfl) (by kernel_rfl) (by kernel_rfl) (fun _ _ _ h => h) (Or.inl ⟨by rfl, ?_⟩) hS ?_
                rotate_left
                · intro wz hSw; (try dsimp only at hSw); obtain ⟨s1, s2, s3, s4, s5, s6⟩ := HRD.out wz hSw; go_simp; (try with_reducible rfl)
                try simp only [List.getElem_toArray, List.getElem_cons_zero, List.getElem_cons_succ, Act.put, List.setIfInBounds_toArray, List.set_cons_zero, List.set_cons_succ]
                refine wpAnyH_take (i := 9) (v := ?_) rfl (by kernel_rfl) (by kernel_rfl) (by kernel_rfl) (fun _ _ _ h => h) (Or.inl ⟨by rfl, ?_⟩) hS ?_
                rotate_left
                · intro wz hSw; (try dsimp only at hSw); obtain ⟨s1, s2, s3, s4, s5, s6⟩ := HRD.out wz hSw; go_simp; (try with_reducible rfl)
                try simp only [List.getElem_toArray, List.getElem_cons_zero, List.getElem_cons_succ, Act.put, List.setIfInBounds_toArray, List.set_cons_zero, List.set_cons_succ]
                refine wpAnyH_take (i := 10) (v := ?_) rfl (by kernel_rfl) (by kernel_rfl) (by kernel_rfl) (fun _ _ _ h => h) (Or.inl ⟨by rfl, ?_⟩) hS ?_
                rotate_left
                · intro wz hSw; (try dsimp only at hSw); obtain ⟨s1, s2, s3, s4, s5, s6⟩ := HRD.out wz hSw; go_simp; (try with_reducible rfl)
                try simp only [List.getElem_toArray, List.getElem_cons_zero, List.getElem_cons_succ, Act.put, List.setIfInBounds_toArray, List.set_cons_zero, List.set_cons_succ]
                refine wpAnyH_done (by kernel_rfl) ?_ _
                rw [← HZ.out]
                go_wp2_with fail
                go_roundw
                case rel => exact ⟨i + 1, G, by omega, by go_num, HQ2.out, HLZ.out⟩
                case measure => simp [intOf]; omega
              · have e3 : (upZ U y != (x : Int)) = true := by simp [upZ_is U y x, q]
                obtain ⟨z, hz⟩ : ∃ z, z = min ga nx := ⟨_, rfl⟩
                have HQ2 := hLQ.2 q
                rw [hga, HNX.out, ← hz] at HQ2
                have HQ2 := Lib.hid HQ2
                have hmz : min ((ga : Nat) : Int) ((nx : Nat) : Int) = (z : Int) := by rw [hz]; omega
                have HFIN : Hid (LI w2 Nn nn kk f (putF G y z) (Z.setCell ⟨P, y, none⟩ (.int .i64 (z : Int))).drew) := by
                  have h := (HLZ.out.set y z).drew
                  rw [HPS.out] at h
                  exact h
                have HNB : Hid ((Z.setCell ⟨P, y, none⟩ (.int .i64 (z : Int))).cell? ⟨B, x * 3, none⟩ = some (.int .i64 (nx : Nat))) := by
                  have h := HLZ.out.set y z
                  rw [HPS.out] at h
                  obtain ⟨_, _, _, hT⟩ := HFX.out _ _ _ _ _ h
                  have h := (hT.at_ (lowL_at A U F hx1)).1
                  simp only at h
                  rw [HNX.out] at h
                  exact h
                clear q hLQ hga hz
                generalize upZ U x = ux at *
                generalize upZ U y = uy at *
                refine wp_region_held_drew (S := fun X' => Below W1.heap.size W1 X') (by kernel_rfl) hd1 (fun hS => ?_)
                refine wpAnyH_take (i := 0) (v := ?_) rfl (by kernel_rfl) (by kernel_rfl) (by kernel_rfl) (fun _ _ _ h => h) (Or.inl ⟨by rfl, ?_⟩) hS ?_
                rotate_left
                · intro wz hSw; (try dsimp only at hSw); obtain ⟨s1, s2, s3, s4, s5, s6⟩ := HRD.out wz hSw; go_simp; (try with_reducible rfl)
                try simp only [List.getElem_toArray, List.getElem_cons_zero, List.getElem_cons_succ, Act.put, List.setIfInBounds_toArray, List.set_cons_zero, List.set_cons_succ]
                refine wpAnyH_take (i := 1) (v := ?_) rfl (by kernel_rfl) (by kernel_rfl) (by kernel_rfl) (fun _ _ _ h => h) (Or.inl ⟨by rfl, ?_⟩) hS ?_
                rotate_left
                · intro wz hSw; (try dsimp only at hSw); obtain ⟨s1, s2, s3, s4, s5, s6⟩ := HRD.out wz hSw; go_simp; (try with_reducible rfl)
                try simp only [List.getElem_toArray, List.getElem_cons_zero, List.getElem_cons_succ, Act.put, List.setIfInBounds_toArray, List.set_cons_zero, List.set_cons_succ]
                refine wpAnyH_take (i := 2) (v := ?_) rfl (by kernel_rfl) (by kernel_rfl) (by kernel_rfl) (fun _ _ _ h => h) (Or.inl ⟨by rfl, ?_⟩) hS ?_
                rotate_left
                · intro wz hSw; (try dsimp only at hSw); obtain ⟨s1, s2, s3, s4, s5, s6⟩ := HRD.out wz hSw; go_simp; (try with_reducible rfl)
                try simp only [List.getElem_toArray, List.getElem_cons_zero, List.getElem_cons_succ, Act.put, List.setIfInBounds_toArray, List.set_cons_zero, List.set_cons_succ]
                refine wpAnyH_take (i := 3) (v := ?_) rfl (by kernel_rfl) (by kernel_rfl) (by kernel_rfl) (fun _ _ _ h => h) (Or.inl ⟨by rfl, ?_⟩) hS ?_
                rotate_left
                · intro wz hSw; (try dsimp only at hSw); obtain ⟨s1, s2, s3, s4, s5, s6⟩ := HRD.out wz hSw; go_simp; (try with_reducible rfl)
                try simp only [List.getElem_toArray, List.getElem_cons_zero, List.getElem_cons_succ, Act.put, List.setIfInBounds_toArray, List.set_cons_zero, List.set_cons_succ]
                refine wpAnyH_take (i := 4) (v := ?_) rfl (by kernel_rfl) (by kernel_rfl) (by kernel_rfl) (fun _ _ _ h => h) (Or.inl ⟨by rfl, ?_⟩) hS ?_
                rotate_left
                · intro wz hSw; (try dsimp only at hSw); obtain ⟨s1, s2, s3, s4, s5, s6⟩ := HRD.out wz hSw; go_simp; (try with_reducible rfl)
                try simp only [List.getElem_toArray, List.getElem_cons_zero, List.getElem_cons_succ, Act.put, List.setIfInBounds_toArray, List.set_cons_zero, List.set_cons_succ]
                refine wpAnyH_take (i := 5) (v := ?_) rfl (by kernel_rfl) (by kernel_rfl) (by kernel_rfl) (fun _ _ _ h => h) (Or.inl ⟨by rfl, ?_⟩) hS ?_
                rotate_left
                · intro wz hSw; (try dsimp only at hSw); obtain ⟨s1, s2, s3, s4, s5, s6⟩ := HRD.out wz hSw; go_simp; (try with_reducible rfl)
                try simp only [List.getElem_toArray, List.getElem_cons_zero, List.getElem_cons_succ, Act.put, List.setIfInBounds_toArray, List.set_cons_zero, List.set_cons_succ]
                refine wpAnyH_take (i := 6) (v := ?_) rfl (by kernel_rfl) (by kernel_rfl) (by kernel_rfl) (fun _ _ _ h => h) (Or.inl ⟨by rfl, ?_⟩) hS ?_
                rotate_left
                · intro wz hSw; (try dsimp only at hSw); obtain ⟨s1, s2, s3, s4, s5, s6⟩ := HRD.out wz hSw; go_simp; (try with_reducible rfl)
                try simp only [List.getElem_toArray, List.getElem_cons_zero, List.getElem_cons_succ, Act.put, List.setIfInBounds_toArray, List.set_cons_zero, List.set_cons_succ]
                refine wpAnyH_take (i := 7) (v := ?_) rfl (by kernel_rfl) (by kernel_rfl) (by kernel_rfl) (fun _ _ _ h => h) (Or.inl ⟨by rfl, ?_⟩) hS ?_
                rotate_left
                · intro wz hSw; (try dsimp only at hSw); obtain ⟨s1, s2, s3, s4, s5, s6⟩ := HRD.out wz hSw; go_simp; (try with_reducible rfl)
                try simp only [List.getElem_toArray, List.getElem_cons_zero, List.getElem_cons_succ, Act.put, List.setIfInBounds_toArray, List.set_cons_zero, List.set_cons_succ]
                refine wpAnyH_take (i := 8) (v := ?_) rfl (by kernel_rfl) (by kernel_rfl) (by kernel_rfl) (fun _ _ _ h => h) (Or.inl ⟨by rfl, ?_⟩) hS ?_
                rotate_left
                · intro wz hSw; (try dsimp only at hSw); obtain ⟨s1, s2, s3, s4, s5, s6⟩ := HRD.out wz hSw; go_simp; (try with_reducible rfl)
                try simp only [List.getElem_toArray, List.getElem_cons_zero, List.getElem_cons_succ, Act.put, List.setIfInBounds_toArray, List.set_cons_zero, List.set_cons_succ]
                refine wpAnyH_take (i := 9) (v := ?_) rfl (by kernel_rfl) (by kernel_rfl) (by kernel_rfl) (fun _ _ _ h => h) (Or.inl ⟨by rfl, ?_⟩) hS ?_
                rotate_left
                · intro wz hSw; (try dsimp only at hSw); obtain ⟨s1, s2, s3, s4, s5, s6⟩ := HRD.out wz hSw; go_simp; (try with_reducible rfl)
                try simp only [List.getElem_toArray, List.getElem_cons_zero, List.getElem_cons_succ, Act.put, List.setIfInBounds_toArray, List.set_cons_zero, List.set_cons_succ]
                refine wpAnyH_take (i := 10) (v := ?_) rfl (by kernel_rfl) (by kernel_rfl) (by kernel_rfl) (fun _ _ _ h => h) (Or.inl ⟨by rfl, ?_⟩) hS ?_
                rotate_left
                · intro wz hSw; (try dsimp only at hSw); obtain ⟨s1, s2, s3, s4, s5, s6⟩ := HRD.out wz hSw; go_simp; (try with_reducible rfl)
                try simp only [List.getElem_toArray, List.getElem_cons_zero, List.getElem_cons_succ, Act.put, List.setIfInBounds_toArray, List.set_cons_zero, List.set_cons_succ]
                refine wpAnyH_done (by kernel_rfl) ?_ _
                rw [← HZ.out]
                go_upto_region 24 with fail
                refine wp_region_held_drew (S := fun X' => X'.cell? ⟨B, x * 3, none⟩ = some (.int .i64 (nx : Nat))) (by kernel_rfl) s3 (fun hS => ?_)
                refine wpAnyH_take (i := 0) (v := ?_) rfl (by kernel_rfl) (by kernel_rfl) (by kernel_rfl) (fun _ _ _ h => h) (Or.inl ⟨by rfl, ?_⟩) hS ?_
                rotate_left
                · intro wz hSw; (try dsimp only at hSw); have s1 := hSw; go_simp; (try with_reducible rfl)
                try simp only [List.getElem_toArray, List.getElem_cons_zero, List.getElem_cons_succ, Act.put, List.setIfInBounds_toArray, List.set_cons_zero, List.set_cons_succ]
                refine wpAnyH_take (i := 1) (v := ?_) rfl (by kernel_rfl) (by kernel_rfl) (by kernel_rfl) (fun _ _ _ h => h) (Or.inl ⟨by rfl, ?_⟩) hS ?_
                rotate_left
                · intro wz hSw; (try dsimp only at hSw); have s1 := hSw; go_simp; (try with_reducible rfl)
                try simp only [List.getElem_toArray, List.getElem_cons_zero, List.getElem_cons_succ, Act.put, List.setIfInBounds_toArray, List.set_cons_zero, List.set_cons_succ]
                refine wpAnyH_take (i := 2) (v := ?_) rfl (by kernel_rfl) (by kernel_rfl) (by kernel_rfl) (fun _ _ _ h => h) (Or.inl ⟨by rfl, ?_⟩) hS ?_
                rotate_left
                · intro wz hSw; (try dsimp only at hSw); have s1 := hSw; go_simp; (try with_reducible rfl)
                try simp only [List.getElem_toArray, List.getElem_cons_zero, List.getElem_cons_succ, Act.put, List.setIfInBounds_toArray, List.set_cons_zero, List.set_cons_succ]
                refine wpAnyH_take (i := 3) (v := ?_) rfl (by kernel_rfl) (by kernel_rfl) (by kernel_rfl) (fun _ _ _ h => h) (Or.inl ⟨by rfl, ?_⟩) hS ?_
                rotate_left
                · intro wz hSw; (try dsimp only at hSw); have s1 := hSw; go_simp; (try with_reducible rfl)
                try simp only [List.getElem_toArray, List.getElem_cons_zero, List.getElem_cons_succ, Act.put, List.setIfInBounds_toArray, List.set_cons_zero, List.set_cons_succ]
                refine wpAnyH_take (i := 4) (v := ?_) rfl (by kernel_rfl) (by kernel_rfl) (by kernel_rfl) (fun _ _ _ h => h) (Or.inl ⟨by rfl, ?_⟩) hS ?_
                rotate_left
                · intro wz hSw; (try dsimp only at hSw); have s1 := hSw; go_simp; (try with_reducible rfl)
                try simp only [List.getElem_toArray, List.getElem_cons_zero, List.getElem_cons_succ, Act.put, List.setIfInBounds_toArray, List.set_cons_zero, List.set_cons_succ]
                refine wpAnyH_take (i := 6) (v := ?_) rfl (by kernel_rfl) (by kernel_rfl) (by kernel_rfl) (fun _ _ _ h => h) (Or.inl ⟨by rfl, ?_⟩) hS ?_
                rotate_left
                · intro wz hSw; (try dsimp only at hSw); have s1 := hSw; go_simp; (try with_reducible rfl)
                try simp only [List.getElem_toArray, List.getElem_cons_zero, List.getElem_cons_succ, Act.put, List.setIfInBounds_toArray, List.set_cons_zero, List.set_cons_succ]
                refine wpAnyH_take (i := 7) (v := ?_) rfl (by kernel_rfl) (by kernel_rfl) (by kernel_rfl) (fun _ _ _ h => h) (Or.inl ⟨by rfl, ?_⟩) hS ?_
                rotate_left
                · intro wz hSw; (try dsimp only at hSw); have s1 := hSw; go_simp; (try with_reducible rfl)
                try simp only [List.getElem_toArray, List.getElem_cons_zero, List.getElem_cons_succ, Act.put, List.setIfInBounds_toArray, List.set_cons_zero, List.set_cons_succ]
                refine wpAnyH_take (i := 8) (v := ?_) rfl (by kernel_rfl) (by kernel_rfl) (by kernel_rfl) (fun _ _ _ h => h) (Or.inl ⟨by rfl, ?_⟩) hS ?_
                rotate_left
                · intro wz hSw; (try dsimp only at hSw); have s1 := hSw; go_simp; (try with_reducible rfl)
                try simp only [List.getElem_toArray, List.getElem_cons_zero, List.getElem_cons_succ, Act.put, List.setIfInBounds_toArray, List.set_cons_zero, List.set_cons_succ]
                refine wpAnyH_take (i := 9) (v := ?_) rfl (by kernel_rfl) (by kernel_rfl) (by kernel_rfl) (fun _ _ _ h => h) (Or.inl ⟨by rfl, ?_⟩) hS ?_
                rotate_left
                · intro wz hSw; (try dsimp only at hSw); have s1 := hSw; go_simp; (try with_reducible rfl)
                try simp only [List.getElem_toArray, List.getElem_cons_zero, List.getElem_cons_succ, Act.put, List.setIfInBounds_toArray, List.set_cons_zero, List.set_cons_succ]
                refine wpAnyH_take (i := 10) (v := ?_) rfl (by kernel_rfl) (by kernel_rfl) (by kernel_rfl) (fun _ _ _ h => h) (Or.inl ⟨by rfl, ?_⟩) hS ?_
                rotate_left
                · intro wz hSw; (try dsimp only at hSw); have s1 := hSw; go_simp; (try with_reducible rfl)
                try simp only [List.getElem_toArray, List.getElem_cons_zero, List.getElem_cons_succ, Act.put, List.setIfInBounds_toArray, List.set_cons_zero, List.set_cons_succ]
                refine wpAnyH_ready (rs := [5]) (by kernel_rfl) (by simp) (AllReadyH.cons rfl (fun K hK => ?_) AllReadyH.nil)
                go_simp
                refine hK.out _ _ hS (fun _ => ?_)
                clear hK K
                try simp only [List.getElem_toArray, List.getElem_cons_zero, List.getElem_cons_succ, Act.put, List.setIfInBounds_toArray, List.set_cons_zero, List.set_cons_succ]
                refine wpAnyH_take (i := 11) (v := ?_) rfl (by kernel_rfl) (by kernel_rfl) (by kernel_rfl) (fun _ _ _ h => h) (Or.inl ⟨by rfl, ?_⟩) hS ?_
                rotate_left
                · intro wz hSw; (try dsimp only at hSw); have s1 := hSw; go_simp; (try with_reducible rfl)
                try simp only [List.getElem_toArray, List.getElem_cons_zero, List.getElem_cons_succ, Act.put, List.setIfInBounds_toArray, List.set_cons_zero, List.set_cons_succ]
                refine wpAnyH_take (i := 12) (v := ?_) rfl (by kernel_rfl) (by kernel_rfl) (by kernel_rfl) (fun _ _ _ h => h) (Or.inl ⟨by rfl, ?_⟩) hS ?_
                rotate_left
                · intro wz hSw; (try dsimp only at hSw); have s1 := hSw; go_simp; (try with_reducible rfl)
                try simp only [List.getElem_toArray, List.getElem_cons_zero, List.getElem_cons_succ, Act.put, List.setIfInBounds_toArray, List.set_cons_zero, List.set_cons_succ]
                refine wpAnyH_ready (rs := [13]) (by kernel_rfl) (by simp) (AllReadyH.cons rfl (fun K hK => ?_) AllReadyH.nil)
                go_simp
                refine hK.out _ _ HNB.out (fun _ => ?_)
                clear hK K
                refine wpAnyH_done (by kernel_rfl) ?_ _
                clear s1 s2 s3 s4 s5 s6 c1 fz
                go_wp2_with fail
                go_roundw
                case rel => exact ⟨i + 1, _, by omega, by go_num, HQ2.out, HFIN.out⟩
                case measure => simp [intOf]; omega
            · have t3 : decide (nx < ny) = false := decide_eq_false (by omega)
              have hlt2 : numF A y < numF A x := by have := HNE.out; rw [HNX.out, HNY.out]; omega
              clear hge
              have hLQ := LQ.up HG.out HNR.out HQ.out HED.out hlt2
              clear hlt2
              obtain ⟨s1, s2, s3, s4, s5, s6⟩ := HRD.out Z HBZ.out
              obtain ⟨ga, hga⟩ : ∃ ga, G x = ga := ⟨_, rfl⟩
              have c1 : Z.cell? ⟨P, x, none⟩ = some (.int .i64 (ga : Nat)) := by rw [← HPS.out, ← hga]; exact HLZ.out.2.1.at_ (gZ_at _ hx1)
              have fz : Z.frozen? ⟨P, x, none⟩ = false := by rw [← HPS.out]; exact free_of HLZ.out.2.1 _
              have hA0 : (0 : Int) ≤ (x : Int) := by omega
              have hA1 : (x : Int) < (Nn : Nat) := by omega
              have hB0 : (0 : Int) ≤ (y : Int) := by omega
              have hB1 : (y : Int) < (Nn : Nat) := by omega
              by_cases q : U x = some y
              · have e3 : (upZ U x != (y : Int)) = false := by simp [(upZ_is U x y).2 q]
                have HQ2 := Lib.hid (hLQ.1 q)
                clear q hLQ hga
                generalize upZ U x = ux at *
                generalize upZ U y = uy at *
                refine wp_region_held_drew (S := fun X' => Below W1.heap.size W1 X') (by kernel_rfl) hd1 (fun hS => ?_)
                refine wpAnyH_take (i := 0) (v := ?_) rfl (by kernel_rfl) (by kernel_rfl) (by kernel_rfl) (fun _ _ _ h => h) (Or.inl ⟨by rfl, ?_⟩) hS ?_
                rotate_left
                · intro wz hSw; (try dsimp only at hSw); obtain ⟨s1, s2, s3, s4, s5, s6⟩ := HRD.out wz hSw; go_simp; (try with_reducible rfl)
                try simp only [List.getElem_toArray, List.getElem_cons_zero, List.getElem_cons_succ, Act.put, List.setIfInBounds_toArray, List.set_cons_zero, List.set_cons_succ]
                refine wpAnyH_take (i := 1) (v := ?_) rfl (by kernel_rfl) (by kernel_rfl) (by kernel_rfl) (fun _ _ _ h => h) (Or.inl ⟨by rfl, ?_⟩) hS ?_
                rotate_left
                · intro wz hSw; (try dsimp only at hSw); obtain ⟨s1, s2, s3, s4, s5, s6⟩ := HRD.out wz hSw; go_simp; (try with_reducible rfl)
                try simp only [List.getElem_toArray, List.getElem_cons_zero, List.getElem_cons_succ, Act.put, List.setIfInBounds_toArray, List.set_cons_zero, List.set_cons_succ]
                refine wpAnyH_take (i := 2) (v := ?_) rfl (by kernel_rfl) (by kernel_rfl) (by kernel_rfl) (fun _ _ _ h => h) (Or.inl ⟨by rfl, ?_⟩) hS ?_
                rotate_left
                · intro wz hSw; (try dsimp only at hSw); obtain ⟨s1, s2, s3, s4, s5, s6⟩ := HRD.out wz hSw; go_simp; (try with_reducible rfl)
                try simp only [List.getElem_toArray, List.getElem_cons_zero, List.getElem_cons_succ, Act.put, List.setIfInBounds_toArray, List.set_cons_zero, List.set_cons_succ]
                refine wpAnyH_take (i := 3) (v := ?_) rfl (by kernel_rfl) (by kernel_rfl) (by kernel_rfl) (fun _ _ _ h => h) (Or.inl ⟨by rfl, ?_⟩) hS ?_
                rotate_left
                · intro wz hSw; (try dsimp only at hSw); obtain ⟨s1, s2, s3, s4, s5, s6⟩ := HRD.out wz hSw; go_simp; (try with_reducible rfl)
                try simp only [List.getElem_toArray, List.getElem_cons_zero, List.getElem_cons_succ, Act.put, List.setIfInBounds_toArray, List.set_cons_zero, List.set_cons_succ]
                refine wpAnyH_take (i := 4) (v := ?_) rfl (by kernel_rfl) (by kernel_rfl) (by kernel_rfl) (fun _ _ _ h => h) (Or.inl ⟨by rfl, ?_⟩) hS ?_
                rotate_left
                · intro wz hSw; (try dsimp only at hSw); obtain ⟨s1, s2, s3, s4, s5, s6⟩ := HRD.out wz hSw; go_simp; (try with_reducible rfl)
                try simp only [List.getElem_toArray, List.getElem_cons_zero, List.getElem_cons_succ, Act.put, List.setIfInBounds_toArray, List.set_cons_zero, List.set_cons_succ]
                refine wpAnyH_take (i := 5) (v := ?_) rfl (by kernel_rfl) (by kernel_rfl) (by kernel_rfl) (fun _ _ _ h => h) (Or.inl ⟨by rfl, ?_⟩) hS ?_
                rotate_left
                · intro wz hSw; (try dsimp only at hSw); obtain ⟨s1, s2, s3, s4, s5, s6⟩ := HRD.out wz hSw; go_simp; (try with_reducible rfl)
                try simp only [List.getElem_toArray, List.getElem_cons_zero, List.getElem_cons_succ, Act.put, List.setIfInBounds_toArray, List.set_cons_zero, List.set_cons_succ]
                refine wpAnyH_take (i := 6) (v := ?_) rfl (by kernel_rfl) (by kernel_rfl) (by kernel_rfl) (fun _ _ _ h => h) (Or.inl ⟨by rfl, ?_⟩) hS ?_
                rotate_left
                · intro wz hSw; (try dsimp only at hSw); obtain ⟨s1, s2, s3, s4, s5, s6⟩ := HRD.out wz hSw; go_simp; (try with_reducible rfl)
                try simp only [List.getElem_toArray, List.getElem_cons_zero, List.getElem_cons_succ, Act.put, List.setIfInBounds_toArray, List.set_cons_zero, List.set_cons_succ]
                refine wpAnyH_take (i := 7) (v := ?_) rfl (by kernel_rfl) (by kernel_rfl) (by kernel_rfl) (fun _ _ _ h => h) (Or.inl ⟨by rfl, ?_⟩) hS ?_
                rotate_left
                · intro wz hSw; (try dsimp only at hSw); obtain ⟨s1, s2, s3, s4, s5, s6⟩ := HRD.out wz hSw; go_simp; (try with_reducible rfl)
                try simp only [List.getElem_toArray, List.getElem_cons_zero, List.getElem_cons_succ, Act.put, List.setIfInBounds_toArray, List.set_cons_zero, List.set_cons_succ]
                refine wpAnyH_take (i := 8) (v := ?_) rfl (by kernel_rfl) (by kernel_rfl) (by kernel_rfl) (fun _ _ _ h => h) (Or.inl ⟨by rfl, ?_⟩) hS ?_
                rotate_left
                · intro wz hSw; (try dsimp only at hSw); obtain ⟨s1, s2, s3, s4, s5, s6⟩ := HRD.out wz hSw; go_simp; (try with_reducible rfl)
                try simp only [List.getElem_toArray, List.getElem_cons_zero, List.getElem_cons_succ, Act.put, List.setIfInBounds_toArray, List.set_cons_zero, List.set_cons_succ]
                refine wpAnyH_take (i := 9) (v := ?_) rfl (by kernel_rfl) (by kernel_rfl) (by kernel_rfl) (fun _ _ _ h => h) (Or.inl ⟨by rfl, ?_⟩) hS ?_
                rotate_left
                · intro wz hSw; (try dsimp only at hSw); obtain ⟨s1, s2, s3, s4, s5, s6⟩ := HRD.out wz hSw; go_simp; (try with_reducible rfl)
                try simp only [List.getElem_toArray, List.getElem_cons_zero, List.getElem_cons_succ, Act.put, List.setIfInBounds_toArray, List.set_cons_zero, List.set_cons_succ]
                refine wpAnyH_take (i := 10) (v := ?_) rfl (by kernel_rfl) (by kernel_rfl) (by kernel_rfl) (fun _ _ _ h => h) (Or.inl ⟨by rfl, ?_⟩) hS ?_
                rotate_left
                · intro wz hSw; (try dsimp only at hSw); obtain ⟨s1, s2, s3, s4, s5, s6⟩ := HRD.out wz hSw; go_simp; (try with_reducible rfl)
                try simp only [List.getElem_toArray, List.getElem_cons_zero, List.getElem_cons_succ, Act.put, List.setIfInBounds_toArray, List.set_cons_zero, List.set_cons_succ]
                refine wpAnyH_done (by kernel_rfl) ?_ _
                rw [← HZ.out]
                go_wp2_with fail
                go_roundw
                case rel => exact ⟨i + 1, G, by omega, by go_num, HQ2.out, HLZ.out⟩
                case measure => simp [intOf]; omega
              · have e3 : (upZ U x != (y : Int)) = true := by simp [upZ_is U x y, q]
                obtain ⟨z, hz⟩ : ∃ z, z = min ga ny := ⟨_, rfl⟩
                have HQ2 := hLQ.2 q
                rw [hga, HNY.out, ← hz] at HQ2
                have HQ2 := Lib.hid HQ2
                have hmz : min ((ga : Nat) : Int) ((ny : Nat) : Int) = (z : Int) := by rw [hz]; omega
                have HFIN : Hid (LI w2 Nn nn kk f (putF G x z) (Z.setCell ⟨P, x, none⟩ (.int .i64 (z : Int))).drew) := by
                  have h := (HLZ.out.set x z).drew
                  rw [HPS.out] at h
                  exact h
                have HNB : Hid ((Z.setCell ⟨P, x, none⟩ (.int .i64 (z : Int))).cell? ⟨B, y * 3, none⟩ = some (.int .i64 (ny : Nat))) := by
                  have h := HLZ.out.set x z
                  rw [HPS.out] at h
                  obtain ⟨_, _, _, hT⟩ := HFX.out _ _ _ _ _ h
                  have h := (hT.at_ (lowL_at A U F hy1)).1
                  simp only at h
                  rw [HNY.out] at h
                  exact h
                clear q hLQ hga hz
                generalize upZ U x = ux at *
                generalize upZ U y = uy at *
                refine wp_region_held_drew (S := fun X' => Below W1.heap.size W1 X') (by kernel_rfl) hd1 (fun hS => ?_)
                refine wpAnyH_take (i := 0) (v := ?_) rfl (by kernel_rfl) (by kernel_rfl) (by kernel_rfl) (fun _ _ _ h => h) (Or.inl ⟨by rfl, ?_⟩) hS ?_
                rotate_left
                · intro wz hSw; (try dsimp only at hSw); obtain ⟨s1, s2, s3, s4, s5, s6⟩ := HRD.out wz hSw; go_simp; (try with_reducible rfl)
                try simp only [List.getElem_toArray, List.getElem_cons_zero, List.getElem_cons_succ, Act.put, List.setIfInBounds_toArray, List.set_cons_zero, List.set_cons_succ]
                refine wpAnyH_take (i := 1) (v := ?_) rfl (by kernel_rfl) (by kernel_rfl) (by kernel_rfl) (fun _ _ _ h => h) (Or.inl ⟨by rfl, ?_⟩) hS ?_
                rotate_left
                · intro wz hSw; (try dsimp only at hSw); obtain ⟨s1, s2, s3, s4, s5, s6⟩ := HRD.out wz hSw; go_simp; (try with_reducible rfl)
                try simp only [List.getElem_toArray, List.getElem_cons_zero, List.getElem_cons_succ, Act.put, List.setIfInBounds_toArray, List.set_cons_zero, List.set_cons_succ]
                refine wpAnyH_take (i := 2) (v := ?_) rfl (by kernel_rfl) (by kernel_rfl) (by kernel_rfl) (fun _ _ _ h => h) (Or.inl ⟨by rfl, ?_⟩) hS ?_
                rotate_left
                · intro wz hSw; (try dsimp only at hSw); obtain ⟨s1, s2, s3, s4, s5, s6⟩ := HRD.out wz hSw; go_simp; (try with_reducible rfl)
                try simp only [List.getElem_toArray, List.getElem_cons_zero, List.getElem_cons_succ, Act.put, List.setIfInBounds_toArray, List.set_cons_zero, List.set_cons_succ]
                refine wpAnyH_take (i := 3) (v := ?_) rfl (by kernel_rfl) (by kernel_rfl) (by kernel_rfl) (fun _ _ _ h => h) (Or.inl ⟨by rfl, ?_⟩) hS ?_
                rotate_left
                · intro wz hSw; (try dsimp only at hSw); obtain ⟨s1, s2, s3, s4, s5, s6⟩ := HRD.out wz hSw; go_simp; (try with_reducible rfl)
                try simp only [List.getElem_toArray, List.getElem_cons_zero, List.getElem_cons_succ, Act.put, List.setIfInBounds_toArray, List.set_cons_zero, List.set_cons_succ]
                refine wpAnyH_take (i := 4) (v := ?_) rfl (by kernel_rfl) (by kernel_rfl) (by kernel_rfl) (fun _ _ _ h => h) (Or.inl ⟨by rfl, ?_⟩) hS ?_
                rotate_left
                · intro wz hSw; (try dsimp only at hSw); obtain ⟨s1, s2, s3, s4, s5, s6⟩ := HRD.out wz hSw; go_simp; (try with_reducible rfl)
                try simp only [List.getElem_toArray, List.getElem_cons_zero, List.getElem_cons_succ, Act.put, List.setIfInBounds_toArray, List.set_cons_zero, List.set_cons_succ]
                refine wpAnyH_take (i := 5) (v := ?_) rfl (by kernel_rfl) (by kernel_rfl) (by kernel_rfl) (fun _ _ _ h => h) (Or.inl ⟨by rfl, ?_⟩) hS ?_
                rotate_left
                · intro wz hSw; (try dsimp only at hSw); obtain ⟨s1, s2, s3, s4, s5, s6⟩ := HRD.out wz hSw; go_simp; (try with_reducible rfl)
                try simp only [List.getElem_toArray, List.getElem_cons_zero, List.getElem_cons_succ, Act.put, List.setIfInBounds_toArray, List.set_cons_zero, List.set_cons_succ]
                refine wpAnyH_take (i := 6) (v := ?_) rfl (by kernel_rfl) (by kernel_rfl) (by kernel_rfl) (fun _ _ _ h => h) (Or.inl ⟨by rfl, ?_⟩) hS ?_
                rotate_left
                · intro wz hSw; (try dsimp only at hSw); obtain ⟨s1, s2, s3, s4, s5, s6⟩ := HRD.out wz hSw; go_simp; (try with_reducible rfl)
                try simp only [List.getElem_toArray, List.getElem_cons_zero, List.getElem_cons_succ, Act.put, List.setIfInBounds_toArray, List.set_cons_zero, List.set_cons_succ]
                refine wpAnyH_take (i := 7) (v := ?_) rfl (by kernel_rfl) (by kernel_rfl) (by kernel_rfl) (fun _ _ _ h => h) (Or.inl ⟨by rfl, ?_⟩) hS ?_
                rotate_left
                · intro wz hSw; (try dsimp only at hSw); obtain ⟨s1, s2, s3, s4, s5, s6⟩ := HRD.out wz hSw; go_simp; (try with_reducible rfl)
                try simp only [List.getElem_toArray, List.getElem_cons_zero, List.getElem_cons_succ, Act.put, List.setIfInBounds_toArray, List.set_cons_zero, List.set_cons_succ]
                refine wpAnyH_take (i := 8) (v := ?_) rfl (by kernel_rfl) (by kernel_rfl) (by kernel_rfl) (fun _ _ _ h => h) (Or.inl ⟨by rfl, ?_⟩) hS ?_
                rotate_left
                · intro wz hSw; (try dsimp only at hSw); obtain ⟨s1, s2, s3, s4, s5, s6⟩ := HRD.out wz hSw; go_simp; (try with_reducible rfl)
                try simp only [List.getElem_toArray, List.getElem_cons_zero, List.getElem_cons_succ, Act.put, List.setIfInBounds_toArray, List.set_cons_zero, List.set_cons_succ]
                refine wpAnyH_take (i := 9) (v := ?_) rfl (by kernel_rfl) (by kernel_rfl) (by kernel_rfl) (fun _ _ _ h => h) (Or.inl ⟨by rfl, ?_⟩) hS ?_
                rotate_left
                · intro wz hSw; (try dsimp only at hSw); obtain ⟨s1, s2, s3, s4, s5, s6⟩ := HRD.out wz hSw; go_simp; (try with_reducible rfl)
                try simp only [List.getElem_toArray, List.getElem_cons_zero, List.getElem_cons_succ, Act.put, List.setIfInBounds_toArray, List.set_cons_zero, List.set_cons_succ]
                refine wpAnyH_take (i := 10) (v := ?_) rfl (by kernel_rfl) (by kernel_rfl) (by kernel_rfl) (fun _ _ _ h => h) (Or.inl ⟨by rfl, ?_⟩) hS ?_
                rotate_left
                · intro wz hSw; (try dsimp only at hSw); obtain ⟨s1, s2, s3, s4, s5, s6⟩ := HRD.out wz hSw; go_simp; (try with_reducible rfl)
                try simp only [List.getElem_toArray, List.getElem_cons_zero, List.getElem_cons_succ, Act.put, List.setIfInBounds_toArray, List.set_cons_zero, List.set_cons_succ]
                refine wpAnyH_done (by kernel_rfl) ?_ _
                rw [← HZ.out]
                go_upto_region 24 with fail
                refine wp_region_held_drew (S := fun X' => X'.cell? ⟨B, y * 3, none⟩ = some (.int .i64 (ny : Nat))) (by kernel_rfl) s4 (fun hS => ?_)
                refine wpAnyH_take (i := 0) (v := ?_) rfl (by kernel_rfl) (by kernel_rfl) (by kernel_rfl) (fun _ _ _ h => h) (Or.inl ⟨by rfl, ?_⟩) hS ?_
                rotate_left
                · intro wz hSw; (try dsimp only at hSw); have s1 := hSw; go_simp; (try with_reducible rfl)
                try simp only [List.getElem_toArray, List.getElem_cons_zero, List.getElem_cons_succ, Act.put, List.setIfInBounds_toArray, List.set_cons_zero, List.set_cons_succ]
                refine wpAnyH_take (i := 1) (v := ?_) rfl (by kernel_rfl) (by kernel_rfl) (by kernel_rfl) (fun _ _ _ h => h) (Or.inl ⟨by rfl, ?_⟩) hS ?_
                rotate_left
                · intro wz hSw; (try dsimp only at hSw); have s1 := hSw; go_simp; (try with_reducible rfl)
                try simp only [List.getElem_toArray, List.getElem_cons_zero, List.getElem_cons_succ, Act.put, List.setIfInBounds_toArray, List.set_cons_zero, List.set_cons_succ]
                refine wpAnyH_take (i := 2) (v := ?_) rfl (by kernel_rfl) (by kernel_rfl) (by kernel_rfl) (fun _ _ _ h => h) (Or.inl ⟨by rfl, ?_⟩) hS ?_
                rotate_left
                · intro wz hSw; (try dsimp only at hSw); have s1 := hSw; go_simp; (try with_reducible rfl)
                try simp only [List.getElem_toArray, List.getElem_cons_zero, List.getElem_cons_succ, Act.put, List.setIfInBounds_toArray, List.set_cons_zero, List.set_cons_succ]
                refine wpAnyH_take (i := 3) (v := ?_) rfl (by kernel_rfl) (by kernel_rfl) (by kernel_rfl) (fun _ _ _ h => h) (Or.inl ⟨by rfl, ?_⟩) hS ?_
                rotate_left
                · intro wz hSw; (try dsimp only at hSw); have s1 := hSw; go_simp; (try with_reducible rfl)
                try simp only [List.getElem_toArray, List.getElem_cons_zero, List.getElem_cons_succ, Act.put, List.setIfInBounds_toArray, List.set_cons_zero, List.set_cons_succ]
                refine wpAnyH_take (i := 4) (v := ?_) rfl (by kernel_rfl) (by kernel_rfl) (by kernel_rfl) (fun _ _ _ h => h) (Or.inl ⟨by rfl, ?_⟩) hS ?_
                rotate_left
                · intro wz hSw; (try dsimp only at hSw); have s1 := hSw; go_simp; (try with_reducible rfl)
                try simp only [List.getElem_toArray, List.getElem_cons_zero, List.getElem_cons_succ, Act.put, List.setIfInBounds_toArray, List.set_cons_zero, List.set_cons_succ]
                refine wpAnyH_take (i := 6) (v := ?_) rfl (by kernel_rfl) (by kernel_rfl) (by kernel_rfl) (fun _ _ _ h => h) (Or.inl ⟨by rfl, ?_⟩) hS ?_
                rotate_left
                · intro wz hSw; (try dsimp only at hSw); have s1 := hSw; go_simp; (try with_reducible rfl)
                try simp only [List.getElem_toArray, List.getElem_cons_zero, List.getElem_cons_succ, Act.put, List.setIfInBounds_toArray, List.set_cons_zero, List.set_cons_succ]
                refine wpAnyH_take (i := 7) (v := ?_) rfl (by kernel_rfl) (by kernel_rfl) (by kernel_rfl) (fun _ _ _ h => h) (Or.inl ⟨by rfl, ?_⟩) hS ?_
                rotate_left
                · intro wz hSw; (try dsimp only at hSw); have s1 := hSw; go_simp; (try with_reducible rfl)
                try simp only [List.getElem_toArray, List.getElem_cons_zero, List.getElem_cons_succ, Act.put, List.setIfInBounds_toArray, List.set_cons_zero, List.set_cons_succ]
                refine wpAnyH_take (i := 8) (v := ?_) rfl (by kernel_rfl) (by kernel_rfl) (by kernel_rfl) (fun _ _ _ h => h) (Or.inl ⟨by rfl, ?_⟩) hS ?_
                rotate_left
                · intro wz hSw; (try dsimp only at hSw); have s1 := hSw; go_simp; (try with_reducible rfl)
                try simp only [List.getElem_toArray, List.getElem_cons_zero, List.getElem_cons_succ, Act.put, List.setIfInBounds_toArray, List.set_cons_zero, List.set_cons_succ]
                refine wpAnyH_take (i := 9) (v := ?_) rfl (by kernel_rfl) (by kernel_rfl) (by kernel_rfl) (fun _ _ _ h => h) (Or.inl ⟨by rfl, ?_⟩) hS ?_
                rotate_left
                · intro wz hSw; (try dsimp only at hSw); have s1 := hSw; go_simp; (try with_reducible rfl)
                try simp only [List.getElem_toArray, List.getElem_cons_zero, List.getElem_cons_succ, Act.put, List.setIfInBounds_toArray, List.set_cons_zero, List.set_cons_succ]
                refine wpAnyH_take (i := 10) (v := ?_) rfl (by kernel_rfl) (by kernel_rfl) (by kernel_rfl) (fun _ _ _ h => h) (Or.inl ⟨by rfl, ?_⟩) hS ?_
                rotate_left
                · intro wz hSw; (try dsimp only at hSw); have s1 := hSw; go_simp; (try with_reducible rfl)
                try simp only [List.getElem_toArray, List.getElem_cons_zero, List.getElem_cons_succ, Act.put, List.setIfInBounds_toArray, List.set_cons_zero, List.set_cons_succ]
                refine wpAnyH_ready (rs := [5]) (by kernel_rfl) (by simp) (AllReadyH.cons rfl (fun K hK => ?_) AllReadyH.nil)
                go_simp
                refine hK.out _ _ hS (fun _ => ?_)
                clear hK K
                try simp only [List.getElem_toArray, List.getElem_cons_zero, List.getElem_cons_succ, Act.put, List.setIfInBounds_toArray, List.set_cons_zero, List.set_cons_succ]
                refine wpAnyH_take (i := 11) (v := ?_) rfl (by kernel_rfl) (by kernel_rfl) (by kernel_rfl) (fun _ _ _ h => h) (Or.inl ⟨by rfl, ?_⟩) hS ?_
                rotate_left
                · intro wz hSw; (try dsimp only at hSw); have s1 := hSw; go_simp; (try with_reducible rfl)
                try simp only [List.getElem_toArray, List.getElem_cons_zero, List.getElem_cons_succ, Act.put, List.setIfInBounds_toArray, List.set_cons_zero, List.set_cons_succ]
                refine wpAnyH_take (i := 12) (v := ?_) rfl (by kernel_rfl) (by kernel_rfl) (by kernel_rfl) (fun _ _ _ h => h) (Or.inl ⟨by rfl, ?_⟩) hS ?_
                rotate_left
                · intro wz hSw; (try dsimp only at hSw); have s1 := hSw; go_simp; (try with_reducible rfl)
                try simp only [List.getElem_toArray, List.getElem_cons_zero, List.getElem_cons_succ, Act.put, List.setIfInBounds_toArray, List.set_cons_zero, List.set_cons_succ]
                refine wpAnyH_ready (rs := [13]) (by kernel_rfl) (by simp) (AllReadyH.cons rfl (fun K hK => ?_) AllReadyH.nil)
                go_simp
                refine hK.out _ _ HNB.out (fun _ => ?_)
                clear hK K
                refine wpAnyH_done (by kernel_rfl) ?_ _
                clear s1 s2 s3 s4 s5 s6 c1 fz
                go_wp2_with fail
                go_roundw
                case rel => exact ⟨i + 1, _, by omega, by go_num, HQ2.out, HFIN.out⟩
                case measure => simp [intOf]; omega
          · obtain rfl : n = i := by omega
            have t2 : decide ((n : Int) < (n : Int)) = false := by simp
            obtain ⟨x0, x1, _, _⟩ := HFX.out wr _ _ _ _ hLI.out
            have HQ0 : Hid (LQ Nn E A U F E.length Nn G) := by
              have h := hQ.out
              rw [HN.out] at h
              exact h
            have HLI2 := Lib.hid hLI.out
            clear hQ hLI
            go_wp2_with fail
            clear x0 x1
            go_loopw [15] (fun s15 wr => ∃ (j : Nat) (G : Nat → Nat), j ≤ Nn ∧ s15 = .int .i64 j ∧ Hid (LQ Nn E A U F E.length j G) ∧ Hid (LI w2 Nn nn kk f G wr)) (fun s15 _ => (intOf s15).toNat)
            case atStart => exact ⟨Nn, _, Nat.le_refl _, rfl, HQ0, HLI2⟩
            case round => as_aux_lemma =>
              clear HLI2 HQ0
              obtain ⟨j, G, hj, rfl, hQ, hLI⟩ := hrel
              by_cases h3 : 0 < j
              · obtain ⟨t, rfl⟩ : ∃ t, j = t + 1 := ⟨j - 1, by omega⟩
                have t3 : decide ((0 : Int) < ((t + 1 : Nat) : Int)) = true := decide_eq_true (by omega)
                have t3n : decide (0 < t + 1) = true := decide_eq_true (by omega)
                have hmet := HNR.out.met_at HG.out (show 1 ≤ t + 1 by omega) hj
                have hco := LQ.core HG.out HNR.out HLF.out hQ.out (by omega) hj
                have hdn := LQ.down HG.out HNR.out HLF.out hQ.out (by omega) hj
                simp only [Nat.add_sub_cancel] at hmet hco hdn
                obtain ⟨v, hv⟩ : ∃ v, gn A t = v := ⟨_, rfl⟩
                rw [hv] at hmet hco hdn
                obtain ⟨hvN, hnum⟩ := hmet
                have hlk : (Instr.lookup 55 (.map (some (P + 1))) (.int .i64 ((t + 1 : Nat) : Int)) false).run Try.prog wr = .ok (.int .i64 (v : Nat)) wr := by
                  have h := hLI.out.2.2.look (x := ((t + 1 : Nat) : Int)) (by unfold inI; omega)
                  have h0 := HMT.out.yes v hvN
                  rw [hnum] at h0
                  rw [h0, HPS.out] at h
                  exact h
                obtain ⟨_, _, _, hT⟩ := HFX.out wr _ _ _ _ hLI.out
                obtain ⟨_, a1, a2⟩ := hT.at_ (lowL_at A U F hvN)
                simp only at a1 a2
                have c1 : wr.cell? ⟨P, v, none⟩ = some (.int .i64 ((G v : Nat) : Int)) := by rw [← HPS.out]; exact hLI.out.2.1.at_ (gZ_at _ hvN)
                obtain ⟨gv, hgv⟩ : ∃ gv, G v = gv := ⟨_, rfl⟩
                obtain ⟨uz, huz⟩ : ∃ uz, upZ U v = uz := ⟨_, rfl⟩
                rw [← hco, hgv] at a2
                rw [hgv] at c1
                rw [huz] at a1
                have hV0 : (0 : Int) ≤ (v : Int) := by omega
                have hV1 : (v : Int) < (Nn : Nat) := by omega
                obtain ⟨Z, hZ⟩ : ∃ Z, Z = wr.drew := ⟨_, rfl⟩
                have HLZ : Hid (LI w2 Nn nn kk f G Z) := by rw [hZ]; exact hLI.out.drew
                have HZ := Lib.hid hZ
                have HDN := Lib.hid hdn
                have HGV := Lib.hid hgv
                have HUZ := Lib.hid huz
                have HVN := Lib.hid hvN
                have HNM := Lib.hid hnum
                clear hZ hdn hgv huz hvN hnum hco hv hQ hLI hT
                have hlk2 : (Instr.lookup 55 (.map (some (P + 1))) (.int .i64 ((t : Int) + 1)) false).run Try.prog wr = .ok (.int .i64 (v : Nat)) wr := hlk
                have t3m : decide ((0 : Int) < (t : Int) + 1) = true := decide_eq_true (by omega)
                go_upto_region 30 with fail
                clear hlk hlk2
                go_region
                rw [← HZ.out]
                clear a1 a2 c1
                obtain ⟨_, _, _, hT⟩ := HFX.out Z _ _ _ _ HLZ.out
                obtain ⟨_, a1, _⟩ := hT.at_ (lowL_at A U F HVN.out)
                simp only at a1
                rw [HUZ.out] at a1
                obtain hu | ⟨u, hu⟩ : U v = none ∨ ∃ u, U v = some u := by
                  cases U v with
                  | none => exact .inl rfl
                  | some u => exact .inr ⟨u, rfl⟩
                · have q5 : decide (0 ≤ uz) = false := by rw [← HUZ.out]; unfold upZ; rw [hu]; decide
                  have HQ2 := Lib.hid (HDN.out.1 hu)
                  clear hu hT
                  go_wp2_with fail
                  go_roundw
                  case rel => exact ⟨t, G, by omega, by first | go_num | (congr 1; omega), HQ2.out, HLZ.out⟩
                  case measure => simp [intOf] <;> omega
                · obtain rfl : uz = (u : Int) := by rw [← HUZ.out]; unfold upZ; rw [hu]
                  have huN := (HNR.out.up_lt HG.out hu).1
                  have hne : u ≠ v := fun e => by have := ((HNR.out.forest HG.out).ups _ _ hu).1; rw [e] at this; omega
                  have q5 : decide (0 ≤ (u : Int)) = true := decide_eq_true (by omega)
                  obtain ⟨gu, hgu⟩ : ∃ gu, G u = gu := ⟨_, rfl⟩
                  obtain ⟨z, hz⟩ : ∃ z, z = min gu gv := ⟨_, rfl⟩
                  have HQ2 := HDN.out.2 u hu
                  rw [hgu, HGV.out, ← hz] at HQ2
                  have HQ2 := Lib.hid HQ2
                  have hmz : min ((gu : Nat) : Int) ((gv : Nat) : Int) = (z : Int) := by rw [hz]; omega
                  have cu : Z.cell? ⟨P, u, none⟩ = some (.int .i64 (gu : Nat)) := by rw [← HPS.out, ← hgu]; exact HLZ.out.2.1.at_ (gZ_at _ huN)
                  have cv : Z.cell? ⟨P, v, none⟩ = some (.int .i64 (gv : Nat)) := by rw [← HPS.out, ← HGV.out]; exact HLZ.out.2.1.at_ (gZ_at _ HVN.out)
                  have fz : Z.frozen? ⟨P, u, none⟩ = false := by rw [← HPS.out]; exact free_of HLZ.out.2.1 _
                  have HFIN : Hid (LI w2 Nn nn kk f (putF G u z) (Z.setCell ⟨P, u, none⟩ (.int .i64 (z : Int))).drew) := by
                    have h := (HLZ.out.set u z).drew
                    rw [HPS.out] at h
                    exact h
                  have HNB : Hid ((Z.setCell ⟨P, u, none⟩ (.int .i64 (z : Int))).cell? ⟨P, v, none⟩ = some (.int .i64 (gv : Nat))) := by
                    show _ = _
                    rw [World.cell?_setCell_other _ _ _ _ (fun e => hne (by injection e))]
                    exact cv
                  have hA0 : (0 : Int) ≤ (u : Int) := by omega
                  have hA1 : (u : Int) < (Nn : Nat) := by omega
                  clear hu hT hgu hz hne huN
                  go_upto_region 34 with fail
                  refine wp_region_held_drew (S := fun X' => X'.cell? ⟨P, v, none⟩ = some (.int .i64 (gv : Nat))) (by kernel_rfl) cv (fun hS => ?_)
                  refine wpAnyH_take (i := 0) (v := ?_) rfl (by kernel_rfl) (by kernel_rfl) (by kernel_rfl) (fun _ _ _ h => h) (Or.inl ⟨by rfl, ?_⟩) hS ?_
                  rotate_left
                  · intro wz hSw; (try dsimp only at hSw); have s1 := hSw; go_simp; (try with_reducible rfl)
                  try simp only [List.getElem_toArray, List.getElem_cons_zero, List.getElem_cons_succ, Act.put, List.setIfInBounds_toArray, List.set_cons_zero, List.set_cons_succ]
                  refine wpAnyH_take (i := 1) (v := ?_) rfl (by kernel_rfl) (by kernel_rfl) (by kernel_rfl) (fun _ _ _ h => h) (Or.inl ⟨by rfl, ?_⟩) hS ?_
                  rotate_left
                  · intro wz hSw; (try dsimp only at hSw); have s1 := hSw; go_simp; (try with_reducible rfl)
                  try simp only [List.getElem_toArray, List.getElem_cons_zero, List.getElem_cons_succ, Act.put, List.setIfInBounds_toArray, List.set_cons_zero, List.set_cons_succ]
                  refine wpAnyH_take (i := 2) (v := ?_) rfl (by kernel_rfl) (by kernel_rfl) (by kernel_rfl) (fun _ _ _ h => h) (Or.inl ⟨by rfl, ?_⟩) hS ?_
                  rotate_left
                  · intro wz hSw; (try dsimp only at hSw); have s1 := hSw; go_simp; (try with_reducible rfl)
                  try simp only [List.getElem_toArray, List.getElem_cons_zero, List.getElem_cons_succ, Act.put, List.setIfInBounds_toArray, List.set_cons_zero, List.set_cons_succ]
                  refine wpAnyH_take (i := 3) (v := ?_) rfl (by kernel_rfl) (by kernel_rfl) (by kernel_rfl) (fun _ _ _ h => h) (Or.inl ⟨by rfl, ?_⟩) hS ?_
                  rotate_left
                  · intro wz hSw; (try dsimp only at hSw); have s1 := hSw; go_simp; (try with_reducible rfl)
                  try simp only [List.getElem_toArray, List.getElem_cons_zero, List.getElem_cons_succ, Act.put, List.setIfInBounds_toArray, List.set_cons_zero, List.set_cons_succ]
                  refine wpAnyH_take (i := 4) (v := ?_) rfl (by kernel_rfl) (by kernel_rfl) (by kernel_rfl) (fun _ _ _ h => h) (Or.inl ⟨by rfl, ?_⟩) hS ?_
                  rotate_left
                  · intro wz hSw; (try dsimp only at hSw); have s1 := hSw; go_simp; (try with_reducible rfl)
                  try simp only [List.getElem_toArray, List.getElem_cons_zero, List.getElem_cons_succ, Act.put, List.setIfInBounds_toArray, List.set_cons_zero, List.set_cons_succ]
                  refine wpAnyH_take (i := 6) (v := ?_) rfl (by kernel_rfl) (by kernel_rfl) (by kernel_rfl) (fun _ _ _ h => h) (Or.inl ⟨by rfl, ?_⟩) hS ?_
                  rotate_left
                  · intro wz hSw; (try dsimp only at hSw); have s1 := hSw; go_simp; (try with_reducible rfl)
                  try simp only [List.getElem_toArray, List.getElem_cons_zero, List.getElem_cons_succ, Act.put, List.setIfInBounds_toArray, List.set_cons_zero, List.set_cons_succ]
                  refine wpAnyH_take (i := 7) (v := ?_) rfl (by kernel_rfl) (by kernel_rfl) (by kernel_rfl) (fun _ _ _ h => h) (Or.inl ⟨by rfl, ?_⟩) hS ?_
                  rotate_left
                  · intro wz hSw; (try dsimp only at hSw); have s1 := hSw; go_simp; (try with_reducible rfl)
                  try simp only [List.getElem_toArray, List.getElem_cons_zero, List.getElem_cons_succ, Act.put, List.setIfInBounds_toArray, List.set_cons_zero, List.set_cons_succ]
                  refine wpAnyH_take (i := 8) (v := ?_) rfl (by kernel_rfl) (by kernel_rfl) (by kernel_rfl) (fun _ _ _ h => h) (Or.inl ⟨by rfl, ?_⟩) hS ?_
                  rotate_left
                  · intro wz hSw; (try dsimp only at hSw); have s1 := hSw; go_simp; (try with_reducible rfl)
                  try simp only [List.getElem_toArray, List.getElem_cons_zero, List.getElem_cons_succ, Act.put, List.setIfInBounds_toArray, List.set_cons_zero, List.set_cons_succ]
                  refine wpAnyH_take (i := 9) (v := ?_) rfl (by kernel_rfl) (by kernel_rfl) (by kernel_rfl) (fun _ _ _ h => h) (Or.inl ⟨by rfl, ?_⟩) hS ?_
                  rotate_left
                  · intro wz hSw; (try dsimp only at hSw); have s1 := hSw; go_simp; (try with_reducible rfl)
                  try simp only [List.getElem_toArray, List.getElem_cons_zero, List.getElem_cons_succ, Act.put, List.setIfInBounds_toArray, List.set_cons_zero, List.set_cons_succ]
                  refine wpAnyH_ready (rs := [5]) (by kernel_rfl) (by simp) (AllReadyH.cons rfl (fun K hK => ?_) AllReadyH.nil)
                  go_simp
                  refine hK.out _ _ hS (fun _ => ?_)
                  clear hK K
                  try simp only [List.getElem_toArray, List.getElem_cons_zero, List.getElem_cons_succ, Act.put, List.setIfInBounds_toArray, List.set_cons_zero, List.set_cons_succ]
                  refine wpAnyH_take (i := 10) (v := ?_) rfl (by kernel_rfl) (by kernel_rfl) (by kernel_rfl) (fun _ _ _ h => h) (Or.inl ⟨by rfl, ?_⟩) hS ?_
                  rotate_left
                  · intro wz hSw; (try dsimp only at hSw); have s1 := hSw; go_simp; (try with_reducible rfl)
                  try simp only [List.getElem_toArray, List.getElem_cons_zero, List.getElem_cons_succ, Act.put, List.setIfInBounds_toArray, List.set_cons_zero, List.set_cons_succ]
                  refine wpAnyH_take (i := 11) (v := ?_) rfl (by kernel_rfl) (by kernel_rfl) (by kernel_rfl) (fun _ _ _ h => h) (Or.inl ⟨by rfl, ?_⟩) hS ?_
                  rotate_left
                  · intro wz hSw; (try dsimp only at hSw); have s1 := hSw; go_simp; (try with_reducible rfl)
                  try simp only [List.getElem_toArray, List.getElem_cons_zero, List.getElem_cons_succ, Act.put, List.setIfInBounds_toArray, List.set_cons_zero, List.set_cons_succ]
                  refine wpAnyH_ready (rs := [12]) (by kernel_rfl) (by simp) (AllReadyH.cons rfl (fun K hK => ?_) AllReadyH.nil)
                  go_simp
                  refine hK.out _ _ HNB.out (fun _ => ?_)
                  clear hK K
                  refine wpAnyH_done (by kernel_rfl) ?_ _
                  clear cu cv fz a1
                  go_wp2_with fail
                  go_roundw
                  case rel => exact ⟨t, _, by omega, by first | go_num | (congr 1; omega), HQ2.out, HFIN.out⟩
                  case measure => simp [intOf] <;> omega
              · obtain rfl : j = 0 := by omega
                have HBL := Lib.hid hLI.out.1
                clear hQ hLI
                go_wp2_with fail
                refine (awake5_any wr).mono ?_
                rintro e w7 ⟨rfl, hb7⟩
                go_wp2_with fail
                go_ret
                exact ⟨rfl, HB.out.trans ((next_below HB2.out (next_below HBL.out hb7)).mono (Nat.le_of_lt HXS.out))⟩
theorem lowsearch_walk (v0 : Value) (w : World) (h0 : OkGraph w v0) : Calls Try.prog 8 #[v0] w fun e w' => e = .returned (.bool true) ∧ Below w.heap.size w w' := by
  obtain ⟨N, A, c, E, rfl, _, _, hr, _, _, _⟩ := h0
  exact lowsearch_g A c E.length N E w hr rfl
end Go.Proofs.Ytlkddjpjhchjfaa
