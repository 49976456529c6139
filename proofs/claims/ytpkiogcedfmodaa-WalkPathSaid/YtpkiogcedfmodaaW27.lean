/- WalkPath, where the graph has the vertices. -/
import Derived.Test.YtpkiogcedfmodaaW26
namespace Go.Proofs.Ytpkiogcedfmodaa
open Go.RowKit

set_option maxRecDepth 100000 in
set_option maxHeartbeats 8000000 in
theorem path_yes (A : Option Addr) (c N a b : Nat) (E : List (Int × Int)) (w : World) (hr : RdP w A E) (hg : rightG (N : Nat) E = true) (hN : N ≤ 60) (ha : a < N) (hb : b < N) (ht : thereB (N : Nat) E [(a : Int), (b : Int)] = true) :
    Calls Try.prog 7 #[.agg #[.int .i64 (N : Nat), .slice A E.length c], .int .i64 (a : Nat), .int .i64 (b : Nat)] w fun e w' => e = .returned (.bool true) ∧ Below w.heap.size w w' := by
  obtain ⟨W, hW⟩ : ∃ W, W = w.alloc (.cells #[.int .i64 (N : Nat), .slice A E.length c] 24) := ⟨_, rfl⟩
  have hbw : Below w.heap.size w W := by rw [hW]; exact (Below.refl _ _).alloc (Nat.le_refl _) _
  have hWS : w.heap.size < W.heap.size := by rw [hW]; simp
  have hWz : W.heap.size = w.heap.size + 1 := by rw [hW]; simp
  obtain ⟨i0, i1, _, _⟩ := cells_two (w := W) (by rw [hW]; exact heap_alloc_new w _)
  have HJ : Hid (∀ w', Below W.heap.size W w' → w'.cell? ⟨w.heap.size, 0, none⟩ = some (.int .i64 (N : Nat)) ∧ w'.cell? ⟨w.heap.size, 1, none⟩ = some (.slice A E.length c)) := fun w' hb =>
    ⟨by rw [hb.cell (by show w.heap.size < _; omega)]; exact i0, by rw [hb.cell (by show w.heap.size < _; omega)]; exact i1⟩
  have hEl : E.length ≤ 594 := by have := rightG_bounds hg; omega
  have HR := Lib.hid (hr.below hbw)
  have HG := Lib.hid hg
  have HB := Lib.hid hbw
  have HT := Lib.hid ht
  have HW := Lib.hid hW
  clear hr hbw hW hg ht i0 i1
  obtain ⟨n, hn⟩ : ∃ n, E.length = n := ⟨_, rfl⟩
  have HN := Lib.hid hn
  rw [hn] at HW HJ hEl ⊢
  clear hn
  go_enter Try.func7, Try.ntmps7
  go_wp2_with fail
  rw [← HW.out]
  have HLT := Lib.hid (two_lit W a b)
  rw [hWz] at HLT
  clear hWz
  have HBA := Lib.hid ((Below.refl W.heap.size W).alloc (Nat.le_refl _) (.cells #[.int .i64 (a : Int), .int .i64 (b : Int)] 3))
  refine (there_any A (some ⟨w.heap.size + 1, 0, none⟩) c 2 n 2 N E [(a : Int), (b : Int)] _ (HR.out.below HBA.out) HN.out.symm (HLT.out) rfl (by omega)).mono ?_
  rintro e w1 ⟨rfl, hb1⟩
  rw [HT.out]
  have HB1 := Lib.hid (next_below HBA.out hb1)
  obtain ⟨j0, j1⟩ := HJ.out w1 HB1.out
  clear hb1 HBA
  go_wp2_with fail
  refine (path_any A c n N a b E w1 (HR.out.below HB1.out) HN.out.symm HG.out ha hb).mono ?_
  rintro e w2 ⟨hb2, hp⟩
  have HB2 := Lib.hid (next_below HB1.out hb2)
  clear j0 j1
  obtain ⟨j0, j1⟩ := HJ.out w2 HB2.out
  have hA0 : (0 : Int) ≤ (a : Int) := by omega
  have hA1 : (a : Int) < (N : Nat) := by omega
  have hNN : ((N : Int) == (N : Int)) = true := by simp
  rcases hp with ⟨hneg, rfl⟩ | ⟨D, g, o, l, hgD, hl, hll, hDN, hown, rfl⟩
  · have HNEG := Lib.hid hneg
    clear hneg hb2
    go_wp2_with fail
    refine (away_any A c n N b E w2 (HR.out.below HB2.out) HN.out.symm HG.out hb).mono ?_
    rintro e w3 ⟨B2, cs, rfl, o2, ⟨hD2, _⟩, _, hb3⟩
    have HB3 := Lib.hid (next_below HB2.out hb3)
    have c1 := o2.at_ (v := a) (by rw [hD2.len]; exact ha)
    have hneg := HNEG.out
    rw [distOf_eq hD2] at hneg
    generalize gd cs a = dv at c1 hneg
    have d1 : decide (dv < 0) = true := by simpa using hneg
    clear hneg hD2 o2 hb3 j0 j1 HNEG
    obtain ⟨j0, j1⟩ := HJ.out w3 HB3.out
    go_wp2_with fail
    refine (awake_any w3).mono ?_
    rintro e w4 ⟨rfl, hb4⟩
    go_wp2_with fail
    go_ret
    exact ⟨rfl, HB.out.trans ((next_below HB3.out hb4).mono (Nat.le_of_lt hWS))⟩
  · have HGD := Lib.hid hgD
    have HL := Lib.hid hl
    have HO2 := Lib.hid (hown.rd)
    clear hgD hl hown hb2
    rw [hll]
    go_wp2_with fail
    refine (away_any A c n N b E w2 (HR.out.below HB2.out) HN.out.symm HG.out hb).mono ?_
    rintro e w3 ⟨B2, cs, rfl, o2, ⟨hD2, hD2l⟩, _, hb3⟩
    have HB3 := Lib.hid (next_below HB2.out hb3)
    have hde := distOf_eq hD2
    have hgD := HGD.out
    have hl := HL.out
    rw [hde] at hgD hl
    have HD := Lib.hid hD2
    have HDL := Lib.hid hD2l
    have HGA := Lib.hid hgD
    obtain ⟨pt, hpt⟩ : ∃ pt : Nat → Nat, pt = fun i => (prunP (tabG N E) cs a i).2 := ⟨_, rfl⟩
    have HPT := Lib.hid hpt
    have hl1 : l = (prunP (tabG N E) cs a D).1 := congrArg Prod.fst hl
    have HPD : Hid (pt D = b) := by show _ = _; rw [hpt]; exact (congrArg Prod.snd hl).symm
    have HP0 : Hid (pt 0 = a) := by show _ = _; rw [hpt]; rfl
    have HPC : Hid (∀ w', Below w3.heap.size w3 w' → ∀ i, i ≤ D → w'.cell? ⟨g, i, none⟩ = some (.int .i64 (pt i : Nat))) := by
      intro w' hb i hi
      have h1 := (prunP_at (tabG N E) cs a D i hi).1
      rw [← hl1] at h1
      obtain ⟨ad, e, _, hc⟩ := ((HO2.out.below hb3).below hb) i (pt i : Nat) (by rw [List.getElem?_map, h1, hpt]; rfl)
      injection e with e
      subst e
      rw [add_off] at hc
      exact hc
    have HPS : Hid (∀ i, i ≤ D → pt i < N ∧ gd cs (pt i) = (D : Int) - i) := fun i hi => by rw [hpt]; exact path_step HG.out hD2 ha hgD i hi
    have HCS : Hid (∀ w', Below w3.heap.size w3 w' → ∀ v, v < N → w'.cell? ⟨B2, v, none⟩ = some (.int .i64 (gd cs v))) := fun w' hb v hv => (o2.below hb).at_ (by rw [hD2.len]; exact hv)
    have c1 := HCS.out w3 (Below.refl _ _) a ha
    have c2 := HPC.out w3 (Below.refl _ _) 0 (by omega)
    have c3 := HPC.out w3 (Below.refl _ _) D (Nat.le_refl _)
    rw [HGA.out] at c1
    rw [HP0.out] at c2
    rw [HPD.out] at c3
    clear hl1 hl hgD hde hpt hD2 hD2l o2 hb3 j0 j1 HGD HL HO2
    obtain ⟨j0, j1⟩ := HJ.out w3 HB3.out
    have d1 : decide ((D : Int) < 0) = false := by simp
    have hD0 : (0 : Int) ≤ (D : Int) := by omega
    have hD1 : (D : Int) < ((D + 1 : Nat) : Int) := by omega
    have hw1 : IntKind.i64.wrap ((D : Int) + 1) = (D : Int) + 1 := IntWalk.i64_in _ (by omega)
    have hc1 : (((D + 1 : Nat) : Int) == (D : Int) + 1) = true := by simp
    have hc2 : ((a : Int) == (a : Int)) = true := by simp
    have hc3 : ((b : Int) == (b : Int)) = true := by simp
    have hw2 : IntKind.i64.wrap (((D + 1 : Nat) : Int) - 1) = (D : Int) := by rw [show ((D + 1 : Nat) : Int) - 1 = D by omega]; exact IntWalk.i64_in _ (by omega)
    go_upto_region 9 with fail
    go_wp2_with fail
    clear c1 c2 c3 j0 j1 hc1 hc2 hc3 hw1 hw2 hD1 d1
    go_loopw [11] (fun s wr => ∃ k : Nat, k ≤ D ∧ s = .int .i64 ((k : Int) + 1) ∧ Hid (Below w3.heap.size w3 wr)) (fun s _ => D + 1 - (intOf s).toNat)
    case atStart => exact ⟨0, Nat.zero_le _, by go_num, Lib.hid (Below.refl _ _)⟩
    case round =>
      obtain ⟨k, hk, rfl, hbel⟩ := hrel
      have HALL : Hid (∀ w', Below w3.heap.size w3 w' → w'.cell? ⟨w.heap.size, 0, none⟩ = some (.int .i64 (N : Nat)) ∧ w'.cell? ⟨w.heap.size, 1, none⟩ = some (.slice A n c)) := fun w' hb => HJ.out w' (next_below HB3.out hb)
      by_cases h1 : k < D
      · have t1 : decide ((k : Int) + 1 < ((D + 1 : Nat) : Int)) = true := by simp; omega
        obtain ⟨hx1, hx2⟩ := HPS.out k (by omega)
        obtain ⟨hy1, hy2⟩ := HPS.out (k + 1) (by omega)
        have hS0 : ∀ w', Below w3.heap.size w3 w' → w'.cell? ⟨w.heap.size, 0, none⟩ = some (.int .i64 (N : Nat)) ∧ w'.cell? ⟨w.heap.size, 1, none⟩ = some (.slice A n c) ∧ w'.cell? ⟨g, k, none⟩ = some (.int .i64 (pt k : Nat)) ∧ w'.cell? ⟨g, k + 1, none⟩ = some (.int .i64 (pt (k + 1) : Nat)) ∧ w'.cell? ⟨B2, pt k, none⟩ = some (.int .i64 (gd cs (pt k))) ∧ w'.cell? ⟨B2, pt (k + 1), none⟩ = some (.int .i64 (gd cs (pt (k + 1)))) ∧ Below w3.heap.size w3 w' := fun w' hb =>
          ⟨(HALL.out w' hb).1, (HALL.out w' hb).2, HPC.out w' hb k (by omega), HPC.out w' hb (k + 1) (by omega), HCS.out w' hb _ hx1, HCS.out w' hb _ hy1, hb⟩
        have hstep : pt (k + 1) = pnext (tabG N E) cs (pt k) := by rw [HPT.out]; rfl
        obtain ⟨hadj, hleast⟩ := path_least HG.out HD.out hx1 (by omega)
        rw [← hstep] at hadj hleast
        have HLE := Lib.hid hleast
        have hhas := (hasG_adj HG.out hx1 hy1).2 hadj
        have HHAS : Hid (∀ w', Below w3.heap.size w3 w' → Calls Try.prog 24 #[.agg #[.int .i64 (N : Nat), .slice A n c], .int .i64 (pt k : Nat), .int .i64 (pt (k + 1) : Nat)] w' fun e w'' => e = .returned (.bool true) ∧ Below w'.heap.size w' w'') := fun w' hb => by
          have h := has_any A c n N E (pt k) (pt (k + 1)) w' ((HR.out.below HB3.out).below hb) HN.out.symm HG.out
          rw [hhas] at h
          exact h
        clear hstep hadj hleast hhas
        obtain ⟨x, hx⟩ : ∃ x, pt k = x := ⟨_, rfl⟩
        obtain ⟨y, hy⟩ : ∃ y, pt (k + 1) = y := ⟨_, rfl⟩
        rw [hx, hy] at hS0 HHAS HLE
        rw [hx] at hx1 hx2
        rw [hy] at hy1 hy2
        obtain ⟨dx, hdx⟩ : ∃ dx, gd cs x = dx := ⟨_, rfl⟩
        obtain ⟨dy, hdy⟩ : ∃ dy, gd cs y = dy := ⟨_, rfl⟩
        rw [hdx, hdy] at hS0
        rw [hdx] at hx2
        rw [hdy] at hy2
        have HS0 := Lib.hid hS0
        have hD' := hS0 wr.drew (below_drewN hbel.out 1)
        have hk0 : (0 : Int) ≤ (k : Int) := by omega
        have hk1 : (k : Int) < ((D + 1 : Nat) : Int) := by omega
        have hk2 : (k : Int) + 1 < ((D + 1 : Nat) : Int) := by omega
        have hk4 : (k : Int) < (D : Int) + 1 := by omega
        have hk5 : (k : Int) < (D : Int) := by omega
        have hk6 : (k : Int) + 1 < (D : Int) + 1 := by omega
        have hk3 : (0 : Int) ≤ (k : Int) + 1 := by omega
        have hw3 : IntKind.i64.wrap ((k : Int) + 1 - 1) = (k : Int) := by rw [show (k : Int) + 1 - 1 = k by omega]; exact IntWalk.i64_in _ (by omega)
        have hw5 : IntKind.i64.wrap (k : Int) = (k : Int) := IntWalk.i64_in _ (by omega)
        have hw4 : IntKind.i64.wrap (dx - 1) = dy := by rw [show dx - 1 = dy by omega]; exact IntWalk.i64_in _ (by omega)
        have htn : ((k : Int) + 1).toNat = k + 1 := by omega
        have hx3 : (x : Int) < (N : Nat) := by omega
        have hy3 : (y : Int) < (N : Nat) := by omega
        have hx0 : (0 : Int) ≤ (x : Int) := by omega
        have hy0 : (0 : Int) ≤ (y : Int) := by omega
        have hdd : (dy == dy) = true := by simp
        have HDX := Lib.hid hdx
        have HX2 := Lib.hid hx2
        have HY2 := Lib.hid hy2
        have hd0 : (dy != dy) = false := by simp
        clear hS0 hx hy hdx hdy hx2 hy2
        go_upto_region 14 with fail
        go_region_held3 (fun w' => w'.cell? ⟨w.heap.size, 0, none⟩ = some (.int .i64 (N : Nat)) ∧ w'.cell? ⟨w.heap.size, 1, none⟩ = some (.slice A n c) ∧ w'.cell? ⟨g, k, none⟩ = some (.int .i64 (x : Nat)) ∧ w'.cell? ⟨g, k + 1, none⟩ = some (.int .i64 (y : Nat)) ∧ w'.cell? ⟨B2, x, none⟩ = some (.int .i64 dx) ∧ w'.cell? ⟨B2, y, none⟩ = some (.int .i64 dy) ∧ Below w3.heap.size w3 w')
          (first | exact hS | exact hD')
          (first | (go_at_call 24; refine (HHAS.out _ (‹_ ∧ _ ∧ _ ∧ _ ∧ _ ∧ _ ∧ Below w3.heap.size w3 _›).2.2.2.2.2.2).mono ?_; rintro e wn ⟨rfl, hb⟩; have hS := HS0.out wn (next_below (‹_ ∧ _ ∧ _ ∧ _ ∧ _ ∧ _ ∧ Below w3.heap.size w3 _›).2.2.2.2.2.2 hb)))

        have hS2 := Lib.hid hS.2.2.2.2.2.2
        go_wp2_with fail
        clear hS hD' hw4 hdd
        obtain ⟨wq, rfl⟩ : ∃ wq, wq = wr := ⟨_, rfl⟩
        go_loopw [130] (fun s wn => ∃ v : Nat, v ≤ y ∧ s = .int .i64 v ∧ Hid (Below w3.heap.size w3 wn)) (fun s _ => y - (intOf s).toNat)
        case atStart => exact ⟨0, Nat.zero_le _, rfl, hS2⟩
        case round =>
          obtain ⟨v, hv, rfl, hb5⟩ := hrel
          by_cases h2 : v < y
          · have t2 : decide ((v : Int) < (y : Int)) = true := by simp; omega
            have hvN : v < N := by omega
            have hv0 : (0 : Int) ≤ (v : Int) := by omega
            have hv1 : (v : Int) < (N : Nat) := by omega
            have hS0 : ∀ w', Below w3.heap.size w3 w' → w'.cell? ⟨w.heap.size, 0, none⟩ = some (.int .i64 (N : Nat)) ∧ w'.cell? ⟨w.heap.size, 1, none⟩ = some (.slice A n c) ∧ w'.cell? ⟨g, k, none⟩ = some (.int .i64 (x : Nat)) ∧ w'.cell? ⟨g, k + 1, none⟩ = some (.int .i64 (y : Nat)) ∧ w'.cell? ⟨B2, v, none⟩ = some (.int .i64 (gd cs v)) ∧ w'.cell? ⟨B2, y, none⟩ = some (.int .i64 dy) ∧ Below w3.heap.size w3 w' := fun w' hb =>
              ⟨(HS0.out w' hb).1, (HS0.out w' hb).2.1, (HS0.out w' hb).2.2.1, (HS0.out w' hb).2.2.2.1, HCS.out w' hb _ hvN, (HS0.out w' hb).2.2.2.2.2.1, hb⟩
            have HHV : Hid (∀ w', Below w3.heap.size w3 w' → Calls Try.prog 24 #[.agg #[.int .i64 (N : Nat), .slice A n c], .int .i64 (x : Nat), .int .i64 (v : Nat)] w' fun e w'' => e = .returned (.bool (hasG E x v)) ∧ Below w'.heap.size w' w'') := fun w' hb =>
              has_any A c n N E x v w' ((HR.out.below HB3.out).below hb) HN.out.symm HG.out
            have hno : hasG E x v = true → gd cs v ≠ dy := fun hh => by
              have := HLE.out v h2 ((hasG_adj HG.out hx1 hvN).1 hh)
              rw [HDX.out] at this
              have e1 := HX2.out
              have e2 := HY2.out
              omega
            obtain ⟨dv, hdv⟩ : ∃ dv, gd cs v = dv := ⟨_, rfl⟩
            rw [hdv] at hS0 hno
            have HS1 := Lib.hid hS0
            have hD2 := hS0 wr.drew (below_drewN hb5.out 1)
            clear hS0 hdv
            cases hh : hasG E x v with
            | false =>
              rw [hh] at HHV
              clear hno hh
              go_wp2_with fail
              refine wp_region_held_drew (S := fun w' => w'.cell? ⟨w.heap.size, 0, none⟩ = some (.int .i64 (N : Nat)) ∧ w'.cell? ⟨w.heap.size, 1, none⟩ = some (.slice A n c) ∧ w'.cell? ⟨g, k, none⟩ = some (.int .i64 (x : Nat)) ∧ w'.cell? ⟨g, k + 1, none⟩ = some (.int .i64 (y : Nat)) ∧ w'.cell? ⟨B2, v, none⟩ = some (.int .i64 dv) ∧ w'.cell? ⟨B2, y, none⟩ = some (.int .i64 dy) ∧ Below w3.heap.size w3 w') (by kernel_rfl) hD2 (fun hS => ?_)
              refine wpAnyH_take (i := 0) (v := ?_) rfl (by kernel_rfl) (by kernel_rfl) (by kernel_rfl) (fun _ _ _ h => h) (Or.inl ⟨by rfl, ?_⟩) hS ?_
              rotate_left
              · intro wz hSw; (try dsimp only at hSw); go_simp; (try with_reducible rfl)
              try simp only [List.getElem_toArray, List.getElem_cons_zero, List.getElem_cons_succ, Act.put, List.setIfInBounds_toArray, List.set_cons_zero, List.set_cons_succ]
              refine wpAnyH_take (i := 1) (v := ?_) rfl (by kernel_rfl) (by kernel_rfl) (by kernel_rfl) (fun _ _ _ h => h) (Or.inl ⟨by rfl, ?_⟩) hS ?_
              rotate_left
              · intro wz hSw; (try dsimp only at hSw); go_simp; (try with_reducible rfl)
              try simp only [List.getElem_toArray, List.getElem_cons_zero, List.getElem_cons_succ, Act.put, List.setIfInBounds_toArray, List.set_cons_zero, List.set_cons_succ]
              refine wpAnyH_take (i := 2) (v := ?_) rfl (by kernel_rfl) (by kernel_rfl) (by kernel_rfl) (fun _ _ _ h => h) (Or.inl ⟨by rfl, ?_⟩) hS ?_
              rotate_left
              · intro wz hSw; (try dsimp only at hSw); go_simp; (try with_reducible rfl)
              try simp only [List.getElem_toArray, List.getElem_cons_zero, List.getElem_cons_succ, Act.put, List.setIfInBounds_toArray, List.set_cons_zero, List.set_cons_succ]
              refine wpAnyH_take (i := 3) (v := ?_) rfl (by kernel_rfl) (by kernel_rfl) (by kernel_rfl) (fun _ _ _ h => h) (Or.inl ⟨by rfl, ?_⟩) hS ?_
              rotate_left
              · intro wz hSw; (try dsimp only at hSw); go_simp; (try with_reducible rfl)
              try simp only [List.getElem_toArray, List.getElem_cons_zero, List.getElem_cons_succ, Act.put, List.setIfInBounds_toArray, List.set_cons_zero, List.set_cons_succ]
              refine wpAnyH_take (i := 4) (v := ?_) rfl (by kernel_rfl) (by kernel_rfl) (by kernel_rfl) (fun _ _ _ h => h) (Or.inl ⟨by rfl, ?_⟩) hS ?_
              rotate_left
              · intro wz hSw; (try dsimp only at hSw); go_simp; (try with_reducible rfl)
              try simp only [List.getElem_toArray, List.getElem_cons_zero, List.getElem_cons_succ, Act.put, List.setIfInBounds_toArray, List.set_cons_zero, List.set_cons_succ]
              refine wpAnyH_take (i := 5) (v := ?_) rfl (by kernel_rfl) (by kernel_rfl) (by kernel_rfl) (fun _ _ _ h => h) (Or.inl ⟨by rfl, ?_⟩) hS ?_
              rotate_left
              · intro wz hSw; (try dsimp only at hSw); go_simp; (try with_reducible rfl)
              try simp only [List.getElem_toArray, List.getElem_cons_zero, List.getElem_cons_succ, Act.put, List.setIfInBounds_toArray, List.set_cons_zero, List.set_cons_succ]
              refine wpAnyH_take (i := 6) (v := ?_) rfl (by kernel_rfl) (by kernel_rfl) (by kernel_rfl) (fun _ _ _ h => h) (Or.inl ⟨by rfl, ?_⟩) hS ?_
              rotate_left
              · intro wz hSw; (try dsimp only at hSw); go_simp; (try with_reducible rfl)
              try simp only [List.getElem_toArray, List.getElem_cons_zero, List.getElem_cons_succ, Act.put, List.setIfInBounds_toArray, List.set_cons_zero, List.set_cons_succ]
              refine wpAnyH_ready (rs := [7]) (by kernel_rfl) (by simp) (AllReadyH.cons rfl (fun K hK => ?_) AllReadyH.nil)
              go_simp
              go_at_call 24
              refine (HHV.out _ hS.2.2.2.2.2.2).mono ?_
              rintro e wn ⟨rfl, hb⟩
              go_wp2_with fail
              have hS := HS1.out wn (next_below hS.2.2.2.2.2.2 hb)
              refine hK.out _ _ hS (fun _ => ?_)
              clear hK K
              try simp only [List.getElem_toArray, List.getElem_cons_zero, List.getElem_cons_succ, Act.put, List.setIfInBounds_toArray, List.set_cons_zero, List.set_cons_succ]
              refine wpAnyH_take (i := 8) (v := ?_) rfl (by kernel_rfl) (by kernel_rfl) (by kernel_rfl) (fun _ _ _ h => h) (Or.inl ⟨by rfl, ?_⟩) hS ?_
              rotate_left
              · intro wz hSw; (try dsimp only at hSw); go_simp; (try with_reducible rfl)
              try simp only [List.getElem_toArray, List.getElem_cons_zero, List.getElem_cons_succ, Act.put, List.setIfInBounds_toArray, List.set_cons_zero, List.set_cons_succ]
              refine wpAnyH_take (i := 9) (v := undef) rfl (by kernel_rfl) (by kernel_rfl) (by kernel_rfl) (fun _ _ _ h => h) (Or.inr ⟨by rfl, rfl⟩) hS ?_
              try simp only [List.getElem_toArray, List.getElem_cons_zero, List.getElem_cons_succ, Act.put, List.setIfInBounds_toArray, List.set_cons_zero, List.set_cons_succ]
              refine wpAnyH_take (i := 10) (v := undef) rfl (by kernel_rfl) (by kernel_rfl) (by kernel_rfl) (fun _ _ _ h => h) (Or.inr ⟨by rfl, rfl⟩) hS ?_
              try simp only [List.getElem_toArray, List.getElem_cons_zero, List.getElem_cons_succ, Act.put, List.setIfInBounds_toArray, List.set_cons_zero, List.set_cons_succ]
              refine wpAnyH_take (i := 11) (v := undef) rfl (by kernel_rfl) (by kernel_rfl) (by kernel_rfl) (fun _ _ _ h => h) (Or.inr ⟨by rfl, rfl⟩) hS ?_
              try simp only [List.getElem_toArray, List.getElem_cons_zero, List.getElem_cons_succ, Act.put, List.setIfInBounds_toArray, List.set_cons_zero, List.set_cons_succ]
              refine wpAnyH_take (i := 12) (v := undef) rfl (by kernel_rfl) (by kernel_rfl) (by kernel_rfl) (fun _ _ _ h => h) (Or.inr ⟨by rfl, rfl⟩) hS ?_
              try simp only [List.getElem_toArray, List.getElem_cons_zero, List.getElem_cons_succ, Act.put, List.setIfInBounds_toArray, List.set_cons_zero, List.set_cons_succ]
              refine wpAnyH_take (i := 13) (v := undef) rfl (by kernel_rfl) (by kernel_rfl) (by kernel_rfl) (fun _ _ _ h => h) (Or.inr ⟨by rfl, rfl⟩) hS ?_
              try simp only [List.getElem_toArray, List.getElem_cons_zero, List.getElem_cons_succ, Act.put, List.setIfInBounds_toArray, List.set_cons_zero, List.set_cons_succ]
              refine wpAnyH_take (i := 14) (v := undef) rfl (by kernel_rfl) (by kernel_rfl) (by kernel_rfl) (fun _ _ _ h => h) (Or.inr ⟨by rfl, rfl⟩) hS ?_
              try simp only [List.getElem_toArray, List.getElem_cons_zero, List.getElem_cons_succ, Act.put, List.setIfInBounds_toArray, List.set_cons_zero, List.set_cons_succ]
              refine wpAnyH_take (i := 15) (v := undef) rfl (by kernel_rfl) (by kernel_rfl) (by kernel_rfl) (fun _ _ _ h => h) (Or.inr ⟨by rfl, rfl⟩) hS ?_
              try simp only [List.getElem_toArray, List.getElem_cons_zero, List.getElem_cons_succ, Act.put, List.setIfInBounds_toArray, List.set_cons_zero, List.set_cons_succ]
              refine wpAnyH_take (i := 16) (v := undef) rfl (by kernel_rfl) (by kernel_rfl) (by kernel_rfl) (fun _ _ _ h => h) (Or.inr ⟨by rfl, rfl⟩) hS ?_
              try simp only [List.getElem_toArray, List.getElem_cons_zero, List.getElem_cons_succ, Act.put, List.setIfInBounds_toArray, List.set_cons_zero, List.set_cons_succ]
              refine wpAnyH_take (i := 17) (v := undef) rfl (by kernel_rfl) (by kernel_rfl) (by kernel_rfl) (fun _ _ _ h => h) (Or.inr ⟨by rfl, rfl⟩) hS ?_
              try simp only [List.getElem_toArray, List.getElem_cons_zero, List.getElem_cons_succ, Act.put, List.setIfInBounds_toArray, List.set_cons_zero, List.set_cons_succ]
              refine wpAnyH_take (i := 18) (v := undef) rfl (by kernel_rfl) (by kernel_rfl) (by kernel_rfl) (fun _ _ _ h => h) (Or.inr ⟨by rfl, rfl⟩) hS ?_
              try simp only [List.getElem_toArray, List.getElem_cons_zero, List.getElem_cons_succ, Act.put, List.setIfInBounds_toArray, List.set_cons_zero, List.set_cons_succ]
              refine wpAnyH_take (i := 19) (v := undef) rfl (by kernel_rfl) (by kernel_rfl) (by kernel_rfl) (fun _ _ _ h => h) (Or.inr ⟨by rfl, rfl⟩) hS ?_
              try simp only [List.getElem_toArray, List.getElem_cons_zero, List.getElem_cons_succ, Act.put, List.setIfInBounds_toArray, List.set_cons_zero, List.set_cons_succ]
              refine wpAnyH_take (i := 20) (v := undef) rfl (by kernel_rfl) (by kernel_rfl) (by kernel_rfl) (fun _ _ _ h => h) (Or.inr ⟨by rfl, rfl⟩) hS ?_
              try simp only [List.getElem_toArray, List.getElem_cons_zero, List.getElem_cons_succ, Act.put, List.setIfInBounds_toArray, List.set_cons_zero, List.set_cons_succ]
              refine wpAnyH_take (i := 21) (v := ?_) rfl (by kernel_rfl) (by kernel_rfl) (by kernel_rfl) (fun _ _ _ h => h) (Or.inl ⟨by rfl, ?_⟩) hS ?_
              rotate_left
              · intro wz hSw; (try dsimp only at hSw); go_simp; (try with_reducible rfl)
              try simp only [List.getElem_toArray, List.getElem_cons_zero, List.getElem_cons_succ, Act.put, List.setIfInBounds_toArray, List.set_cons_zero, List.set_cons_succ]
              refine wpAnyH_done (by kernel_rfl) ?_ _
              have hS3 := Lib.hid hS.2.2.2.2.2.2
              clear hS hD2
              go_wp2_with fail
              go_roundw
              case rel => exact ⟨v + 1, by omega, by go_num, hS3⟩
              case measure => simp [intOf]; omega
            | true =>
              rw [hh] at HHV
              have hdd : (dv == dy) = false := by simpa using hno hh
              clear hno hh
              go_wp2_with fail
              go_region_held3 (fun w' => w'.cell? ⟨w.heap.size, 0, none⟩ = some (.int .i64 (N : Nat)) ∧ w'.cell? ⟨w.heap.size, 1, none⟩ = some (.slice A n c) ∧ w'.cell? ⟨g, k, none⟩ = some (.int .i64 (x : Nat)) ∧ w'.cell? ⟨g, k + 1, none⟩ = some (.int .i64 (y : Nat)) ∧ w'.cell? ⟨B2, v, none⟩ = some (.int .i64 dv) ∧ w'.cell? ⟨B2, y, none⟩ = some (.int .i64 dy) ∧ Below w3.heap.size w3 w')
                (first | exact hS | exact hD2)
                (first | (go_at_call 24; refine (HHV.out _ (‹_ ∧ _ ∧ _ ∧ _ ∧ _ ∧ _ ∧ Below w3.heap.size w3 _›).2.2.2.2.2.2).mono ?_; rintro e wn ⟨rfl, hb⟩; have hS := HS1.out wn (next_below (‹_ ∧ _ ∧ _ ∧ _ ∧ _ ∧ _ ∧ Below w3.heap.size w3 _›).2.2.2.2.2.2 hb)))
              have hS3 := Lib.hid hS.2.2.2.2.2.2
              clear hS hD2
              go_wp2_with fail
              go_roundw
              case rel => exact ⟨v + 1, by omega, by go_num, hS3⟩
              case measure => simp [intOf]; omega
          · obtain rfl : v = y := by omega
            have t2 : decide ((v : Int) < (v : Int)) = false := by simp
            go_wp2_with fail
            go_roundw
            case rel => exact ⟨k + 1, by omega, by go_num, hb5⟩
            case measure => simp [intOf]; omega
      · obtain rfl : k = D := by omega
        have t1 : decide ((k : Int) + 1 < ((k + 1 : Nat) : Int)) = false := by simp
        go_wp2_with fail
        refine (awake_any wr).mono ?_
        rintro e w6 ⟨rfl, hb6⟩
        go_wp2_with fail
        go_ret
        exact ⟨rfl, HB.out.trans ((next_below (next_below HB3.out hbel.out) hb6).mono (Nat.le_of_lt hWS))⟩
end Go.Proofs.Ytpkiogcedfmodaa
