/- The walk of WalkAway. -/
import Derived.Test.YtpkiogcedfmodaaW17
import Derived.Test.YtpkiogcedfmodaaW19
namespace Go.Proofs.Ytpkiogcedfmodaa
open Go.RowKit

theorem thereB_yes {N : Int} {E : List (Int × Int)} {L : List Int} (h : thereB N E L = true) : (∀ v ∈ L, 0 ≤ v ∧ v < N) ∧ rightG N E = true ∧ N ≤ 60 := by
  simpa [thereB] using h
theorem two_lit (w : World) (a b : Int) : RdZ (w.alloc (.cells #[.int .i64 a, .int .i64 b] 3)) (some ⟨w.heap.size, 0, none⟩) [a, b] := lit_rd w [a, b]
theorem OwnZ.below {w w' : World} {B : Nat} {ds : List Int} (h : OwnZ w B ds) (hb : Below w.heap.size w w') : OwnZ w' B ds := blk_below h hb
theorem OwnZ.at_ {w : World} {B : Nat} {ds : List Int} (h : OwnZ w B ds) {v : Nat} (hv : v < ds.length) : w.cell? ⟨B, v, none⟩ = some (.int .i64 (gd ds v)) := by
  rw [cell_of h]
  simp [zs, zv, gd, List.getD, List.getElem?_eq_getElem hv]

set_option maxHeartbeats 4000000 in
theorem away_no (A : Option Addr) (c : Nat) (N a b : Int) (E : List (Int × Int)) (w : World) (hr : RdP w A E) (ht : thereB N E [a, b] = false) :
    Calls Try.prog 6 #[.agg #[.int .i64 N, .slice A E.length c], .int .i64 a, .int .i64 b] w fun e w' => e = .returned (.bool true) ∧ Below w.heap.size w w' := by
  obtain ⟨W, hW⟩ : ∃ W, W = w.alloc (.cells #[.int .i64 N, .slice A E.length c] 24) := ⟨_, rfl⟩
  have hb : Below w.heap.size w W := by rw [hW]; exact (Below.refl _ _).alloc (Nat.le_refl _) _
  have hWS : w.heap.size < W.heap.size := by rw [hW]; simp
  have hWz : W.heap.size = w.heap.size + 1 := by rw [hW]; simp
  obtain ⟨i0, i1, _, _⟩ := cells_two (w := W) (by rw [hW]; exact heap_alloc_new w _)
  have HR := Lib.hid (hr.below hb)
  have HB := Lib.hid hb
  have HT := Lib.hid ht
  have HW := Lib.hid hW
  clear hr hb hW ht
  go_enter Try.func6, Try.ntmps6
  go_wp2_with fail
  rw [← HW.out]
  have HLT := Lib.hid (two_lit W a b)
  rw [hWz] at HLT
  clear hWz
  have HBA := Lib.hid ((Below.refl W.heap.size W).alloc (Nat.le_refl _) (.cells #[.int .i64 a, .int .i64 b] 3))
  refine (there_any A (some ⟨w.heap.size + 1, 0, none⟩) c 2 E.length 2 N E [a, b] _ (HR.out.below HBA.out) rfl (HLT.out) rfl (by omega)).mono ?_
  rintro e w1 ⟨rfl, hb1⟩
  rw [HT.out]
  have HB1 := Lib.hid (HB.out.trans ((next_below HBA.out hb1).mono (Nat.le_of_lt hWS)))
  clear hb1 i0 i1
  go_wp2_with fail
  refine (awake_any w1).mono ?_
  rintro e w2 ⟨rfl, hb2⟩
  go_wp2_with fail
  go_ret
  exact ⟨rfl, next_below HB1.out hb2⟩

set_option maxRecDepth 100000 in
set_option maxHeartbeats 8000000 in
theorem away_yes (A : Option Addr) (c N a b : Nat) (E : List (Int × Int)) (w : World) (hr : RdP w A E) (hg : rightG (N : Nat) E = true) (hN : N ≤ 60) (ha : a < N) (hb : b < N) (ht : thereB (N : Nat) E [(a : Int), (b : Int)] = true) :
    Calls Try.prog 6 #[.agg #[.int .i64 (N : Nat), .slice A E.length c], .int .i64 (a : Nat), .int .i64 (b : Nat)] w fun e w' => e = .returned (.bool true) ∧ Below w.heap.size w w' := by
  obtain ⟨i2, hi2, hx0, hx1, hx2⟩ := info_partsI boolinfo
  have hmk : ∀ w' : World, (Instr.makeSlice 45 (.int .i64 N) (.int .i64 N)).run Try.prog w' = .ok (.slice (some ⟨w'.heap.size, 0, none⟩) N N) (w'.alloc (.cells (bs (List.replicate N false)).toArray 4)) := by
    intro w'
    have hr := run_make (P := Try.prog) w' 45 4 i2 (.bool false) Try.underlying45 hi2 hx0 .i64 .i64 N N (by omega) (by omega) (by rw [hx2]; omega) (by omega)
    rw [hx1, Nat.mul_one] at hr
    rw [hr]
    congr 3
    apply Array.ext'
    show (madeCells #[Value.bool false] N).toList = _
    rw [toList_madeCells_one]
    simp [bs]
  obtain ⟨W, hW⟩ : ∃ W, W = w.alloc (.cells #[.int .i64 (N : Nat), .slice A E.length c] 24) := ⟨_, rfl⟩
  have hbw : Below w.heap.size w W := by rw [hW]; exact (Below.refl _ _).alloc (Nat.le_refl _) _
  have hWS : w.heap.size < W.heap.size := by rw [hW]; simp
  have hWz : W.heap.size = w.heap.size + 1 := by rw [hW]; simp
  obtain ⟨i0, i1, _, _⟩ := cells_two (w := W) (by rw [hW]; exact heap_alloc_new w _)
  have HJ : Hid (∀ w', Below W.heap.size W w' → w'.cell? ⟨w.heap.size, 0, none⟩ = some (.int .i64 (N : Nat)) ∧ w'.cell? ⟨w.heap.size, 1, none⟩ = some (.slice A E.length c)) := fun w' hb =>
    ⟨by rw [hb.cell (by show w.heap.size < _; omega)]; exact i0, by rw [hb.cell (by show w.heap.size < _; omega)]; exact i1⟩
  have hEl : E.length ≤ 594 := by have := rightG_bounds hg; omega
  have HR := Lib.hid (hr.below hbw)
  have HG := Lib.hid hg
  have HB := Lib.hid hbw
  have HT := Lib.hid ht
  have HW := Lib.hid hW
  clear hr hbw hW hg ht i0 i1 hi2 hx0 hx1 hx2
  obtain ⟨n, hn⟩ : ∃ n, E.length = n := ⟨_, rfl⟩
  have HN := Lib.hid hn
  rw [hn] at HW HJ hEl ⊢
  clear hn
  go_enter Try.func6, Try.ntmps6
  go_wp2_with fail
  rw [← HW.out]
  have HLT := Lib.hid (two_lit W a b)
  rw [hWz] at HLT
  clear hWz
  have HBA := Lib.hid ((Below.refl W.heap.size W).alloc (Nat.le_refl _) (.cells #[.int .i64 (a : Int), .int .i64 (b : Int)] 3))
  refine (there_any A (some ⟨w.heap.size + 1, 0, none⟩) c 2 n 2 N E [(a : Int), (b : Int)] _ (HR.out.below HBA.out) HN.out.symm (HLT.out) rfl (by omega)).mono ?_
  rintro e w1 ⟨rfl, hb1⟩
  rw [HT.out]
  have HB1 := Lib.hid (next_below HBA.out hb1)
  obtain ⟨j0, j1⟩ := HJ.out w1 HB1.out
  clear hb1 HBA
  go_wp2_with fail
  refine (away_any A c n N a E w1 (HR.out.below HB1.out) HN.out.symm HG.out ha).mono ?_
  rintro e w2 ⟨B1, ds, rfl, o1, ⟨hD, hDl⟩, _, hb2⟩
  have HB2 := Lib.hid (next_below HB1.out hb2)
  have O1 := Lib.hid o1
  have HD := Lib.hid hD
  have HDL := Lib.hid hDl
  clear j0 j1 o1 hD hDl hb2
  obtain ⟨j0, j1⟩ := HJ.out w2 HB2.out
  go_wp2_with fail
  refine (away_any A c n N b E w2 (HR.out.below HB2.out) HN.out.symm HG.out hb).mono ?_
  rintro e w3 ⟨B2, cs, rfl, o2, ⟨hD2, _⟩, _, hb3⟩
  have HB3 := Lib.hid (next_below HB2.out hb3)
  have O3 := Lib.hid (O1.out.below hb3)
  have hcell1 := O3.out.at_ (v := b) (by rw [HD.out.len]; exact hb)
  have hcell2 := o2.at_ (v := a) (by rw [hD2.len]; exact ha)
  rw [← HD.out.both hD2 (fun u v => tabG_sym HG.out) ha hb] at hcell2
  generalize gd ds b = dab at hcell1 hcell2
  clear j0 j1 hD2 o2 hb3 O1
  obtain ⟨j0, j1⟩ := HJ.out w3 HB3.out
  have hA0 : (0 : Int) ≤ (a : Int) := by omega
  have hA1 : (a : Int) < (N : Nat) := by omega
  have hB0 : (0 : Int) ≤ (b : Int) := by omega
  have hB1 : (b : Int) < (N : Nat) := by omega
  have hNN : ((N : Int) == (N : Int)) = true := by simp
  have hdd : (dab == dab) = true := by simp
  -- TAIL
  have HQ3 : Hid (∀ q, Below W.heap.size W (w3.drewN q) ∧ OwnZ (w3.drewN q) B1 ds) := fun q => ⟨below_drewN HB3.out q, O3.out.below (below_ref q)⟩
  go_upto_region 5 with fail
  go_quiet (fail)
  rename_i nq
  have hq := HQ3.out nq
  clear HQ3 hcell1 hcell2 j0 j1 O3 HB3 HB2 HB1 hNN hdd
  generalize w3.drewN nq = w4 at hq ⊢
  obtain ⟨hB4, hO4⟩ := hq
  have HB4 := Lib.hid hB4
  have O4 := Lib.hid hO4
  clear hB4 hO4
  obtain ⟨j0, j1⟩ := HJ.out w4 HB4.out
  have HM0 : Hid ((w4.alloc (.cells (bs (List.replicate N false)).toArray 4)).heap[w4.heap.size]? = some (.cells (bs (List.replicate N false)).toArray 4 (0, 0))) := heap_alloc_new w4 _
  have HBA4 := Lib.hid ((Below.refl w4.heap.size w4).alloc (Nat.le_refl _) (.cells (bs (List.replicate N false)).toArray 4))
  obtain ⟨j2, j3⟩ := HJ.out _ (next_below HB4.out HBA4.out)
  go_wp2_with fail
  clear hmk j0 j1 j2 j3
  go_loopw [72] (fun s wr => ∃ (k : Nat) (ns : List Bool), k ≤ n ∧ s = .int .i64 k ∧ Hid (Near E ds N k ns) ∧ Hid (wr.heap[w4.heap.size]? = some (.cells (bs ns).toArray 4 (0, 0))) ∧ Hid (Below w4.heap.size w4 wr)) (fun s _ => n - (intOf s).toNat)
  case atStart => exact ⟨0, _, Nat.zero_le _, rfl, Near.start E ds N, HM0, HBA4⟩
  case round =>
    obtain ⟨k, ns, hk, rfl, hK, hM, hbel⟩ := hrel
    have hlow4 : w4.heap.size < wr.heap.size := lt_of_block hM.out
    by_cases h1 : k < n
    · have hI0 : (0 : Int) ≤ (k : Int) := by omega
      have hI1 : (k : Int) < (n : Nat) := by omega
      obtain ⟨e, he⟩ : ∃ e, E[k]? = some e := ⟨_, List.getElem?_eq_getElem (by rw [HN.out]; exact h1)⟩
      obtain ⟨b1, b2, b3⟩ := rightG_edge HG.out he
      obtain ⟨ad, rfl, hal, p1, p2⟩ := ((HR.out.below HB4.out).below hbel.out) k e he
      obtain ⟨e0, e1⟩ := e
      simp only [] at b1 b2 b3 p1 p2
      obtain ⟨p, rfl⟩ := Int.eq_ofNat_of_zero_le b1
      obtain ⟨q, rfl⟩ := Int.eq_ofNat_of_zero_le (show 0 ≤ e1 by omega)
      have hP0 : (0 : Int) ≤ (p : Int) := by omega
      have hP1 : (p : Int) < (N : Nat) := by omega
      have hQ0 : (0 : Int) ≤ (q : Int) := by omega
      have hQ1 : (q : Int) < (N : Nat) := by omega
      obtain ⟨ea, eb, _, _⟩ := edge_adj HG.out he
      have hbX : Below wr.heap.size wr (wr.alloc (.cells #[.int .i64 (p : Int), .int .i64 (q : Int)] 43)) := (Below.refl _ _).alloc (Nat.le_refl _) _
      have hEB : (wr.alloc (.cells #[.int .i64 (p : Int), .int .i64 (q : Int)] 43)).heap[wr.heap.size]? = some (.cells #[.int .i64 (p : Int), .int .i64 (q : Int)] 43 (0, 0)) := heap_alloc_new wr _
      have hMX := blk_below hM.out hbX
      have hOX := (O4.out.below hbel.out).below hbX
      have HBX := Lib.hid (next_below hbel.out hbX)
      have HE := Lib.hid he
      clear hbX b1 b2 b3 he hM
      go_upto_region 11 with fail
      generalize wr.alloc (.cells #[.int .i64 (p : Int), .int .i64 (q : Int)] 43) = X at *
      clear p1 p2
      obtain ⟨r0, r1, _, _⟩ := cells_two hEB
      have c3 := hOX.at_ (v := p) (by rw [HD.out.len]; omega)
      have c4 := hOX.at_ (v := q) (by rw [HD.out.len]; omega)
      clear hOX hEB
      have hlN : ds.length = N := HD.out.len
      by_cases hpq : gd ds q < gd ds p
      ·
        have hle : gd ds q ≤ gd ds p := by omega
        have hNX := Near.next hK.out (lo := q) (hi := p) (by omega) (.inr HE.out) hle
        have hll := HD.out.low q (by omega)
        have hlh := HD.out.low p (by omega)
        have hul := HDL.out q (by omega)
        have huh := HDL.out p (by omega)
        obtain ⟨x1, x2⟩ := HD.out.edge (p := q) (q := p) (by omega) (by omega) (by first | exact ea | exact eb) (by first | exact ea | exact eb) hle
        have HNX := Lib.hid hNX
        have hnl : ns.length = N := hK.out.1
        have c5 : X.cell? ⟨w4.heap.size, p, none⟩ = some (.bool (ns.getD p false)) := by
          rw [cell_of hMX]
          simp [bs, List.getD, List.getElem?_eq_getElem (show p < ns.length by omega)]
        have c6 : X.frozen? ⟨w4.heap.size, p, none⟩ = false := free_of hMX p
        have HY : Hid (∀ (m : Nat) (bv : Bool), ((X.drewN m).setCell ⟨w4.heap.size, p, none⟩ (.bool bv)).heap[w4.heap.size]? = some (.cells (bs (ns.set p bv)).toArray 4 (0, 0)) ∧ Below w4.heap.size w4 ((X.drewN m).setCell ⟨w4.heap.size, p, none⟩ (.bool bv))) := fun m bv =>
          ⟨by rw [Go.Joins.block_setCell (blk_below hMX (below_ref m))]; simp [bs, List.map_set], (below_drewN HBX.out m).setCell (Nat.le_refl _) _⟩
        clear hNX hMX
        obtain ⟨dl, hdl⟩ : ∃ dl, gd ds q = dl := ⟨_, rfl⟩
        obtain ⟨dh, hdh⟩ : ∃ dh, gd ds p = dh := ⟨_, rfl⟩
        obtain ⟨nb, hnb⟩ : ∃ nb, ns.getD p false = nb := ⟨_, rfl⟩
        simp only [hdl, hdh] at c3 c4 hle hll hlh hul huh x1 x2 HNX hpq
        rw [hnb] at c5 HNX
        clear hdl hdh hnb ea eb
        obtain ⟨bb, hbb⟩ : ∃ bb, (dh == dl + 1) = bb := ⟨_, rfl⟩
        rw [hbb] at HNX
        have dgt : decide (dl < dh) = true := by simp; omega
        have wr1 : IntKind.i64.wrap (dh - dl) = dh - dl := IntWalk.i64_in _ (by omega)
        have wr2 : IntKind.i64.wrap (dl + 1) = dl + 1 := IntWalk.i64_in _ (by omega)
        have dg1 : decide (1 < dh - dl) = false := by simp; omega
        go_quiet (fail)
        go_upto_region 12 with fail
        go_quiet (fail)
        by_cases hn0 : dl < 0
        · have d2 : decide (dl < 0) = true := by simpa using hn0
          have d3 : decide (0 ≤ dh) = false := by simp; omega
          go_upto_region 14 with fail
          go_quiet (fail)
          go_upto_region 16 with fail
          clear hpq hle dgt dg1 hll hlh hul huh x1 x2
          cases nb
          · go_region
            go_wp2_with fail
            go_roundw
            case rel => exact ⟨k + 1, _, by omega, by go_num, HNX, (HY.out _ _).1, (HY.out _ _).2⟩
            case measure => simp [intOf]; omega
          · go_region
            go_wp2_with fail
            go_roundw
            case rel => exact ⟨k + 1, _, by omega, by go_num, HNX, (HY.out _ _).1, (HY.out _ _).2⟩
            case measure => simp [intOf]; omega
        · have d2 : decide (dl < 0) = false := by simpa using hn0
          go_upto_region 14 with fail
          go_quiet (fail)
          go_upto_region 16 with fail
          clear hpq hle dgt dg1 hll hlh hul huh x1 x2
          cases nb
          · go_region
            go_wp2_with fail
            go_roundw
            case rel => exact ⟨k + 1, _, by omega, by go_num, HNX, (HY.out _ _).1, (HY.out _ _).2⟩
            case measure => simp [intOf]; omega
          · go_region
            go_wp2_with fail
            go_roundw
            case rel => exact ⟨k + 1, _, by omega, by go_num, HNX, (HY.out _ _).1, (HY.out _ _).2⟩
            case measure => simp [intOf]; omega
      ·
        have hle : gd ds p ≤ gd ds q := by omega
        have hNX := Near.next hK.out (lo := p) (hi := q) (by omega) (.inl HE.out) hle
        have hll := HD.out.low p (by omega)
        have hlh := HD.out.low q (by omega)
        have hul := HDL.out p (by omega)
        have huh := HDL.out q (by omega)
        obtain ⟨x1, x2⟩ := HD.out.edge (p := p) (q := q) (by omega) (by omega) (by first | exact ea | exact eb) (by first | exact ea | exact eb) hle
        have HNX := Lib.hid hNX
        have hnl : ns.length = N := hK.out.1
        have c5 : X.cell? ⟨w4.heap.size, q, none⟩ = some (.bool (ns.getD q false)) := by
          rw [cell_of hMX]
          simp [bs, List.getD, List.getElem?_eq_getElem (show q < ns.length by omega)]
        have c6 : X.frozen? ⟨w4.heap.size, q, none⟩ = false := free_of hMX q
        have HY : Hid (∀ (m : Nat) (bv : Bool), ((X.drewN m).setCell ⟨w4.heap.size, q, none⟩ (.bool bv)).heap[w4.heap.size]? = some (.cells (bs (ns.set q bv)).toArray 4 (0, 0)) ∧ Below w4.heap.size w4 ((X.drewN m).setCell ⟨w4.heap.size, q, none⟩ (.bool bv))) := fun m bv =>
          ⟨by rw [Go.Joins.block_setCell (blk_below hMX (below_ref m))]; simp [bs, List.map_set], (below_drewN HBX.out m).setCell (Nat.le_refl _) _⟩
        clear hNX hMX
        obtain ⟨dl, hdl⟩ : ∃ dl, gd ds p = dl := ⟨_, rfl⟩
        obtain ⟨dh, hdh⟩ : ∃ dh, gd ds q = dh := ⟨_, rfl⟩
        obtain ⟨nb, hnb⟩ : ∃ nb, ns.getD q false = nb := ⟨_, rfl⟩
        simp only [hdl, hdh] at c3 c4 hle hll hlh hul huh x1 x2 HNX hpq
        rw [hnb] at c5 HNX
        clear hdl hdh hnb ea eb
        obtain ⟨bb, hbb⟩ : ∃ bb, (dh == dl + 1) = bb := ⟨_, rfl⟩
        rw [hbb] at HNX
        have dgt : decide (dh < dl) = false := by simp; omega
        have wr1 : IntKind.i64.wrap (dh - dl) = dh - dl := IntWalk.i64_in _ (by omega)
        have wr2 : IntKind.i64.wrap (dl + 1) = dl + 1 := IntWalk.i64_in _ (by omega)
        have dg1 : decide (1 < dh - dl) = false := by simp; omega
        go_quiet (fail)
        go_upto_region 12 with fail
        go_quiet (fail)
        by_cases hn0 : dl < 0
        · have d2 : decide (dl < 0) = true := by simpa using hn0
          have d3 : decide (0 ≤ dh) = false := by simp; omega
          go_upto_region 14 with fail
          go_quiet (fail)
          go_upto_region 16 with fail
          clear hpq hle dgt dg1 hll hlh hul huh x1 x2
          cases nb
          · go_region
            go_wp2_with fail
            go_roundw
            case rel => exact ⟨k + 1, _, by omega, by go_num, HNX, (HY.out _ _).1, (HY.out _ _).2⟩
            case measure => simp [intOf]; omega
          · go_region
            go_wp2_with fail
            go_roundw
            case rel => exact ⟨k + 1, _, by omega, by go_num, HNX, (HY.out _ _).1, (HY.out _ _).2⟩
            case measure => simp [intOf]; omega
        · have d2 : decide (dl < 0) = false := by simpa using hn0
          go_upto_region 14 with fail
          go_quiet (fail)
          go_upto_region 16 with fail
          clear hpq hle dgt dg1 hll hlh hul huh x1 x2
          cases nb
          · go_region
            go_wp2_with fail
            go_roundw
            case rel => exact ⟨k + 1, _, by omega, by go_num, HNX, (HY.out _ _).1, (HY.out _ _).2⟩
            case measure => simp [intOf]; omega
          · go_region
            go_wp2_with fail
            go_roundw
            case rel => exact ⟨k + 1, _, by omega, by go_num, HNX, (HY.out _ _).1, (HY.out _ _).2⟩
            case measure => simp [intOf]; omega
    · obtain rfl : k = n := by omega
      have t1 : decide ((k : Int) < (k : Int)) = false := by simp
      have HK2 : Hid (∀ v, v < N → 0 < gd ds v → ns.getD v false = true) := fun v hv h0 => Near.all (by rw [HN.out]; exact hK.out) HG.out HD.out hv h0
      have hnl : ns.length = N := hK.out.1
      have OW := Lib.hid (O4.out.below hbel.out)
      clear hK
      go_wp2_with fail
      obtain ⟨wo, rfl⟩ : ∃ wo, wo = wr := ⟨_, rfl⟩
      go_loopw [137] (fun s wn => ∃ v : Nat, v ≤ N ∧ s = .int .i64 v ∧ Hid (Below wo.heap.size wo wn)) (fun s _ => N - (intOf s).toNat)
      case atStart => exact ⟨0, Nat.zero_le _, rfl, Lib.hid (Below.refl _ _)⟩
      case round =>
        obtain ⟨v, hv, rfl, hb5⟩ := hrel
        by_cases h2 : v < N
        · have hI0 : (0 : Int) ≤ (v : Int) := by omega
          have hI1 : (v : Int) < (N : Nat) := by omega
          have c7 := (OW.out.below hb5.out).at_ (v := v) (by rw [HD.out.len]; exact h2)
          have c8 : wr.cell? ⟨w4.heap.size, v, none⟩ = some (.bool (ns.getD v false)) := by
            rw [cell_of (blk_below hM.out hb5.out)]
            simp [bs, List.getD, List.getElem?_eq_getElem (show v < ns.length by omega)]
          have hlow := HD.out.low v h2
          have dm : decide (gd ds v < -1) = false := by simp; omega
          have HR5 : Hid (∃ v' : Nat, v' ≤ N ∧ Value.int .i64 ((v : Int) + 1) = .int .i64 v' ∧ Hid (Below wo.heap.size wo wr)) := ⟨v + 1, by omega, by go_num, hb5⟩
          by_cases h3 : gd ds v = 0
          · obtain rfl := HD.out.only v h2 h3
            rw [h3] at c7
            clear dm hlow
            have e1 : ((v : Int) == (v : Int)) = true := by simp
            go_wp2_with fail
            go_roundw
            case rel => exact HR5.out
            case measure => simp [intOf]; omega
          · have hva : v ≠ a := by rintro rfl; exact h3 HD.out.zero
            have g0 : (gd ds v == 0) = false := by simpa using h3
            have g1 : ((v : Int) == (a : Int)) = false := by simp; omega
            by_cases h4 : 0 < gd ds v
            · have d4 : decide (0 < gd ds v) = true := by simpa using h4
              rw [HK2.out v h2 h4] at c8
              go_wp2_with fail
              go_roundw
              case rel => exact HR5.out
              case measure => simp [intOf]; omega
            · have d4 : decide (0 < gd ds v) = false := by simpa using h4
              go_wp2_with fail
              go_roundw
              case rel => exact HR5.out
              case measure => simp [intOf]; omega
        · obtain rfl : v = N := by omega
          have t1 : decide ((v : Int) < (v : Int)) = false := by simp
          go_wp2_with fail
          refine (awake_any wr).mono ?_
          rintro e w6 ⟨rfl, hb6⟩
          go_wp2_with fail
          go_ret
          exact ⟨rfl, HB.out.trans ((next_below (next_below (next_below HB4.out hbel.out) hb5.out) hb6).mono (Nat.le_of_lt hWS))⟩
end Go.Proofs.Ytpkiogcedfmodaa
