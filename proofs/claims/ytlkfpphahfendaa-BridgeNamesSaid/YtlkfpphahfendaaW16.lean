/- The least one of the shortest ways. -/
import Derived.Test.YtlkfpphahfendaaW13
import Derived.Test.YtlkfpphahfendaaW15
namespace Go.Proofs.Ytlkfpphahfendaa
set_option maxRecDepth 100000
open Go.RowKit

theorem tabG_sym {N : Nat} {E : List (Int × Int)} (h : rightG (N : Nat) E = true) {u v : Nat} (ha : adj (tabG N E) u v) : adj (tabG N E) v u := by
  unfold adj at ha ⊢
  obtain ⟨y, e, hvN⟩ := tabG_mem h ha
  have hvN2 : v < N := by omega
  rw [tabG_getD] at ha ⊢
  rw [if_pos hvN2]
  split at ha
  · rcases bes_mem ha with h1 | h1
    · have := rightG_mem h h1
      simp only at this
      exact mem_bes (.inr ⟨h1, by omega⟩)
    · exact mem_bes (.inl h1)
  · cases ha
theorem first_in {α : Type} (p : α → Bool) : ∀ (xs : List α), (∃ x ∈ xs, p x = true) → ∃ (k : Nat) (x : α), xs[k]? = some x ∧ p x = true ∧ ∀ (j : Nat) (y : α), j < k → xs[j]? = some y → p y = false
  | [], h => by obtain ⟨x, hx, _⟩ := h; cases hx
  | a :: r, h => by
    by_cases ha : p a = true
    · exact ⟨0, a, rfl, ha, fun j y hj => absurd hj (by omega)⟩
    · obtain ⟨x, hx, hp⟩ := h
      have hxr : x ∈ r := by
        rcases List.mem_cons.1 hx with rfl | h1
        · exact absurd hp ha
        · exact h1
      obtain ⟨k, z, h1, h2, h3⟩ := first_in p r ⟨x, hxr, hp⟩
      refine ⟨k + 1, z, by simpa using h1, h2, fun j y hj hy => ?_⟩
      match j, hy with
      | 0, hy =>
        simp at hy
        subst hy
        simpa using ha
      | j + 1, hy => exact h3 j y (by omega) (by simpa using hy)
def nearB (left : List Int) (v w : Nat) : Bool := gd left w == gd left v - 1
def pnext (T : List (List Int)) (left : List Int) (v : Nat) : Nat := (((T.getD v []).map Int.toNat).find? (nearB left v)).getD 0
def prunP (T : List (List Int)) (left : List Int) (fr : Nat) : Nat → List Nat × Nat
  | 0 => ([fr], fr)
  | k + 1 => ((prunP T left fr k).1 ++ [pnext T left (prunP T left fr k).2], pnext T left (prunP T left fr k).2)
/-- There is a next one, and it is the first of its row that is nearer. -/
theorem next_is {T : List (List Int)} {N tt v : Nat} {left : List Int} (hD : Dist T N tt left) (hsym : ∀ u v, adj T u v → adj T v u) (hnat : ∀ x ∈ T.getD v [], ∃ y : Nat, x = (y : Int) ∧ y < N) (hv : v < N) (h0 : 0 < gd left v) :
    ∃ k y : Nat, (T.getD v [])[k]? = some (y : Int) ∧ y < N ∧ gd left y = gd left v - 1 ∧ (∀ j z : Nat, j < k → (T.getD v [])[j]? = some (z : Int) → gd left z ≠ gd left v - 1) ∧ pnext T left v = y := by
  obtain ⟨u, hu, ha, he⟩ := hD.from_ v hv h0
  have ha2 := hsym u v ha
  obtain ⟨k, x, h1, h2, h3⟩ := first_in (fun x : Int => nearB left v x.toNat) (T.getD v []) ⟨(u : Int), ha2, by simp [nearB, he]⟩
  obtain ⟨y, rfl, hy⟩ := hnat x (List.mem_of_getElem? h1)
  have h2' : gd left y = gd left v - 1 := by simpa [nearB] using h2
  refine ⟨k, y, h1, hy, h2', fun j z hj hz e => ?_, ?_⟩
  · have := h3 j (z : Int) hj hz
    simp [nearB, e] at this
  · have hf : ((T.getD v []).map Int.toNat).find? (nearB left v) = some y := by
      rw [List.find?_eq_some_iff_getElem]
      have hkl := (List.getElem?_eq_some_iff.1 h1).1
      have hke := (List.getElem?_eq_some_iff.1 h1).2
      refine ⟨by simpa using h2, k, by simpa using hkl, by rw [List.getElem_map, hke]; rfl, fun j hj => ?_⟩
      have := h3 j _ hj (List.getElem?_eq_getElem (by omega))
      rw [List.getElem_map]
      simpa using this
    unfold pnext
    rw [hf]
    rfl

set_option maxRecDepth 100000 in
set_option maxHeartbeats 8000000 in
theorem path_any (A : Option Addr) (c n N fr tt : Nat) (E : List (Int × Int)) (w : World) (hr : RdP w A E) (hn : n = E.length) (hg : rightG (N : Nat) E = true) (hf : fr < N) (ht : tt < N) :
    Calls Try.prog 23 #[.agg #[.int .i64 (N : Nat), .slice A n c], .int .i64 (fr : Nat), .int .i64 (tt : Nat)] w fun e w' => Below w.heap.size w w' ∧
      ((gd (distOf (tabG N E) N tt) fr < 0 ∧ e = .returned (.tuple #[.slice none 0 0, .int .i64 60])) ∨
       ∃ (D go co : Nat) (o : List Nat), gd (distOf (tabG N E) N tt) fr = (D : Int) ∧ (o, tt) = prunP (tabG N E) (distOf (tabG N E) N tt) fr D ∧ o.length = D + 1 ∧ D < N ∧ OwnL w' w.heap.size go co o ∧ e = .returned (.tuple #[.slice (some ⟨go, 0, none⟩) o.length co, .int .i64 0])) := by
  obtain ⟨i0, hi0, hz0, hz1, hz2⟩ := info_partsI i64info
  obtain ⟨W, hW⟩ : ∃ W, W = w.alloc (.cells #[.int .i64 (N : Nat), .slice A n c] 24) := ⟨_, rfl⟩
  have hb : Below w.heap.size w W := by rw [hW]; exact (Below.refl _ _).alloc (Nat.le_refl _) _
  have hWS : w.heap.size < W.heap.size := by rw [hW]; simp
  obtain ⟨j0, j1, _, _⟩ := cells_two (w := W) (by rw [hW]; exact heap_alloc_new w _)
  have HR := Lib.hid (hr.below hb)
  have HN := Lib.hid hn
  have HG := Lib.hid hg
  have HB := Lib.hid hb
  have HW := Lib.hid hW
  have hN200 : N ≤ 200 := by have := rightG_bounds hg; omega
  obtain ⟨T, hT⟩ : ∃ T, T = tabG N E := ⟨_, rfl⟩
  have HTO : Hid (OkT N T) := by show OkT N T; rw [hT]; exact tabG_okT hg
  have HTM : Hid (∀ (u : Nat) (x : Int), x ∈ T.getD u [] → ∃ v : Nat, x = (v : Int) ∧ v < N) := fun u x hx => by rw [hT] at hx; exact tabG_mem hg hx
  have HTR : Hid (∀ u, (T.getD u []).length ≤ 1000) := fun u => by rw [hT]; exact tabG_row hg u
  have HTS : Hid (∀ u v, adj T u v → adj T v u) := fun u v h => by rw [hT] at h ⊢; exact tabG_sym hg h
  rw [← hT]
  have HTT := Lib.hid hT
  have hF0 : (0 : Int) ≤ (fr : Int) := by omega
  have hF1 : (fr : Int) < (N : Nat) := by omega
  clear hr hn hg hb hW hT
  go_enter Try.func23, Try.ntmps23
  go_wp2_with fail
  rw [← HW.out]
  refine (refused_ok A c n N fr E W HR.out HN.out HG.out hf).mono ?_
  rintro e w0 ⟨rfl, hb0⟩
  have c0 : w0.cell? ⟨w.heap.size, 0, none⟩ = some (.int .i64 (N : Nat)) := by rw [hb0.cell (by exact hWS)]; exact j0
  have c1 : w0.cell? ⟨w.heap.size, 1, none⟩ = some (.slice A n c) := by rw [hb0.cell (by exact hWS)]; exact j1
  have hs0 : w.heap.size < w0.heap.size := Nat.lt_of_lt_of_le hWS hb0.size
  have HB0 := Lib.hid (HB.out.trans (hb0.mono (Nat.le_of_lt hWS)))
  have HR0 := Lib.hid (HR.out.below hb0)
  clear j0 j1 hb0 HR
  go_wp2_with fail
  refine (refused_ok A c n N tt E w0 HR0.out HN.out HG.out ht).mono ?_
  rintro e w1 ⟨rfl, hb1⟩
  have d0 : w1.cell? ⟨w.heap.size, 0, none⟩ = some (.int .i64 (N : Nat)) := by rw [hb1.cell (by exact hs0)]; exact c0
  have d1 : w1.cell? ⟨w.heap.size, 1, none⟩ = some (.slice A n c) := by rw [hb1.cell (by exact hs0)]; exact c1
  have hs1 : w.heap.size < w1.heap.size := Nat.lt_of_lt_of_le hs0 hb1.size
  have HB1 := Lib.hid (HB0.out.trans (hb1.mono (Nat.le_of_lt hs0)))
  have HR1 := Lib.hid (HR0.out.below hb1)
  clear c0 c1 hb1 HR0
  go_wp2_with fail
  refine (beside_any A c n N E w1 HR1.out HN.out HG.out).mono ?_
  rintro e w2 ⟨B0, us0, rfl, hrows, hB0, hb2⟩
  rw [← HTT.out] at hrows
  have HB2 := Lib.hid (HB1.out.trans (hb2.mono (Nat.le_of_lt hs1)))
  have hs2 : w.heap.size < w2.heap.size := Nat.lt_of_lt_of_le hs1 hb2.size
  have HRR := Lib.hid hrows.rd
  clear hrows hb2 d0 d1 HR1 HN HG
  go_wp2_with fail
  refine (steps_any _ N N tt T w2 HRR.out HTO.out (fun u x hx => by obtain ⟨y, e, _⟩ := HTM.out u x hx; exact ⟨y, e⟩) HTR.out ht (by omega)).mono ?_
  rintro e w3 ⟨Bl, left, rfl, hBl, ⟨hD, hhi⟩, hBl2, hb3⟩
  have hde := distOf_eq hD
  have HDE := Lib.hid hde
  have HD := Lib.hid hD
  have HHI := Lib.hid hhi
  have hlen := hD.len
  have hBs : Bl < w3.heap.size := lt_of_block hBl
  have HB3 := Lib.hid (HB2.out.trans (hb3.mono (Nat.le_of_lt hs2)))
  have HRR3 := Lib.hid (HRR.out.below hb3)
  have hs3 : w.heap.size < w3.heap.size := Nat.lt_of_lt_of_le hs2 hb3.size
  obtain ⟨W5, hW5⟩ : ∃ W5, W5 = w3.alloc (.cells #[.slice (some ⟨Bl, 0, none⟩) N N] 41) := ⟨_, rfl⟩
  have hW5z : W5.heap.size = w3.heap.size + 1 := by rw [hW5]; simp
  have hb5 : Below w3.heap.size w3 W5 := by rw [hW5]; exact (Below.refl _ _).alloc (Nat.le_refl _) _
  have l0 : W5.cell? ⟨w3.heap.size, 0, none⟩ = some (.slice (some ⟨Bl, 0, none⟩) N N) := by rw [hW5]; simp
  have hBl5 : OwnZ W5 Bl left := blk_below hBl hb5
  have l1 : W5.cell? ⟨Bl, fr, none⟩ = some (.int .i64 (gd left fr)) := by
    rw [cell_of hBl5]
    simp [zs, zv, gd, List.getD, List.getElem?_eq_getElem (show fr < left.length by omega)]
  have HB5 := Lib.hid (HB3.out.trans (hb5.mono (Nat.le_of_lt hs3)))
  have HRR5 := Lib.hid (HRR3.out.below hb5)
  have HBL := Lib.hid hBl5
  have HL0 := Lib.hid l0
  have HW5 := Lib.hid hW5
  have HWZ := Lib.hid hW5z
  clear hW5z hde hD hhi hBl hb3 hBl5 hb5 hW5 HRR HRR3
  by_cases hneg : gd left fr < 0
  · have dn : decide (gd left fr < 0) = true := by simpa using hneg
    have HNEG := Lib.hid hneg
    generalize hgf : gd left fr = gf at *
    have HGF := Lib.hid hgf
    clear hgf
    go_upto_region 9 with fail
    rw [← HW5.out]
    go_wp2_with fail
    go_ret2
    refine ⟨HB5.out, .inl ⟨?_, rfl⟩⟩
    rw [HDE.out, HGF.out]
    exact HNEG.out
  · have dn : decide (gd left fr < 0) = false := by simpa using hneg
    obtain ⟨D, hDD⟩ := Int.eq_ofNat_of_zero_le (show 0 ≤ gd left fr by omega)
    have HDD := Lib.hid hDD
    have hDN : D < N := by have := HHI.out fr hf; omega
    rw [hDD] at l1 dn
    clear hneg hDD
    go_upto_region 9 with fail
    rw [← HW5.out]
    have hout := World.ownsRow_lit (base := W5.heap.size) (e := 3) (size := 1) W5 #[.int .i64 (fr : Int)] 1 (Nat.le_refl _) (by decide) rfl
    have HOUT : Hid (OwnL ((W5.alloc (.cells #[.int .i64 (fr : Int)] 3)).alloc (.cells #[.int .i64 (fr : Int)] 3)) W5.heap.size W5.heap.size 1 [fr]) := hout.alloc _
    have HPV : Hid (((W5.alloc (.cells #[.int .i64 (fr : Int)] 3)).alloc (.cells #[.int .i64 (fr : Int)] 3)).heap[W5.heap.size + 1]? = some (.cells #[.int .i64 (fr : Int)] 3 (0, 0))) := two_second W5 _ _
    have HBW : Hid (Below W5.heap.size W5 ((W5.alloc (.cells #[.int .i64 (fr : Int)] 3)).alloc (.cells #[.int .i64 (fr : Int)] 3))) := ((Below.refl _ _).alloc (Nat.le_refl _) _).alloc (by simp) _
    clear hout
    go_wp2_with fail
    clear l0 l1
    go_loopw [12, 13] (fun s12 s13 wr => ∃ (k : Nat) (o : List Nat) (v go co pv : Nat), s12 = .slice (some ⟨go, 0, none⟩) (k + 1) co ∧ s13 = .pointer (some ⟨pv, 0, none⟩) ∧ W5.heap.size ≤ pv ∧ go ≠ pv ∧ Hid (o.length = k + 1) ∧ Hid (wr.heap[pv]? = some (.cells #[.int .i64 (v : Int)] 3 (0, 0))) ∧
      Hid (OwnL wr W5.heap.size go co o) ∧ Hid ((o, v) = prunP T left fr k) ∧ v < N ∧ Hid (gd left v = (D : Int) - k ∧ 0 ≤ gd left v) ∧ k ≤ D ∧ Hid (Below W5.heap.size W5 wr)) (fun s12 _ _ => 2000 - lenV s12)
    case atStart => exact ⟨0, [fr], fr, W5.heap.size, 1, W5.heap.size + 1, rfl, rfl, by omega, by omega, rfl, HPV, HOUT, rfl, hf, ⟨by rw [HDD.out]; omega, by rw [HDD.out]; omega⟩, by omega, HBW⟩
    case round =>
      obtain ⟨k, o, v, go, co, pv, rfl, rfl, hpv, hgp, hol, hv, ho, hpr, hvN, hgd, hkD, hb⟩ := hrel
      have hpl : pv < wr.heap.size := lt_of_block hv.out
      have g0 : wr.cell? ⟨pv, 0, none⟩ = some (.int .i64 (v : Int)) := by rw [cell_of hv.out]; rfl
      by_cases hvt : v = tt
      · subst hvt
        have dq : ((v : Int) == (v : Int)) = true := by simp
        go_wp2_with fail
        go_ret2
        have hz := HD.out.zero
        have hg1 := hgd.out.1
        have hkk : k = D := by omega
        subst hkk
        refine ⟨HB5.out.trans (hb.out.mono HB5.out.size), .inr ⟨k, go, co, o, ?_, ?_, hol.out, hDN, ?_, ?_⟩⟩
        · rw [HDE.out]; exact HDD.out
        · rw [HDE.out]; exact hpr.out
        · exact Go.Joins.ownsRow_le ho.out HB5.out.size
        · rw [hol.out]
          rfl
      · have dq : ((v : Int) == (tt : Int)) = false := by simp; omega
        have hpos : 0 < gd left v := by
          have h1 := hgd.out.2
          have h2 : gd left v ≠ 0 := fun e => hvt (HD.out.only v hvN e)
          omega
        obtain ⟨j, y, y1, y2, y3, y4, y5⟩ := next_is HD.out HTS.out (fun x hx => HTM.out v x hx) hvN hpos
        obtain ⟨xs, hxs⟩ : ∃ xs, T[v]? = some xs := ⟨_, List.getElem?_eq_getElem (by rw [HTO.out.1]; exact hvN)⟩
        have hTv : T.getD v [] = xs := by simp [List.getD, hxs]
        obtain ⟨ad, Bx, cx, hA, hadl, hadc0, hrow⟩ := HRR5.out v xs hxs
        injection hA with hA
        subst hA
        rw [add_off] at hadc0
        have hadc : wr.cell? ⟨B0, v, none⟩ = some (.slice Bx xs.length cx) := by rw [hb.out.cell (by exact hadl)]; exact hadc0
        have hxl : xs.length ≤ 1000 := by rw [← hTv]; exact HTR.out v
        rw [hTv] at y1 y4
        have hjl := (List.getElem?_eq_some_iff.1 y1).1
        have hV0 : (0 : Int) ≤ (v : Int) := by omega
        have hV1 : (v : Int) < (N : Nat) := by omega
        have hlow := HD.out.low v hvN
        have hhig := HHI.out v hvN
        have HIX := Lib.hid (index_any Bx cx xs.length N w3.heap.size pv Bl v j xs left wr (hrow.below hb.out) rfl hxl (fun x hx => HTM.out v x (by rw [hTv]; exact hx)) hvN (by omega) (by rw [hb.out.cell (by show w3.heap.size < _; have := HWZ.out; omega)]; exact HL0.out) g0 (blk_below HBL.out hb.out) hlen hlow hhig (by have := hb.out.size; have := HWZ.out; omega) hpl hjl (fun a z ha hz => y4 a z ha hz) (fun z hz => by
          rw [y1] at hz
          have : y = z := by injection hz with hz; omega
          subst this
          exact y3))
        have HY1 := Lib.hid y1
        have HY3 := Lib.hid y3
        have HY5 := Lib.hid y5
        have HROW := Lib.hid hrow
        have HPOS := Lib.hid hpos
        clear y1 y3 y4 y5 hadc0 hrow hxs hTv hpos hlow hhig
        go_wp2_with fail
        refine HIX.out.mono ?_
        rintro e w4 ⟨rfl, hb4⟩
        have g4 : w4.cell? ⟨pv, 0, none⟩ = some (.int .i64 (v : Int)) := by rw [hb4.cell (by exact hpl)]; exact g0
        have hB4 := Lib.hid (next_below hb.out hb4)
        have hwr0 : W5.heap.size ≤ wr.heap.size := hb.out.size
        have ha4 : w4.cell? ⟨B0, v, none⟩ = some (.slice Bx xs.length cx) := by rw [hb4.cell (by show B0 < _; have : B0 < W5.heap.size := hadl; omega)]; exact hadc
        obtain ⟨ad2, rfl, hal2, d0⟩ := (HROW.out.below hB4.out) j _ HY1.out
        have hJ0 : (0 : Int) ≤ (j : Int) := by omega
        have hJ1 : (j : Int) < (xs.length : Nat) := by omega
        have hf4 : w4.frozen? ⟨pv, 0, none⟩ = false := free_of (blk_below hv.out hb4) 0
        have HV4 := Lib.hid (blk_below hv.out hb4)
        have HO4 := Lib.hid (row_below ho.out hb4)
        clear hb4 g0 hadc HIX
        obtain ⟨Y, hY⟩ : ∃ Y, Y = w4.setCell ⟨pv, 0, none⟩ (.int .i64 (y : Int)) := ⟨_, rfl⟩
        have hYz : Y.heap.size = w4.heap.size := by rw [hY]; simp [World.setCell]
        have hYv : Y.heap[pv]? = some (.cells #[.int .i64 (y : Int)] 3 (0, 0)) := by
          rw [hY, Go.Joins.block_setCell HV4.out]
          simp
        have hYo : OwnL Y W5.heap.size go co o := by rw [hY]; exact row_far HO4.out (p := ⟨pv, 0, none⟩) hgp _
        have hYb : Below W5.heap.size W5 Y := by rw [hY]; exact hB4.out.setCell hpv _
        have gY : (w4.setCell ⟨pv, 0, none⟩ (.int .i64 (y : Int))).cell? ⟨pv, 0, none⟩ = some (.int .i64 (y : Int)) := by rw [← hY, cell_of hYv]; rfl
        obtain ⟨Z, hZ⟩ : ∃ Z, Z = Y.alloc (.cells #[.int .i64 (y : Int)] 3) := ⟨_, rfl⟩
        have hZz : Z.heap.size = w4.heap.size + 1 := by rw [hZ]; simp [hYz]
        have hYZ : Below Y.heap.size Y Z := by rw [hZ]; exact (Below.refl _ _).alloc (Nat.le_refl _) _
        have hZo0 : OwnL Z W5.heap.size go co o := row_below hYo hYZ
        have hZo : Z.ownsRow W5.heap.size 3 1 (.slice (some ⟨go, 0, none⟩) (k + 1) co) (k + 1) (zn o) := by
          have := hZo0
          unfold OwnL at this
          rw [hol.out] at this
          exact this
        have hZv := blk_below hYv hYZ
        have hZb := next_below hYb hYZ
        have hZn : Z.cell? ⟨w4.heap.size, 0, none⟩ = some (.int .i64 (y : Int)) := by rw [hZ]; exact World.cell?_alloc_at _ _ _ _ hYz.symm
        have HZE : Hid (Z = (w4.setCell ⟨pv, 0, none⟩ (.int .i64 (y : Int))).alloc (.cells #[.int .i64 (y : Int)] 3)) := by show _ = _; rw [hZ, hY]
        have HZO := Lib.hid hZo
        have HZN := Lib.hid hZn
        have hgl := hZo.lt go rfl
        have hpl4 : pv < w4.heap.size := lt_of_block HV4.out
        have HX7 : Hid (∀ w7 : World, Z.grownBy w7 (some go) → w7.cell? ⟨pv, 0, none⟩ = some (.int .i64 (y : Int)) ∧ Below W5.heap.size W5 w7) := by
          intro w7 hg7
          refine ⟨?_, hZb.grown hg7 (by omega) (fun m e => by injection e with e; omega)⟩
          have h1 : w7.heap[pv]? = some (.cells #[.int .i64 (y : Int)] 3 (0, 0)) := by
            rw [hg7.block pv (by omega) (by intro e; injection e with e; exact hgp e.symm)]
            exact hZv
          rw [cell_of h1]; rfl
        have hW5w4 : W5.heap.size ≤ w4.heap.size := hB4.out.size
        have hk200 : k ≤ 1000 := by omega
        clear hY hYv hYo hYb hZ hYZ hZo0 hZo hZv hZb hZn
        go_wp2_with (at_builtin; refine wpList_append_lies _ rfl (.tmp 56) (.tmp 58) 41 rfl W5.heap.size 3 i0 (.int .i64 0) 1 8 Try.underlying41 hi0 hz0 hz1 hz2 rfl (by decide) (.slice (some ⟨go, 0, none⟩) (k + 1) co) (k + 1) (zn o) rfl (by rw [← HZE.out]; exact HZO.out) ⟨w4.heap.size, 0, none⟩ 1 1 [.int .i64 (y : Int)] (by simp [Act.eval, World.setCell]) rfl (by intro a u hj; have hj0 : a = 0 := (by have := (List.getElem?_eq_some_iff.1 hj).1; simp at this; omega); subst hj0; rw [← hj, add_off, ← HZE.out]; exact HZN.out) (by simp [Value.oneCell']) (by omega) (by simp [maxLen]; omega) (by omega) (by rw [← HZE.out, hZz]; omega) (w4.heap.size + 1) (by rw [← HZE.out, hZz]) ?_
                     intro g' cap' w7 hrow7 hgr7 hor7 hlt7
                     rw [← HZE.out] at hgr7
                     obtain ⟨f1, f2⟩ := HX7.out w7 hgr7
                     have HB7 := Lib.hid f2
                     have HO7 := Lib.hid hrow7
                     clear f2 hgr7 hrow7)
        go_roundw
        case rel =>
          have hsz7 := HB7.out.size
          have hg1 := hgd.out
          have hpos := HPOS.out
          have hy3 := HY3.out
          refine ⟨k + 1, o ++ [y], y, g', cap', w7.heap.size, rfl, rfl, hsz7, by omega, ?_, Lib.hid (heap_alloc_new w7 _), Lib.hid ?_, Lib.hid ?_, y2, Lib.hid ⟨by omega, by omega⟩, by omega, Lib.hid (HB7.out.alloc hsz7 _)⟩
          · show _ = _
            rw [List.length_append, hol.out]; rfl
          · unfold OwnL
            rw [List.length_append, List.length_singleton, hol.out, show zn (o ++ [y]) = zn o ++ [.int .i64 (y : Int)] by simp [zn]]
            exact HO7.out.alloc _
          · have h1 := hpr.out
            show _ = ((prunP T left fr k).1 ++ [pnext T left (prunP T left fr k).2], pnext T left (prunP T left fr k).2)
            rw [← h1]
            simp only
            rw [HY5.out]
        case measure =>
          simp [lenV]
          omega
end Go.Proofs.Ytlkfpphahfendaa
