/- The least way, by the reference (fretworkref04.Path). -/
import Derived.Test.YtpkiogcedfmodaaW52
namespace Go.Proofs.Ytpkiogcedfmodaa
open Go.RowKit

set_option maxRecDepth 100000 in
set_option maxHeartbeats 16000000 in
theorem refPath_yes (A : Option Addr) (c n N a b : Nat) (E : List (Int × Int)) (w : World) (hr : RdP w A E) (hn : n = E.length) (hg : rightG (N : Nat) E = true) (ha : a < N) (hb : b < N) :
    Calls Try.prog 17 #[.agg #[.int .i64 (N : Nat), .slice A n c], .int .i64 (a : Nat), .int .i64 (b : Nat)] w fun e w' => ∃ (A1 : Option Addr) (n1 c1 : Nat), e = .returned (.tuple #[.slice A1 n1 c1, .int .i64 (pathR N E a b).2]) ∧
      n1 = (pathR N E a b).1.length ∧ n1 ≤ 1000 ∧ RdZ w' A1 (pathR N E a b).1 ∧ Below w.heap.size w w' := by
  obtain ⟨i0, hi0, hz0, hz1, hz2⟩ := info_partsI i64info
  obtain ⟨i1, hj0, hk0, hk1, hk2⟩ := info_partsI rowinfo
  have hn6 : n ≤ 594 := by have := rightG_bounds hg; omega
  have hN200 : N ≤ 200 := by have := rightG_bounds hg; omega
  have hmk : ∀ w' : World, (Instr.makeSlice 36 (.int .i64 N) (.int .i64 N)).run Try.prog w' = .ok (.slice (some ⟨w'.heap.size, 0, none⟩) N N) (w'.alloc (.cells (List.replicate N (Value.slice none 0 0)).toArray 27)) := by
    intro w'
    have hr := run_make (P := Try.prog) w' 36 27 i1 (.slice none 0 0) Try.underlying36 hj0 hk0 .i64 .i64 N N (by omega) (by omega) (by rw [hk2]; omega) (by omega)
    rw [hk1, Nat.mul_one] at hr
    rw [hr]
    congr 3
    apply Array.ext'
    show (madeCells #[Value.slice none 0 0] N).toList = _
    rw [toList_madeCells_one]
  obtain ⟨W, hW⟩ : ∃ W, W = w.alloc (.cells #[.int .i64 (N : Nat), .slice A n c] 24) := ⟨_, rfl⟩
  have hbW : Below w.heap.size w W := by rw [hW]; exact (Below.refl _ _).alloc (Nat.le_refl _) _
  have hWS : w.heap.size < W.heap.size := by rw [hW]; simp
  obtain ⟨j0, j1, _, _⟩ := cells_two (w := W) (by rw [hW]; exact heap_alloc_new w _)
  have HJ : Hid (∀ w', Below W.heap.size W w' → w'.cell? ⟨w.heap.size, 0, none⟩ = some (.int .i64 (N : Nat)) ∧ w'.cell? ⟨w.heap.size, 1, none⟩ = some (.slice A n c)) := fun w' hb =>
    ⟨by rw [hb.cell (by show w.heap.size < _; omega)]; exact j0, by rw [hb.cell (by show w.heap.size < _; omega)]; exact j1⟩
  obtain ⟨T, hT⟩ : ∃ T, T = tabG N E := ⟨_, rfl⟩
  have HTB : Hid (Tab T N) := by show Tab T N; rw [hT]; exact tab_is hg
  have HTH : Hid (∀ u x : Nat, u < N → x < N → (hasG E u x = true ↔ adj T u x)) := by show ∀ u x : Nat, u < N → x < N → (hasG E u x = true ↔ adj T u x); rw [hT]; exact fun u x hu hx => hasG_adj hg hu hx
  obtain ⟨ds, hds⟩ : ∃ ds, distOf (tabG N E) N a = ds := ⟨_, rfl⟩
  have hDD : Dist T N a ds := by rw [hT, ← hds]; exact dist_is hg ha
  have HDD := Lib.hid hDD
  have hask : ∀ v : Nat, v < N → askE (N : Int) E (v : Int) = 0 := fun v hv => askE_ok hg ⟨by omega, by omega⟩
  have HPR : Hid (gd ds b < 0 → pathR (N : Int) E (a : Int) (b : Int) = ([], 60)) := fun h => by
    unfold pathR
    rw [if_pos (hask a ha), if_pos (hask b hb)]
    simp only [Int.toNat_natCast]
    rw [if_pos]
    rw [← (dist_is hg ha).both (dist_is hg hb) (fun _ _ => tabG_sym hg) ha hb, hds]
    exact h
  have HPY : Hid (∀ (D : Nat) (p : List Nat), gd ds b = (D : Int) → Least T a b D p → pathR (N : Int) E (a : Int) (b : Int) = (cz p, 0)) := fun D p h hp => by
    have h2 : gd (distOf (tabG N E) N b) a = (D : Int) := by rw [← (dist_is hg ha).both (dist_is hg hb) (fun _ _ => tabG_sym hg) ha hb, hds]; exact h
    unfold pathR
    rw [if_pos (hask a ha), if_pos (hask b hb)]
    simp only [Int.toNat_natCast]
    rw [if_neg (by rw [h2]; omega), h2]
    rw [hT] at hp
    rw [Int.toNat_natCast, (prunP_least hg (dist_is hg hb) ha hb h2).eq hp]
    rfl
  have HASK : Hid (∀ (v : Nat) (w' : World), v < N → Below W.heap.size W w' → Calls Try.prog 29 #[.agg #[.int .i64 (N : Nat), .slice A n c], .int .i64 (v : Nat)] w' fun e w'' => e = .returned (.int .i64 0) ∧ Below w'.heap.size w' w'') := fun v w' hv hb' => by
    have h := asked_any A c n (N : Nat) (v : Nat) E w' ((hr.below hbW).below hb') hn (by omega)
    rw [hask v hv] at h
    exact h
  have HAW : Hid (∀ (w' : World), Below W.heap.size W w' → Calls Try.prog 15 #[.agg #[.int .i64 (N : Nat), .slice A n c], .int .i64 (a : Nat)] w' fun e w'' => ∃ (gu cu : Nat), e = .returned (.tuple #[.slice (some ⟨gu, 0, none⟩) N cu, .int .i64 0]) ∧
      OwnI w'' w'.heap.size (some ⟨gu, 0, none⟩) cu ds N ∧ (∀ x, x < N → gd ds x ≤ N) ∧ Below w'.heap.size w' w'') := fun w' hb' => by
    rw [← hds]
    exact refAway_yes A c n N a E w' ((hr.below hbW).below hb') hn hg ha
  have HHAS : Hid (∀ (u v : Nat) (w' : World), Below W.heap.size W w' → Calls Try.prog 34 #[.agg #[.int .i64 (N : Nat), .slice A n c], .int .i64 (u : Nat), .int .i64 (v : Nat)] w' fun e w'' => e = .returned (.bool (hasG E u v)) ∧ Below w'.heap.size w' w'') := fun u v w' hb' => refHas_any A c n N E (u : Int) (v : Int) w' ((hr.below hbW).below hb') hn hg
  have HB := Lib.hid hbW
  have HW := Lib.hid hW
  obtain ⟨R, hR⟩ : ∃ R, pathR (N : Int) E (a : Int) (b : Int) = R := ⟨_, rfl⟩
  rw [hR] at HPR HPY ⊢
  have HAS1 := Lib.hid (HASK.out a W ha (Below.refl _ _))
  clear hr hn hg hbW hW hT hds hDD hask hR j0 j1
  go_enter Try.func17, Try.ntmps17
  go_wp2_with fail
  rw [← HW.out]
  refine HAS1.out.mono ?_
  rintro e w1 ⟨rfl, hb1⟩
  have HB1 := Lib.hid hb1
  clear hb1
  obtain ⟨j0, j1⟩ := HJ.out w1 HB1.out
  have HAS2 := Lib.hid (HASK.out b w1 hb HB1.out)
  go_wp2_with fail
  refine HAS2.out.mono ?_
  rintro e w2 ⟨rfl, hb2⟩
  have HB2 := Lib.hid (next_below HB1.out hb2)
  clear hb2 j0 j1
  obtain ⟨j0, j1⟩ := HJ.out w2 HB2.out
  go_wp2_with fail
  refine (HAW.out w2 HB2.out).mono ?_
  rintro e w3 ⟨gu, cu, rfl, hd, hlim, hb3⟩
  have HLIM := Lib.hid hlim
  have HB3 := Lib.hid (next_below HB2.out hb3)
  have HD := Lib.hid hd
  clear hb3 j0 j1
  obtain ⟨j0, j1⟩ := HJ.out w3 HB3.out
  have hdl := hd.len
  have HDC : Hid (∀ (x : Nat) (w' : World), x < N → Below w3.heap.size w3 w' → w'.cell? ⟨gu, x, none⟩ = some (.int .i64 (gd ds x))) := fun x w' hx hb => OwnI.at_ (l := ds) (row_below HD.out hb) (by simp [gd, List.getD, List.getElem?_eq_getElem (show x < ds.length by omega)])
  have e0 := HDC.out b w3 hb (Below.refl _ _)
  have hb0 : (0 : Int) ≤ (b : Int) := by omega
  have hb1 : (b : Int) < (N : Nat) := by omega
  have ha0 : (0 : Int) ≤ (a : Int) := by omega
  have ha1 : (a : Int) < (N : Nat) := by omega
  clear hd hdl hlim
  by_cases hneg : gd ds b < 0
  · have d0 : decide (gd ds b < 0) = true := by simpa using hneg
    have HR := Lib.hid (HPR.out hneg)
    generalize gd ds b = D0 at *
    clear hneg
    go_wp2_with fail
    go_ret2
    exact ⟨none, 0, 0, by rw [HR.out]; rfl, by rw [HR.out]; rfl, by omega, by rw [HR.out]; exact rdz_nil _ _, next_below HB.out HB3.out⟩
  · obtain ⟨D, hD⟩ := Int.eq_ofNat_of_zero_le (show 0 ≤ gd ds b by omega)
    have d0 : decide ((D : Int) < 0) = false := by simp
    have hD2 : D ≤ 200 := by have := HLIM.out b hb; omega
    have HDB := Lib.hid hD
    rw [hD] at e0
    obtain ⟨X, hX⟩ : ∃ X, X = w3.alloc (.cells ((Array.replicate N (Value.slice none 0 0)).setIfInBounds a (.slice (some ⟨w3.heap.size + 1, 0, none⟩) 1 1)) 27) := ⟨_, rfl⟩
    obtain ⟨Z, hZ⟩ : ∃ Z, Z = X.alloc (.cells #[.int .i64 (a : Int)] 3) := ⟨_, rfl⟩
    have hXs : X.heap.size = w3.heap.size + 1 := by rw [hX]; simp
    have hXb : X.heap[w3.heap.size]? = some (.cells ((List.replicate N (Value.slice none 0 0)).set a (.slice (some ⟨w3.heap.size + 1, 0, none⟩) 1 1)).toArray 27 (0, 0)) := by
      rw [hX, heap_alloc_new]
      congr 2
      apply Array.ext'
      simp
    have hZb : Below w3.heap.size w3 Z := by
      rw [hZ, hX]
      exact ((Below.refl _ _).alloc (Nat.le_refl _) _).alloc (by simp) _
    have hZr : Z.ownsRow w3.heap.size 3 1 (.slice (some ⟨w3.heap.size + 1, 0, none⟩) 1 1) 1 (zn [a]) := by
      rw [hZ, ← hXs]
      exact World.ownsRow_lit (base := w3.heap.size) (e := 3) (size := 1) X #[.int .i64 (a : Int)] 1 (by omega) (by decide) rfl
    have hZW : WaysAt Z w3.heap.size w3.heap.size ((List.replicate N (.slice none 0 0)).set a (.slice (some ⟨w3.heap.size + 1, 0, none⟩) 1 1)) ((List.replicate N []).set a [a]) := by
      refine ⟨blk_below hXb (by rw [hZ]; exact (Below.refl _ _).alloc (Nat.le_refl _) _), by simp, fun j u xs h1 h2 => ?_⟩
      by_cases e : j = a
      · subst e
        rw [List.getElem?_set_self (by simpa using ha)] at h1 h2
        injection h1 with h1
        injection h2 with h2
        subst h1; subst h2
        exact hZr
      · rw [List.getElem?_set_ne (fun h => e h.symm)] at h1 h2
        have e1 := List.eq_of_mem_replicate (List.mem_of_getElem? h1)
        have e2 := List.eq_of_mem_replicate (List.mem_of_getElem? h2)
        subst e1; subst e2
        exact ⟨rfl, .inl ⟨rfl, rfl⟩⟩
    have HZ : Hid (Z = (w3.alloc (.cells ((Array.replicate N (Value.slice none 0 0)).setIfInBounds a (.slice (some ⟨w3.heap.size + 1, 0, none⟩) 1 1)) 27)).alloc (.cells #[.int .i64 (a : Int)] 3)) := by show _ = _; rw [hZ, hX]
    have HZW := Lib.hid hZW
    have HZB := Lib.hid hZb
    have HT0 := Lib.hid (Table.start HDD.out ha)
    clear hX hZ hXb hZr hZW hZb hXs hD hneg
    go_wp2_with fail
    rw [← HZ.out]
    clear hmk j0 j1 e0
    go_loopw [12] (fun s12 wr => ∃ (f : Nat) (us : List Value) (ws : List (List Nat)), s12 = .int .i64 f ∧ 1 ≤ f ∧ f ≤ D + 1 ∧ Hid (WaysAt wr w3.heap.size w3.heap.size us ws) ∧ Hid (Table T N a ds f 0 0 ws) ∧ Hid (Below w3.heap.size w3 wr)) (fun s12 _ => D + 1 - (intOf s12).toNat)
    case atStart => exact ⟨1, _, _, rfl, Nat.le_refl _, by omega, HZW, HT0, HZB⟩
    case round =>
      obtain ⟨f, us, ws, rfl, hf1, hf2, hWA, hTB, hbl⟩ := hrel
      have e0 := HDC.out b wr hb hbl.out
      rw [HDB.out] at e0
      by_cases h1 : f ≤ D
      · have t1 : decide ((f : Int) ≤ (D : Int)) = true := by simp; omega
        have t1b : decide (f ≤ D) = true := by simp; omega
        obtain ⟨m, rfl⟩ : ∃ m, f = m + 1 := ⟨f - 1, by omega⟩
        have hwm : IntKind.i64.wrap (((m + 1 : Nat) : Int) - 1) = (m : Int) := by rw [show ((m + 1 : Nat) : Int) - 1 = (m : Int) by omega]; exact IntWalk.i64_in _ (by omega)
        obtain ⟨f, hff⟩ : ∃ f, m + 1 = f := ⟨_, rfl⟩
        rw [hff] at hwm hTB t1 t1b h1 hf1 hf2 ⊢
        have HFF := Lib.hid hff
        obtain ⟨wo1, rfl⟩ : ∃ wo1, wo1 = wr := ⟨_, rfl⟩
        clear hff
        go_wp2_with fail
        clear e0
        go_loopw [13] (fun s13 wr => ∃ (x : Nat) (us : List Value) (ws : List (List Nat)), s13 = .int .i64 x ∧ x ≤ N ∧ Hid (WaysAt wr w3.heap.size w3.heap.size us ws) ∧ Hid (Table T N a ds f x 0 ws) ∧ Hid (Below w3.heap.size w3 wr)) (fun s13 _ => N - (intOf s13).toNat)
        case atStart => exact ⟨0, us, ws, rfl, Nat.zero_le _, hWA, hTB, hbl⟩
        case round =>
          obtain ⟨x, us, ws, rfl, hx, hWA, hTB, hbl⟩ := hrel
          obtain ⟨j0, j1⟩ := HJ.out wr (next_below HB3.out hbl.out)
          by_cases h2 : x < N
          · have t2 : decide ((x : Int) < (N : Int)) = true := by simp; omega
            have hx0 : (0 : Int) ≤ (x : Int) := by omega
            have hx1 : (x : Int) < (N : Nat) := by omega
            obtain ⟨wo2, rfl⟩ : ∃ wo2, wo2 = wr := ⟨_, rfl⟩
            go_wp2_with fail
            clear j0 j1
            go_loopw [14] (fun s14 wr => ∃ (v : Nat) (us : List Value) (ws : List (List Nat)), s14 = .int .i64 v ∧ v ≤ N ∧ Hid (WaysAt wr w3.heap.size w3.heap.size us ws) ∧ Hid (Table T N a ds f x v ws) ∧ Hid (Below w3.heap.size w3 wr)) (fun s14 _ => N - (intOf s14).toNat)
            case atStart => exact ⟨0, us, ws, rfl, Nat.zero_le _, hWA, hTB, hbl⟩
            case round =>
              obtain ⟨v, us, ws, rfl, hv, hWA, hTB, hbl⟩ := hrel
              obtain ⟨j0, j1⟩ := HJ.out wr (next_below HB3.out hbl.out)
              by_cases h3 : v < N
              · have t3 : decide ((v : Int) < (N : Int)) = true := by simp; omega
                have hv0 : (0 : Int) ≤ (v : Int) := by omega
                have hv1 : (v : Int) < (N : Nat) := by omega
                have e1 := HDC.out x wr h2 hbl.out
                by_cases hdx : gd ds x = (f : Int)
                · rw [hdx] at e1
                  have HDX := Lib.hid hdx
                  have t4 : ((f : Int) == (f : Int)) = true := by simp
                  have e4 := HDC.out v wr h3 hbl.out
                  by_cases hdv : gd ds v = (m : Int)
                  · rw [hdv] at e4
                    have HDV := Lib.hid hdv
                    have t5 : ((m : Int) != (m : Int)) = false := by simp
                    have HHC := Lib.hid (HHAS.out v x wr (next_below HB3.out hbl.out))
                    cases hhv : hasG E v x with
                    | false =>
                      rw [hhv] at HHC
                      have HSK := Lib.hid (hTB.out.skip (fun _ ha => by rw [(HTH.out v x h3 h2).2 ha] at hhv; cases hhv))
                      clear hdx hdv hhv
                      go_wp2_with fail
                      refine HHC.out.mono ?_
                      rintro e w6 ⟨rfl, hb6⟩
                      have HB6 := Lib.hid hb6
                      clear hb6
                      go_wp2_with fail
                      go_roundw
                      case rel => exact ⟨v + 1, us, ws, by go_num, by omega, Lib.hid (hWA.out.below HB6.out), HSK, Lib.hid (next_below hbl.out HB6.out)⟩
                      case measure => simp [intOf]; omega
                    | true =>
                      rw [hhv] at HHC
                      have HADJ := Lib.hid ((HTH.out v x h3 h2).1 hhv)
                      clear hdx hdv hhv
                      go_wp2_with fail
                      refine HHC.out.mono ?_
                      rintro e w6 ⟨rfl, hb6⟩
                      have HB6 := Lib.hid (next_below hbl.out hb6)
                      have HWA6 := Lib.hid (hWA.out.below hb6)
                      clear hb6 j0 j1 e1 e4
                      obtain ⟨Bv, cv, hcv, hov⟩ := HWA6.out.row (j := v) (by rw [hTB.out.len]; exact h3)
                      have hlv : (gl ws v).length = f := hTB.out.lens h3 (by rw [HDV.out]; have := HFF.out; omega) (by rw [HDV.out]; omega)
                      rw [hlv] at hcv hov
                      obtain ⟨gv, cv2, ev⟩ := Go.Joins.ownsRow_form hov (by omega)
                      have hBv : Bv = some ⟨gv, 0, none⟩ ∧ cv = cv2 := by injection ev with p q r; exact ⟨p, r⟩
                      obtain ⟨rfl, rfl⟩ := hBv
                      obtain ⟨X1, hX1⟩ : ∃ X1, X1 = w6.alloc (.cells #[] 3) := ⟨_, rfl⟩
                      have h10 : X1.ownsRow w6.heap.size 3 1 (.slice (some ⟨w6.heap.size, 0, none⟩) 0 0) 0 [] := by
                        rw [hX1]
                        exact World.ownsRow_lit (base := w6.heap.size) (e := 3) (size := 1) w6 #[] 0 (Nat.le_refl _) (by decide) rfl
                      have hbX : Below w6.heap.size w6 X1 := by rw [hX1]; exact (Below.refl _ _).alloc (Nat.le_refl _) _
                      have hX1s : X1.heap.size = w6.heap.size + 1 := by rw [hX1]; simp
                      have HNV : Hid (∀ (j : Nat) (u : Value), (zn (gl ws v))[j]? = some u → X1.cell? ((⟨gv, 0, none⟩ : Addr).add j) = some u) := fun j u hj => (row_below hov hbX).cells rfl j u hj
                      have HNL : Hid ((zn (gl ws v)).length = f * 1) := by show _ = _; rw [zn_length, hlv, Nat.mul_one]
                      have hws6 : w3.heap.size < w6.heap.size := lt_of_block HWA6.out.1
                      have hcX : (w6.alloc (.cells #[] 3)).cell? ⟨w3.heap.size, v, none⟩ = some (.slice (some ⟨gv, 0, none⟩) f cv) := by rw [← hX1, hbX.cell (by exact hws6)]; exact hcv
                      have HX1 := Lib.hid hX1
                      have H10 := Lib.hid h10
                      have HBX := Lib.hid hbX
                      have HLV := Lib.hid hlv
                      clear hX1 h10 hbX hov ev hlv
                      go_upto_region 22 with (first
                        | (at_builtin; refine wpList_append_lies _ rfl (.tmp 88) (.tmp 92) 27 rfl w6.heap.size 3 i0 (.int .i64 0) 1 8 Try.underlying27 hi0 hz0 hz1 hz2 rfl (by decide) (.slice (some ⟨w6.heap.size, 0, none⟩) 0 0) 0 [] rfl (by rw [← HX1.out]; exact H10.out) ⟨gv, 0, none⟩ f cv (zn (gl ws v)) (by simp [Act.eval]) HNL.out (by rw [← HX1.out]; exact HNV.out) (by intro u hu; obtain ⟨x, _, rfl⟩ := List.mem_map.1 hu; rfl) (by omega) (by simp [maxLen]; omega) (by omega) (by rw [← HX1.out, hX1s]; omega) (w6.heap.size + 1) (by rw [← HX1.out, hX1s]) ?_; intro g1 c1 w7 hrow7 hgr7 hor7 hlt7; rw [← HX1.out] at hgr7; rw [Nat.zero_add, List.nil_append] at hrow7; have hb7 := HBX.out.grown hgr7 (by omega) (fun m e => (H10.out.lt m e).1); have HB7 := Lib.hid hb7; have hb7s := hb7.size; have H7 := Lib.hid (hrow7.alloc (.cells #[.int .i64 (x : Int)] 3)); have H7N : Hid (∀ (j : Nat) (u : Value), [Value.int .i64 (x : Int)][j]? = some u → (w7.alloc (.cells #[.int .i64 (x : Int)] 3)).cell? ((⟨w7.heap.size, 0, none⟩ : Addr).add j) = some u) := (fun j u hj => by have hj0 : j = 0 := (by have := (List.getElem?_eq_some_iff.1 hj).1; simp at this; omega); subst hj0; rw [← hj, add_off]; exact World.cell?_alloc_at _ _ _ _ rfl); clear hrow7 hgr7 hor7 hb7)
                        | (at_builtin; refine wpList_append_lies _ rfl (.tmp 93) (.tmp 95) 27 rfl w6.heap.size 3 i0 (.int .i64 0) 1 8 Try.underlying27 hi0 hz0 hz1 hz2 rfl (by decide) (.slice (some ⟨g1, 0, none⟩) f c1) f (zn (gl ws v)) (by first | rfl | simp [Act.eval]) H7.out ⟨w7.heap.size, 0, none⟩ 1 1 [.int .i64 (x : Int)] (by simp [Act.eval]) rfl H7N.out (by simp [Value.oneCell']) (by omega) (by simp [maxLen]; omega) (by omega) (by simp only [World.size_alloc]; omega) (w7.heap.size + 1) (by simp only [World.size_alloc]) ?_; intro g2 c2 w8 hrow8 hgr8 hor8 hlt8))
                      have hb8 : Below w6.heap.size w6 w8 := (HB7.out.alloc HB7.out.size _).grown hgr8 (by simp only [World.size_alloc]; omega) (fun m e => (H7.out.lt m e).1)
                      have HB8 := Lib.hid (next_below HB6.out hb8)
                      have HWA8 := Lib.hid (HWA6.out.below hb8)
                      have hway : w8.ownsRow w3.heap.size 3 1 (.slice (some ⟨g2, 0, none⟩) (f + 1) c2) (f + 1) (zn (gl ws v ++ [x])) := by
                        rw [show zn (gl ws v ++ [x]) = zn (gl ws v) ++ [.int .i64 (x : Int)] by simp [zn]]
                        exact Go.Joins.ownsRow_le hrow8 (Nat.le_of_lt hws6)
                      have HWY := Lib.hid hway
                      have hwl : f + 1 = (gl ws v ++ [x]).length := by rw [List.length_append, HLV.out]; rfl
                      have HWL := Lib.hid hwl
                      obtain ⟨Bx, cx, hcx, hox⟩ := HWA8.out.row (j := x) (by rw [hTB.out.len]; exact h2)
                      have hfz : w8.frozen? ⟨w3.heap.size, x, none⟩ = false := free_of HWA8.out.1 x
                      have HPUT : Hid (gl ws x = [] ∨ lex (gl ws v ++ [x]) (gl ws x) → Table T N a ds f x (v + 1) (ws.set x (gl ws v ++ [x]))) := fun h =>
                        hTB.out.put HDD.out h2 h3 HDX.out (by rw [HDV.out]; have := HFF.out; omega) (by rw [HDV.out]; omega) HADJ.out h
                      clear hrow8 hgr8 hor8 hb8 hway hwl hcv hcX HNV HNL
                      by_cases hne : gl ws x = []
                      · rw [hne, List.length_nil] at hcx
                        have HTN := Lib.hid (HPUT.out (.inl hne))
                        obtain ⟨Z1, hZ1⟩ : ∃ Z1, Z1 = w8.setCell ⟨w3.heap.size, x, none⟩ (.slice (some ⟨g2, 0, none⟩) (f + 1) c2) := ⟨_, rfl⟩
                        have HWZ : Hid (WaysAt Z1 w3.heap.size w3.heap.size (us.set x (.slice (some ⟨g2, 0, none⟩) (f + 1) c2)) (ws.set x (gl ws v ++ [x]))) := by show WaysAt _ _ _ _ _; rw [hZ1]; exact HWA8.out.set_ HWL.out HWY.out
                        have HBZ : Hid (Below w3.heap.size w3 Z1) := by show Below _ _ _; rw [hZ1]; exact HB8.out.setCell (Nat.le_refl _) _
                        have HZ1 := Lib.hid hZ1
                        clear hZ1 hne hox
                        go_wp2_with fail
                        rw [← HZ1.out]
                        go_roundw
                        case rel => exact ⟨v + 1, _, _, by go_num, by omega, HWZ, HTN, HBZ⟩
                        case measure => simp [intOf]; omega
                      · have hnx : (gl ws x).length = f + 1 := by
                          obtain ⟨⟨y, hy, hy1, hy2, hy3⟩, _⟩ := hTB.out.some_ h2 hne HDX.out
                          rw [hy3, List.length_append, hTB.out.lens hy hy1 (by have := HFF.out; omega)]
                          rfl
                        rw [hnx] at hcx hox
                        have HLC := Lib.hid (less_any (some ⟨g2, 0, none⟩) Bx c2 cx (f + 1) (gl ws v ++ [x]) (gl ws x) w8 (owns_rd (by rw [← zn_zs]; exact HWY.out)) (owns_rd (by rw [← zn_zs]; exact hox)) HWL.out hnx.symm (by omega))
                        have t6 : (((f + 1 : Nat) : Int) == 0) = false := by simp; omega
                        have t7 : ((f : Int) + 1 == 0) = false := by simp; omega
                        have HNE := Lib.hid hne
                        have HNX := Lib.hid hnx
                        clear hne hox hnx
                        go_wp2_with fail
                        refine HLC.out.mono ?_
                        rintro e w9 ⟨r, rfl, hr, hb9⟩
                        have HB9 := Lib.hid (next_below HB8.out hb9)
                        have HWA9 := Lib.hid (HWA8.out.below hb9)
                        have HWY9 := Lib.hid (row_below HWY.out hb9)
                        have HLR := Lib.hid hr
                        have hfz9 : w9.frozen? ⟨w3.heap.size, x, none⟩ = false := free_of HWA9.out.1 x
                        have hcx9 : w9.cell? ⟨w3.heap.size, x, none⟩ = some (.slice Bx (f + 1) cx) := by rw [hb9.cell (by exact lt_of_block HWA8.out.1)]; exact hcx
                        clear hb9 hr hfz hcx
                        cases r with
                        | true =>
                          have HTN := Lib.hid (HPUT.out (.inr (HLR.out.1 rfl)))
                          obtain ⟨Z1, hZ1⟩ : ∃ Z1, Z1 = w9.setCell ⟨w3.heap.size, x, none⟩ (.slice (some ⟨g2, 0, none⟩) (f + 1) c2) := ⟨_, rfl⟩
                          have HWZ : Hid (WaysAt Z1 w3.heap.size w3.heap.size (us.set x (.slice (some ⟨g2, 0, none⟩) (f + 1) c2)) (ws.set x (gl ws v ++ [x]))) := by show WaysAt _ _ _ _ _; rw [hZ1]; exact HWA9.out.set_ HWL.out HWY9.out
                          have HBZ : Hid (Below w3.heap.size w3 Z1) := by show Below _ _ _; rw [hZ1]; exact HB9.out.setCell (Nat.le_refl _) _
                          have HZ1 := Lib.hid hZ1
                          clear hZ1
                          go_wp2_with fail
                          rw [← HZ1.out]
                          go_roundw
                          case rel => exact ⟨v + 1, _, _, by go_num, by omega, HWZ, HTN, HBZ⟩
                          case measure => simp [intOf]; omega
                        | false =>
                          have HTN : Hid (Table T N a ds f x (v + 1) ws) := by
                            refine hTB.out.keep HNE.out ?_
                            rcases lex_tri (p := gl ws x) (q := gl ws v ++ [x]) (by rw [HNX.out]; exact HWL.out) with e | e | e
                            · exact .inl e
                            · exact .inr e
                            · have := HLR.out.2 e
                              cases this
                          go_wp2_with fail
                          go_roundw
                          case rel => exact ⟨v + 1, us, ws, by go_num, by omega, HWA9, HTN, HB9⟩
                          case measure => simp [intOf]; omega
                  · have t5 : (gd ds v != (m : Int)) = true := by simp; omega
                    have HSK := Lib.hid (hTB.out.skip (fun h _ => hdv (by have := HFF.out; omega)))
                    generalize gd ds v = dv at *
                    clear hdx hdv
                    go_wp2_with fail
                    go_roundw
                    case rel => exact ⟨v + 1, us, ws, by go_num, by omega, hWA, HSK, hbl⟩
                    case measure => simp [intOf]; omega
                · have t4 : (gd ds x == (f : Int)) = false := by simp; omega
                  have HPS := Lib.hid (hTB.out.pass hdx)
                  generalize gd ds x = dx at *
                  clear hdx
                  go_wp2_with fail
                  go_roundw
                  case rel => exact ⟨x + 1, us, ws, by go_num, by omega, hWA, HPS, hbl⟩
                  case measure => simp [intOf]; omega
              · obtain rfl : v = N := by omega
                have t3 : decide ((v : Int) < (v : Int)) = false := by simp
                have HPS : Hid (Table T v a ds f (x + 1) 0 ws) := by
                  by_cases hdx : gd ds x = (f : Int)
                  · exact hTB.out.next HTB.out HDD.out ha hf1 h2 hdx
                  · exact hTB.out.pass hdx
                go_wp2_with fail
                go_roundw
                case rel => exact ⟨x + 1, us, ws, by go_num, by omega, hWA, HPS, hbl⟩
                case measure => simp [intOf]; omega
          · obtain rfl : x = N := by omega
            have t2 : decide ((x : Int) < (x : Int)) = false := by simp
            have HRW := Lib.hid (hTB.out.row HDD.out)
            go_wp2_with fail
            go_roundw
            case rel => exact ⟨f + 1, us, ws, by go_num, by omega, by omega, hWA, HRW, hbl⟩
            case measure => simp [intOf]; omega
      · have t1 : decide ((f : Int) ≤ (D : Int)) = false := by simp; omega
        have t1b : decide (f ≤ D) = false := by simp; omega
        have HLS := Lib.hid (hTB.out.done b D hb HDB.out (.inl (by omega)))
        obtain ⟨Br, cr, hcr, hor⟩ := hWA.out.row (j := b) (by rw [hTB.out.len]; exact hb)
        have HRD := Lib.hid (owns_rd (xs := cz (gl ws b)) (by rw [← zn_zs]; exact hor))
        have HR := Lib.hid (HPY.out D _ HDB.out HLS.out)
        have HLN := Lib.hid (show (gl ws b).length = (cz (gl ws b)).length by simp [cz])
        have hnl : (gl ws b).length ≤ 1000 := by have := HLS.out.way.len; omega
        generalize (gl ws b).length = nl at *
        clear hor
        go_wp2_with fail
        go_ret2
        exact ⟨Br, nl, cr, by rw [HR.out]; rfl, by rw [HR.out]; exact HLN.out, hnl, by rw [HR.out]; exact HRD.out, next_below (next_below HB.out HB3.out) hbl.out⟩
end Go.Proofs.Ytpkiogcedfmodaa
