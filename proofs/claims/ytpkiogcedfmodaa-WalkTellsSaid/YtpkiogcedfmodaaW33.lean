/- WalkOwn. -/
import Derived.Test.YtpkiogcedfmodaaW20
import Derived.Test.YtpkiogcedfmodaaW29
import Derived.Test.YtpkiogcedfmodaaW31
import Derived.Test.YtpkiogcedfmodaaW32
namespace Go.Proofs.Ytpkiogcedfmodaa
open Go.RowKit

theorem one_lit (w : World) (a : Int) : RdZ (w.alloc (.cells #[.int .i64 a] 3)) (some ⟨w.heap.size, 0, none⟩) [a] := lit_rd w [a]
theorem vG_mk (g n c : Nat) : vG (.slice (some ⟨g, 0, none⟩) n c) = g := rfl
set_option maxHeartbeats 4000000 in
theorem own_no (A : Option Addr) (c : Nat) (N a : Int) (E : List (Int × Int)) (w : World) (hr : RdP w A E) (ht : thereB N E [a] = false) :
    Calls Try.prog 9 #[.agg #[.int .i64 N, .slice A E.length c], .int .i64 a] w fun e w' => e = .returned (.bool true) ∧ Below w.heap.size w w' := by
  obtain ⟨W, hW⟩ : ∃ W, W = w.alloc (.cells #[.int .i64 N, .slice A E.length c] 24) := ⟨_, rfl⟩
  have hb : Below w.heap.size w W := by rw [hW]; exact (Below.refl _ _).alloc (Nat.le_refl _) _
  have hWS : w.heap.size < W.heap.size := by rw [hW]; simp
  have hWz : W.heap.size = w.heap.size + 1 := by rw [hW]; simp
  obtain ⟨i0, i1, _, _⟩ := cells_two (w := W) (by rw [hW]; exact heap_alloc_new w _)
  have HR := Lib.hid (hr.below hb)
  have HB := Lib.hid hb
  have HT := Lib.hid ht
  have HW := Lib.hid hW
  clear hr hb hW ht
  go_enter Try.func9, Try.ntmps9
  go_wp2_with fail
  rw [← HW.out]
  have HLT := Lib.hid (one_lit W a)
  rw [hWz] at HLT
  clear hWz
  have HBA := Lib.hid ((Below.refl W.heap.size W).alloc (Nat.le_refl _) (.cells #[.int .i64 a] 3))
  refine (there_any A (some ⟨w.heap.size + 1, 0, none⟩) c 1 E.length 1 N E [a] _ (HR.out.below HBA.out) rfl (HLT.out) rfl (by omega)).mono ?_
  rintro e w1 ⟨rfl, hb1⟩
  rw [HT.out]
  have HB1 := Lib.hid (HB.out.trans ((next_below HBA.out hb1).mono (Nat.le_of_lt hWS)))
  clear hb1 i0 i1
  go_wp2_with fail
  refine (awake_any w1).mono ?_
  rintro e w2 ⟨rfl, hb2⟩
  go_wp2_with fail
  go_ret
  exact ⟨rfl, next_below HB1.out hb2⟩

theorem RdP.set {w : World} {A : Option Addr} {E : List (Int × Int)} (h : RdP w A E) {p : Addr} (u : Value) (hne : ∀ ad, A = some ad → ad.block ≠ p.block) : RdP (w.setCell p u) A E := fun q e hq => by
  obtain ⟨ad, ea, hl, h1, h2⟩ := h q e hq
  have hb := Below.heap_setCell w p u ad.block (hne ad ea)
  exact ⟨ad, ea, by simpa [World.setCell] using hl, (World.cell?_of_block (by rw [block_add]; exact hb)).trans h1, (World.cell?_of_block (by show (w.setCell p u).heap[(ad.add (q * 2)).block]? = w.heap[(ad.add (q * 2)).block]?; rw [block_add]; exact hb)).trans h2⟩
theorem RowAt.apart {w : World} {base base' n size : Nat} {u V : Value} {xs : List Value} (h : RowAt w base u) (hV : w.ownsRow base' 27 size V n xs) : u.ownBlock ≠ V.ownBlock := by
  obtain ⟨g, m, c, cur, rfl, h1, _⟩ := h
  intro e
  exact own_ne hV h1 (by decide) e.symm
set_option maxRecDepth 100000 in
set_option maxHeartbeats 8000000 in
theorem own_yes (A : Option Addr) (c N v : Nat) (E : List (Int × Int)) (w : World) (hr : RdP w A E) (hc : A = none → c = 0) (hg : rightG (N : Nat) E = true) (hN : N ≤ 60) (hv : v < N) (ht : thereB (N : Nat) E [(v : Int)] = true) :
    Calls Try.prog 9 #[.agg #[.int .i64 (N : Nat), .slice A E.length c], .int .i64 (v : Nat)] w fun e w' => e = .returned (.bool true) ∧ Below w.heap.size w w' := by
  obtain ⟨i1, hi1, hy0, hy1, hy2⟩ := info_partsI rowinfo
  obtain ⟨W, hW⟩ : ∃ W, W = w.alloc (.cells #[.int .i64 (N : Nat), .slice A E.length c] 24) := ⟨_, rfl⟩
  have hbw : Below w.heap.size w W := by rw [hW]; exact (Below.refl _ _).alloc (Nat.le_refl _) _
  have hWS : w.heap.size < W.heap.size := by rw [hW]; simp
  have hWz : W.heap.size = w.heap.size + 1 := by rw [hW]; simp
  obtain ⟨i0, i1, _, _⟩ := cells_two (w := W) (by rw [hW]; exact heap_alloc_new w _)
  have HJ : Hid (∀ w', Below W.heap.size W w' → w'.cell? ⟨w.heap.size, 0, none⟩ = some (.int .i64 (N : Nat)) ∧ w'.cell? ⟨w.heap.size, 1, none⟩ = some (.slice A E.length c)) := fun w' hb =>
    ⟨by rw [hb.cell (by show w.heap.size < _; omega)]; exact i0, by rw [hb.cell (by show w.heap.size < _; omega)]; exact i1⟩
  have hEl : E.length ≤ 594 := by have := rightG_bounds hg; omega
  have HR := Lib.hid (hr.below hbw)
  have HC := Lib.hid hc
  have HG := Lib.hid hg
  have HB := Lib.hid hbw
  have HT := Lib.hid ht
  have HW := Lib.hid hW
  clear hr hbw hW hg ht i0 i1 hc
  obtain ⟨n, hn⟩ : ∃ n, E.length = n := ⟨_, rfl⟩
  have HN := Lib.hid hn
  rw [hn] at HW HJ hEl ⊢
  clear hn
  go_enter Try.func9, Try.ntmps9
  go_wp2_with fail
  rw [← HW.out]
  have HLT := Lib.hid (one_lit W v)
  rw [hWz] at HLT
  clear hWz
  have HBA := Lib.hid ((Below.refl W.heap.size W).alloc (Nat.le_refl _) (.cells #[.int .i64 (v : Int)] 3))
  refine (there_any A (some ⟨w.heap.size + 1, 0, none⟩) c 1 n 1 N E [(v : Int)] _ (HR.out.below HBA.out) HN.out.symm (HLT.out) rfl (by omega)).mono ?_
  rintro e w1 ⟨rfl, hb1⟩
  rw [HT.out]
  have HB1 := Lib.hid (next_below HBA.out hb1)
  obtain ⟨j0, j1⟩ := HJ.out w1 HB1.out
  clear hb1 HBA
  go_upto_region 3 with fail
  go_cut [5] (fun s5 wx => ∃ (p c' : Nat) (B : Option Addr), s5 = .pointer (some ⟨p, 0, none⟩) ∧ wx.heap[p]? = some (.cells #[.int .i64 (N : Nat), .slice B n c'] 24 (0, 0)) ∧ RdP wx B E ∧ w1.heap.size ≤ p ∧ Below w1.heap.size w1 wx)
  case first =>
    have HWL : Hid (w.heap.size < w1.heap.size) := by show _ < _; have := HB1.out.size; omega
    have HH : Hid (∀ w', Below w1.heap.size w1 w' → w'.cell? ⟨w.heap.size, 0, none⟩ = some (.int .i64 (N : Nat)) ∧ w'.cell? ⟨w.heap.size, 1, none⟩ = some (.slice A n c) ∧ Below w1.heap.size w1 w') := fun w' hb =>
      ⟨(HJ.out w' (next_below HB1.out hb)).1, (HJ.out w' (next_below HB1.out hb)).2, hb⟩
    have HCP : Hid (∀ w', Below w1.heap.size w1 w' → Calls Try.prog 11 #[.slice A n c] w' fun e w'' => ∃ (B : Option Addr) (c' : Nat), e = .returned (.slice B n c') ∧ RdP w'' B E ∧ (∀ ad, B = some ad → w'.heap.size ≤ ad.block) ∧ (B = none → c' = 0) ∧ Below w'.heap.size w' w'') := fun w' hb =>
      copyP_any A c n E w' ((HR.out.below HB1.out).below hb) HN.out.symm (by omega) HC.out
    have hD := HH.out w1.drew (Below.refl _ _).drew
    clear HJ HR
    go_region_held3 (fun w' => w'.cell? ⟨w.heap.size, 0, none⟩ = some (.int .i64 (N : Nat)) ∧ w'.cell? ⟨w.heap.size, 1, none⟩ = some (.slice A n c) ∧ Below w1.heap.size w1 w')
      (first | exact hS | exact hD | exact HH.out _ (((Below.refl _ _).alloc (Nat.le_refl _) _).drew) | exact HH.out _ ((‹_ ∧ _ ∧ Below w1.heap.size w1 _›).2.2.alloc (‹_ ∧ _ ∧ Below w1.heap.size w1 _›).2.2.size _) | exact HH.out _ (((‹_ ∧ _ ∧ Below w1.heap.size w1 _›).2.2.setCell (Nat.le_refl _) _).setCell (Nat.le_refl _) _))
      (first | (go_at_call 11; refine (HCP.out _ (‹_ ∧ _ ∧ Below w1.heap.size w1 _›).2.2).mono ?_; rintro e w3 ⟨B, c', rfl, hrd, hbl, hcn, hb⟩; have hS := HH.out w3 (next_below (‹_ ∧ _ ∧ Below w1.heap.size w1 _›).2.2 hb); obtain ⟨hc, hf⟩ := old_cells hb))
    all_goals go_wp2_with fail
    all_goals go_meet
    · exact ⟨w3.heap.size, c', B, rfl, heap_alloc_new w3 _, hrd.below ((Below.refl _ _).alloc (Nat.le_refl _) _), hS.2.2.size, hS.2.2.alloc hS.2.2.size _⟩
    · have hz : w3.heap[w1.heap.size]? = some (Obj.cells #[Value.int IntKind.i64 0, Value.slice none 0 0] 24 (0, 0)) := (hb.block w1.heap.size (by show w1.heap.size < (w1.alloc _).heap.size; simp only [World.size_alloc]; omega)).trans (heap_alloc_new w1 _)
      have hbl2 : ∀ ad, B = some ad → ad.block ≠ w1.heap.size := fun ad e => by
        have := hbl ad e
        simp only [World.size_drew, World.size_alloc] at this
        omega
      refine ⟨w1.heap.size, c', B, rfl, ?_, (hrd.set _ hbl2).set _ hbl2, Nat.le_refl _, (hS.2.2.setCell (Nat.le_refl _) _).setCell (Nat.le_refl _) _⟩
      show _ = _
      simp [World.setCell, Array.getElem?_modify, hz]
  case rest =>
    obtain ⟨p, c', B, rfl, hp, hrd, hpl, hb2⟩ := hcut
    obtain ⟨p0, p1, _, _⟩ := cells_two hp
    have hpw := lt_of_block hp
    have HP : Hid (∀ w', Below wc.heap.size wc w' → w'.cell? ⟨p, 0, none⟩ = some (.int .i64 (N : Nat)) ∧ w'.cell? ⟨p, 1, none⟩ = some (.slice B n c')) := fun w' hb =>
      ⟨by rw [hb.cell (by exact hpw)]; exact p0, by rw [hb.cell (by exact hpw)]; exact p1⟩
    have HBC := Lib.hid (next_below HB1.out hb2)
    have HRD := Lib.hid hrd
    have HRC := Lib.hid ((HR.out.below HB1.out).below hb2)
    have HZ := Lib.hid (dist_is HG.out hv).zero
    have hN0 : 0 < N := by omega
    clear hp hrd hb2 j0 j1
    go_wp2_with fail
    refine (walk_any B c' n N v E wc HRD.out HN.out.symm HG.out hv).mono ?_
    rintro e w2 ⟨k, go, co, Bu, s, rfl, ho, hu, hne, hBu, hs, hsl, hG, hb⟩
    have hol : 0 < s.order.length := by have h1 := hG.cnt; have h2 := hG.meas; omega
    have R1 := Lib.hid (rowAt_owns ho hol)
    have R2 := Lib.hid (rowAt_block (n := N) (base := wc.heap.size) hu (by simp [zs, hG.len]) (by omega) hBu)
    have hgo := (rowAt_owns ho hol).at_
    have hBu2 := lt_of_block hu
    have hgo2 : go < w2.heap.size := hgo.2
    have HB2 := Lib.hid hb
    obtain ⟨ln, hln⟩ : ∃ ln, s.order.length = ln := ⟨_, rfl⟩
    rw [hln] at R1 ⊢
    clear hb ho hu hs hsl hG hol hgo hln p0 p1
    obtain ⟨p0, p1⟩ := HP.out w2 HB2.out
    go_wp2_with fail
    refine (away_any B c' n N v E w2 (HRD.out.below HB2.out) HN.out.symm HG.out hv).mono ?_
    rintro e w3 ⟨Bd, ds, rfl, od, ⟨hD, _⟩, hBd, hb⟩
    have HB3 := Lib.hid (next_below HB2.out hb)
    have R1b := Lib.hid (R1.out.below hb)
    have R2b := Lib.hid (R2.out.below hb)
    have hw2 := HB2.out.size
    have R3 := Lib.hid (rowAt_block (n := N) (base := wc.heap.size) od (by simp [zs, hD.len]) (by omega) (by omega))
    have hBd2 := lt_of_block od
    clear hb od hD R1 R2 p0 p1
    obtain ⟨p0, p1⟩ := HP.out w3 HB3.out
    go_wp2_with fail
    refine (path_any B c' n N v v E w3 (HRD.out.below HB3.out) HN.out.symm HG.out hv hv).mono ?_
    rintro e w4 ⟨hb, hpp⟩
    rcases hpp with ⟨hneg, _⟩ | ⟨D, g, o, pl, _, _, hll, _, hown, rfl⟩
    · exfalso
      rw [HZ.out] at hneg
      omega
    have HB4 := Lib.hid (next_below HB3.out hb)
    have R1c := Lib.hid (R1b.out.below hb)
    have R2c := Lib.hid (R2b.out.below hb)
    have R3c := Lib.hid (R3.out.below hb)
    have hw3 := HB3.out.size
    have R4 := Lib.hid (RowAt.less (base' := wc.heap.size) (rowAt_owns hown (by omega)) hw3)
    have hg4 := (rowAt_owns hown (by omega)).at_
    have hg41 : w3.heap.size ≤ g := hg4.1
    have hg42 : g < w4.heap.size := hg4.2
    obtain ⟨lp, hlp⟩ : ∃ lp, pl.length = lp := ⟨_, rfl⟩
    rw [hlp] at R4 ⊢
    clear hb hown hll hg4 hlp R1b R2b R3 p0 p1
    obtain ⟨p0, p1⟩ := HP.out w4 HB4.out
    have hsum : ((0 : Int) + 0 + 0 == 0) = true := by decide
    go_wp2_with fail
    refine (parts_any B c' n N E w4 (HRD.out.below HB4.out) HN.out.symm HG.out).mono ?_
    rintro e w5 ⟨Bp, k2, capp, us, rfl, hk2, hpr, hb⟩
    have hk200 : k2 ≤ 200 := by
      rw [hk2]
      have := prun_out (tabG N E) N N
      have := rightG_bounds HG.out
      omega
    have HB5 := Lib.hid (next_below HB4.out hb)
    have R1d := Lib.hid (R1c.out.below hb)
    have R2d := Lib.hid (R2c.out.below hb)
    have R3d := Lib.hid (R3c.out.below hb)
    have R4d := Lib.hid (R4.out.below hb)
    have hw4 := HB4.out.size
    have hw45 := hb.size
    have HPV := Lib.hid (pinv HG.out N (Nat.le_refl _))
    obtain ⟨P, hP⟩ : ∃ P, (prun (tabG N E) N N).2 = P := ⟨_, rfl⟩
    rw [hP] at hk2 hpr HPV
    have HPR := Lib.hid hpr
    have HK2 := Lib.hid hk2
    obtain ⟨V, hV⟩ : ∃ V, V = Value.slice Bp k2 capp := ⟨_, rfl⟩
    have hrow := hpr.1
    rw [← hk2] at hrow
    have HROW := Lib.hid hrow
    clear hb hk2 hpr hrow hP R1c R2c R3c R4 p0 p1
    go_wp2_with (at_builtin; refine wpList_append_lies_w (by rfl) _ _ 36 rfl w4.heap.size 27 i1 (.slice none 0 0) 1 24 Try.underlying36 hi1 hy0 hy1 hy2 rfl (by decide) (.slice Bp k2 capp) k2 us rfl (HROW.out.alloc _) ⟨w5.heap.size, 0, none⟩ 4 4 [.slice (some ⟨go, 0, none⟩) ln co, .slice (some ⟨Bu, 0, none⟩) N N, .slice (some ⟨Bd, 0, none⟩) N N, .slice (some ⟨g, 0, none⟩) lp o] rfl rfl (World.news_of_block (heap_alloc_new w5 _)) (by simp [Value.oneCell']) (by omega) (by simp [maxLen]; omega) (by omega) (by simp only [World.size_alloc]; omega) (w5.heap.size + 1) (by simp only [World.size_alloc]) ?_; intro g6 cap6 w6 hrow6 hgr6 hor6 hlt6)
    have hgz : Below w5.heap.size w5 (w5.alloc (.cells #[.slice (some ⟨go, 0, none⟩) ln co, .slice (some ⟨Bu, 0, none⟩) N N, .slice (some ⟨Bd, 0, none⟩) N N, .slice (some ⟨g, 0, none⟩) lp o] 27)) := (Below.refl _ _).alloc (Nat.le_refl _) _
    have hfour : ∀ u, RowAt w5 wc.heap.size u → RowAt w6 wc.heap.size u := fun u h => (h.below hgz).grown hgr6 (h.apart HROW.out)
    have hbase0 : wc.heap.size ≤ w4.heap.size := hw4
    have heachU : ∀ u ∈ us, RowAt w5 w4.heap.size u := fun u hu => by
      obtain ⟨j, hj⟩ := List.getElem?_of_mem hu
      have hjl := (List.getElem?_eq_some_iff.1 hj).1
      rw [HPR.out.2.1] at hjl
      obtain ⟨pt, hpt⟩ : ∃ pt, P[j]? = some pt := ⟨_, List.getElem?_eq_getElem hjl⟩
      obtain ⟨x, _, _, h0⟩ := HPV.out.part j pt hpt
      exact rowAt_owns (HPR.out.2.2.1 j u pt hj hpt) (List.getElem?_eq_some_iff.1 h0).1
    have hEach : ∀ u ∈ us ++ [Value.slice (some ⟨go, 0, none⟩) ln co, .slice (some ⟨Bu, 0, none⟩) N N, .slice (some ⟨Bd, 0, none⟩) N N, .slice (some ⟨g, 0, none⟩) lp o], RowAt w6 wc.heap.size u := fun u hu => by
      rcases List.mem_append.1 hu with h | h
      · exact hfour u ((heachU u h).less hbase0)
      · simp only [List.mem_cons, List.not_mem_nil, or_false] at h
        rcases h with rfl | rfl | rfl | rfl
        · exact hfour _ R1d.out
        · exact hfour _ R2d.out
        · exact hfour _ R3d.out
        · exact hfour _ R4d.out
    have hPair : (us ++ [Value.slice (some ⟨go, 0, none⟩) ln co, .slice (some ⟨Bu, 0, none⟩) N N, .slice (some ⟨Bd, 0, none⟩) N N, .slice (some ⟨g, 0, none⟩) lp o]).Pairwise fun u v => vG u ≠ vG v := by
      rw [List.pairwise_append]
      refine ⟨?_, ?_, ?_⟩
      · rw [List.pairwise_iff_getElem]
        intro i j hi hj hij e
        have h1 := (heachU us[i] (List.getElem_mem hi)).own
        have h2 := (heachU us[j] (List.getElem_mem hj)).own
        rw [← e] at h2
        exact HPR.out.2.2.2 i j us[i] us[j] _ (by omega) (List.getElem?_eq_getElem hi) (List.getElem?_eq_getElem hj) h1 h2
      · simp only [List.pairwise_cons, List.mem_cons, List.not_mem_nil, or_false]
        refine ⟨?_, ?_, ?_, ?_⟩
        · rintro a (rfl | rfl | rfl) <;> (rw [vG_mk, vG_mk]; omega)
        · rintro a (rfl | rfl) <;> (rw [vG_mk, vG_mk]; omega)
        · rintro a rfl; rw [vG_mk, vG_mk]; omega
        · exact ⟨(by rintro a h; cases h), List.Pairwise.nil⟩
      · intro u hu x hx
        have h1 := (heachU u hu).at_.1
        simp only [List.mem_cons, List.not_mem_nil, or_false] at hx
        rcases hx with rfl | rfl | rfl | rfl
        · rw [vG_mk]; omega
        · rw [vG_mk]; omega
        · rw [vG_mk]; omega
        · rw [vG_mk]; omega
    have HAP := Lib.hid (apart_rows w6 w4.heap.size wc.heap.size (k2 + 4) cap6 g6 _ (by omega) hrow6 hEach hPair)
    have HB6 : Hid (Below wc.heap.size wc w6) := (HB5.out.trans (hgz.mono (by have := HB5.out.size; omega))).grown hgr6 (by have := HB5.out.size; simp only [World.size_alloc]; omega) (fun m e => by
      have h1 := HROW.out.lt m e
      omega)
    clear hEach hPair hrow6 hgr6 hor6 hlt6 hgz hfour heachU
    refine HAP.out.mono ?_
    rintro e w7 ⟨rfl, hb7⟩
    have HB7 := Lib.hid (HB6.out.trans hb7)
    obtain ⟨p0, p1⟩ := HP.out w7 HB7.out
    obtain ⟨j0, j1⟩ := HJ.out w7 (next_below HBC.out HB7.out)
    clear hb7
    go_wp2_with fail
    refine (sameG_any B A c' c n n N N E E w7 (HRD.out.below HB7.out) (HRC.out.below HB7.out) (by omega) (by omega) HN.out.symm HN.out.symm).mono ?_
    rintro e w8 ⟨rfl, hb8⟩
    rw [show ((N : Int) == (N : Int) && decide (E = E)) = true by simp]
    clear p0 p1 j0 j1
    go_wp2_with fail
    refine (awake_any w8).mono ?_
    rintro e w9 ⟨rfl, hb9⟩
    go_wp2_with fail
    go_ret
    exact ⟨rfl, HB.out.trans ((next_below (next_below (next_below HBC.out HB7.out) hb8) hb9).mono (Nat.le_of_lt hWS))⟩
theorem own_walk (v0 : Value) (a : Int) (w : World) (h0 : OkGraph w v0) (_ : -9223372036854775808 ≤ a ∧ a < 9223372036854775808) :
    Calls Try.prog 9 #[v0, .int .i64 a] w fun e w' => e = .returned (.bool true) ∧ Below w.heap.size w w' := by
  obtain ⟨N, A, c, E, rfl, _, _, hr, _, _, hc⟩ := h0
  cases ht : thereB N E [a] with
  | false => exact own_no A c N a E w hr ht
  | true =>
    obtain ⟨hv, hg, hN⟩ := thereB_yes ht
    have h1 := hv a (by simp)
    obtain ⟨a, rfl⟩ := Int.eq_ofNat_of_zero_le h1.1
    obtain ⟨N, rfl⟩ := Int.eq_ofNat_of_zero_le (show 0 ≤ N by omega)
    exact own_yes A c N a E w hr hc hg (by omega) (by omega) ht
end Go.Proofs.Ytpkiogcedfmodaa
