/- The law PermTells (layer 3). -/
import Derived.Test.YtgldlanfbkgfjaaM8
import Derived.Test.YtgldlanfbkgfjaaPA
import Derived.Deep.RegionHeld
namespace Go.Proofs.Ytgldlanfbkgfjaa
open Go.RowKit

set_option maxRecDepth 100000 in
set_option maxHeartbeats 16000000 in
theorem ptells_big (A A1 A2 : Option Addr) (c c1 c2 n m l : Nat) (N k : Int) (w : World) (h : 12 < n ∨ 12 < m ∨ 12 < N ∨ 80 < l) :
    Calls Try.prog 3 #[.slice A n c, .slice A1 m c1, .int .i64 k, .agg #[.int .i64 N, .slice A2 l c2]] w fun e w' => e = .returned (.bool true) ∧ Below w.heap.size w w' := by
  obtain ⟨W, hW⟩ : ∃ W, W = w.alloc (.cells #[.int .i64 N, .slice A2 l c2] 25) := ⟨_, rfl⟩
  have hbw : Below w.heap.size w W := by rw [hW]; exact (Below.refl _ _).alloc (Nat.le_refl _) _
  obtain ⟨j0, j1, _, _⟩ := cells_two (w := W) (by rw [hW]; exact heap_alloc_new w _)
  have HB := Lib.hid hbw
  have HW := Lib.hid hW
  rw [hW] at j0 j1
  clear hbw hW
  by_cases h1 : 12 < n
  · have d1 : decide ((12 : Int) < (n : Int)) = true := by simp; omega
    have d1' : decide (12 < n) = true := by simp; omega
    clear h
    go_enter Try.func3, Try.ntmps3
    go_wp2_with fail
    rw [← HW.out]
    refine (awake_any W).mono ?_
    rintro e w2 ⟨rfl, hb2⟩
    go_wp2_with fail
    go_ret
    exact ⟨rfl, next_below HB.out hb2⟩
  · by_cases h2 : 12 < m
    · have d1 : decide ((12 : Int) < (n : Int)) = false := by simp; omega
      have d1' : decide (12 < n) = false := by simp; omega
      have d2 : decide ((12 : Int) < (m : Int)) = true := by simp; omega
      have d2' : decide (12 < m) = true := by simp; omega
      clear h
      go_enter Try.func3, Try.ntmps3
      go_wp2_with fail
      rw [← HW.out]
      refine (awake_any W).mono ?_
      rintro e w2 ⟨rfl, hb2⟩
      go_wp2_with fail
      go_ret
      exact ⟨rfl, next_below HB.out hb2⟩
    · by_cases h3 : 12 < N
      · have d1 : decide ((12 : Int) < (n : Int)) = false := by simp; omega
        have d1' : decide (12 < n) = false := by simp; omega
        have d2 : decide ((12 : Int) < (m : Int)) = false := by simp; omega
        have d2' : decide (12 < m) = false := by simp; omega
        have d3 : decide (12 < N) = true := by simp; omega
        clear h
        go_enter Try.func3, Try.ntmps3
        go_wp2_with fail
        rw [← HW.out]
        refine (awake_any W).mono ?_
        rintro e w2 ⟨rfl, hb2⟩
        go_wp2_with fail
        go_ret
        exact ⟨rfl, next_below HB.out hb2⟩
      · have d1 : decide ((12 : Int) < (n : Int)) = false := by simp; omega
        have d1' : decide (12 < n) = false := by simp; omega
        have d2 : decide ((12 : Int) < (m : Int)) = false := by simp; omega
        have d2' : decide (12 < m) = false := by simp; omega
        have d3 : decide (12 < N) = false := by simp; omega
        have d4 : decide ((80 : Int) < (l : Int)) = true := by simp; omega
        have d4' : decide (80 < l) = true := by simp; omega
        clear h
        go_enter Try.func3, Try.ntmps3
        go_wp2_with fail
        rw [← HW.out]
        refine (awake_any W).mono ?_
        rintro e w2 ⟨rfl, hb2⟩
        go_wp2_with fail
        go_ret
        exact ⟨rfl, next_below HB.out hb2⟩
set_option maxRecDepth 100000 in
set_option maxHeartbeats 64000000 in
theorem ptells_all (A A1 A2 : Option Addr) (c c1 c2 n m l : Nat) (N k : Int) (p q : List Int) (E : List (Int × Int)) (w : World) (r0 : RdZ w A p) (r1 : RdZ w A1 q) (r2 : RdP w A2 E) (hn : n = p.length) (hm : m = q.length) (hl : l = E.length) (hc : A = none → c = 0) (hc1 : A1 = none → c1 = 0) (hc2 : A2 = none → c2 = 0)
    (hn1 : n ≤ 12) (hm1 : m ≤ 12) (hN1 : N ≤ 12) (hl1 : l ≤ 80) (hk0 : -9223372036854775808 ≤ k) (hk1 : k ≤ 9223372036854775807) :
    Calls Try.prog 3 #[.slice A n c, .slice A1 m c1, .int .i64 k, .agg #[.int .i64 N, .slice A2 l c2]] w fun e w' => e = .returned (.bool true) ∧ Below w.heap.size w w' := by
  obtain ⟨W, hW⟩ : ∃ W, W = w.alloc (.cells #[.int .i64 N, .slice A2 l c2] 25) := ⟨_, rfl⟩
  have hbw : Below w.heap.size w W := by rw [hW]; exact (Below.refl _ _).alloc (Nat.le_refl _) _
  have BG : Hid (BoxZ W w.heap.size N A2 l c2) := by show _ = _; rw [hW]; exact heap_alloc_new w _
  obtain ⟨j0, j1⟩ := BG.out.two
  have HB := Lib.hid hbw
  have HW := Lib.hid hW
  have R0 := Lib.hid (r0.below hbw)
  have R1 := Lib.hid (r1.below hbw)
  have RG := Lib.hid (r2.below hbw)
  have HN := Lib.hid hn
  have HM := Lib.hid hm
  have HL := Lib.hid hl
  have HC := Lib.hid hc
  have HC1 := Lib.hid hc1
  have HC2 := Lib.hid hc2
  rw [hW] at j0 j1
  have d1 : decide ((12 : Int) < (n : Int)) = false := by simp; omega
  have d1' : decide (12 < n) = false := by simp; omega
  have d2 : decide ((12 : Int) < (m : Int)) = false := by simp; omega
  have d2' : decide (12 < m) = false := by simp; omega
  have d3 : decide (12 < N) = false := by simp; omega
  have d4 : decide ((80 : Int) < (l : Int)) = false := by simp; omega
  have d4' : decide (80 < l) = false := by simp; omega
  obtain ⟨La, hLa⟩ : ∃ La, lsA (okC p q) (iz (compP (tn p) (tn q))) = La := ⟨_, rfl⟩
  obtain ⟨ea, hea⟩ : ∃ ea, erA (okC p q) = ea := ⟨_, rfl⟩
  obtain ⟨Lb, hLb⟩ : ∃ Lb, lsA (rightP p) (iz (invP (tn p))) = Lb := ⟨_, rfl⟩
  obtain ⟨r, hr⟩ : ∃ r, rightP p = r := ⟨_, rfl⟩
  obtain ⟨er, her⟩ : ∃ er, erA (rightP p) = er := ⟨_, rfl⟩
  obtain ⟨Li, hLi⟩ : ∃ Li, idL k = Li := ⟨_, rfl⟩
  obtain ⟨Lp, hLp⟩ : ∃ Lp, lsA (rightP p) (iz (powP n (tn p) k)) = Lp := ⟨_, rfl⟩
  obtain ⟨Lc, hLc⟩ : ∃ Lc, cycA n p = Lc := ⟨_, rfl⟩
  obtain ⟨vo, hvo⟩ : ∃ vo, ordA n p = vo := ⟨_, rfl⟩
  obtain ⟨gN, hgN⟩ : ∃ gN, gNA N E p = gN := ⟨_, rfl⟩
  obtain ⟨gF, hgF⟩ : ∃ gF, gFA N E p = gF := ⟨_, rfl⟩
  obtain ⟨ge, hge⟩ : ∃ ge, erG N E p = ge := ⟨_, rfl⟩
  have SA : Hid (La.length ≤ 1000) := by show _ ≤ _; rw [← hLa]; exact lsA_small (Nat.le_trans (comp_small p _) (by omega))
  have SB : Hid (Lb.length ≤ 1000) := by show _ ≤ _; rw [← hLb]; exact lsA_small (Nat.le_trans (inv_small p) (by omega))
  have SI : Hid (Li.length ≤ 1000) := by show _ ≤ _; rw [← hLi]; exact Nat.le_trans (idL_small k) (by omega)
  have SP : Hid (Lp.length ≤ 1000) := by show _ ≤ _; rw [← hLp]; exact lsA_small (Nat.le_trans (pow_small n _ k) (by omega))
  have SC : Hid (Lc.length ≤ 1000 ∧ ∀ l ∈ Lc, l.length ≤ 1000000) := by
    rw [← hLc]
    have h := cycA_small hn (by omega : n ≤ 200)
    exact ⟨by have := h.1; omega, h.2⟩
  have SG : Hid (gF.length ≤ 1000000) := by show _ ≤ _; rw [← hgF]; exact gFA_small (by omega)
  have HLa := Lib.hid hLa
  have Hea := Lib.hid hea
  have HLb := Lib.hid hLb
  have HR := Lib.hid hr
  have Her := Lib.hid her
  have HLi := Lib.hid hLi
  have HLp := Lib.hid hLp
  have HLc := Lib.hid hLc
  have Hvo := Lib.hid hvo
  have HgN := Lib.hid hgN
  have HgF := Lib.hid hgF
  have Hge := Lib.hid hge
  have SE : Hid (E.length ≤ 1000000) := by show _ ≤ _; omega
  clear r0 r1 r2 hn hm hl hc hc1 hc2 hbw hW hLa hea hLb hr her hLi hLp hLc hvo hgN hgF hge
  go_enter Try.func3, Try.ntmps3
  go_wp2_with fail
  rw [← HW.out]
  clear j0 j1
  refine (copyZ_any A c n p W R0.out HN.out (by omega) HC.out).mono ?_
  rintro e w1 ⟨B1, b1, rfl, h1, _, _, hb⟩
  have R0 := Lib.hid (R0.out.below hb)
  have R1 := Lib.hid (R1.out.below hb)
  have RG := Lib.hid (RG.out.below hb)
  have BG := Lib.hid (BG.out.below hb)
  have HB := Lib.hid (next_below HB.out hb)
  have RI := Lib.hid h1
  clear h1 hb
  go_wp2_with fail
  refine (copyZ_any A1 c1 m q w1 R1.out HM.out (by omega) HC1.out).mono ?_
  rintro e w2 ⟨B2, b2, rfl, h1, _, _, hb⟩
  have R0 := Lib.hid (R0.out.below hb)
  have R1 := Lib.hid (R1.out.below hb)
  have RG := Lib.hid (RG.out.below hb)
  have BG := Lib.hid (BG.out.below hb)
  have RI := Lib.hid (RI.out.below hb)
  have HB := Lib.hid (next_below HB.out hb)
  have RO := Lib.hid h1
  clear h1 hb
  obtain ⟨j0, j1⟩ := BG.out.two
  go_upto_region 4 with fail
  have HR0 : Hid (∀ w', Below w2.heap.size w2 w' → w'.cell? ⟨w.heap.size, 0, none⟩ = some (.int .i64 N) ∧ w'.cell? ⟨w.heap.size, 1, none⟩ = some (.slice A2 l c2) ∧ Below w2.heap.size w2 w') := fun w' hb => by
    obtain ⟨e0, e1⟩ := (BG.out.below hb).two
    exact ⟨e0, e1, hb⟩
  clear j0 j1
  go_cut [11] (fun s11 wx => ∃ (pb c' : Nat) (B : Option Addr), s11 = .pointer (some ⟨pb, 0, none⟩) ∧ wx.heap[pb]? = some (.cells #[.int .i64 N, .slice B l c'] 25 (0, 0)) ∧ RdP wx B E ∧ w2.heap.size ≤ pb ∧ Below w2.heap.size w2 wx)
  case first =>
    have HCP : Hid (∀ w', Below w2.heap.size w2 w' → Calls Try.prog 11 #[.slice A2 l c2] w' fun e w'' => ∃ (B : Option Addr) (c' : Nat), e = .returned (.slice B l c') ∧ RdP w'' B E ∧ (∀ ad, B = some ad → w'.heap.size ≤ ad.block) ∧ (B = none → c' = 0) ∧ Below w'.heap.size w' w'') := fun w' hb =>
      copyP_any A2 c2 l E w' (RG.out.below hb) HL.out (by omega) HC2.out
    have hD := HR0.out w2.drew (Below.refl _ _).drew
    go_region_held3 (fun w' => w'.cell? ⟨w.heap.size, 0, none⟩ = some (.int .i64 N) ∧ w'.cell? ⟨w.heap.size, 1, none⟩ = some (.slice A2 l c2) ∧ Below w2.heap.size w2 w')
      (first | exact hS | exact hD | exact HR0.out _ (((Below.refl _ _).alloc (Nat.le_refl _) _).drew) | exact HR0.out _ ((‹_ ∧ _ ∧ Below w2.heap.size w2 _›).2.2.alloc (‹_ ∧ _ ∧ Below w2.heap.size w2 _›).2.2.size _) | exact HR0.out _ (((‹_ ∧ _ ∧ Below w2.heap.size w2 _›).2.2.setCell (Nat.le_refl _) _).setCell (Nat.le_refl _) _))
      (first | (go_at_call 11; refine (HCP.out _ (‹_ ∧ _ ∧ Below w2.heap.size w2 _›).2.2).mono ?_; rintro e wn ⟨B, c', rfl, hrd, hbl, hcn, hb⟩; have hS := HR0.out wn (next_below (‹_ ∧ _ ∧ Below w2.heap.size w2 _›).2.2 hb); obtain ⟨hc, hf⟩ := old_cells hb))
    all_goals go_wp2_with fail
    all_goals go_meet
    · exact ⟨wn.heap.size, c', B, rfl, heap_alloc_new wn _, hrd.below ((Below.refl _ _).alloc (Nat.le_refl _) _), hS.2.2.size, hS.2.2.alloc hS.2.2.size _⟩
    · have hz : wn.heap[w2.heap.size]? = some (Obj.cells #[Value.int IntKind.i64 0, Value.slice none 0 0] 25 (0, 0)) := (hb.block w2.heap.size (by show w2.heap.size < (w2.alloc _).heap.size; simp only [World.size_alloc]; omega)).trans (heap_alloc_new w2 _)
      have hbl2 : ∀ ad, B = some ad → ad.block ≠ w2.heap.size := fun ad e => by
        have := hbl ad e
        simp only [World.size_drew, World.size_alloc] at this
        omega
      refine ⟨w2.heap.size, c', B, rfl, ?_, (hrd.far hbl2 _).far hbl2 _, Nat.le_refl _, (hS.2.2.setCell (Nat.le_refl _) _).setCell (Nat.le_refl _) _⟩
      show _ = _
      simp [World.setCell, Array.getElem?_modify, hz]
  case rest =>
    obtain ⟨pb, c3, B3, rfl, hp, hrd, hpl, hb⟩ := hcut
    have R0 := Lib.hid (R0.out.below hb)
    have R1 := Lib.hid (R1.out.below hb)
    have RG := Lib.hid (RG.out.below hb)
    have BG := Lib.hid (BG.out.below hb)
    have RI := Lib.hid (RI.out.below hb)
    have RO := Lib.hid (RO.out.below hb)
    have HB := Lib.hid (next_below HB.out hb)
    have BH : Hid (BoxZ wc pb N B3 l c3) := hp
    have RH := Lib.hid hrd
    clear hb hp hrd hpl HR0
    go_wp2_with fail
    refine (compT (some ⟨B1, 0, none⟩) (some ⟨B2, 0, none⟩) b1 b2 n m p q wc RI.out RO.out HN.out HM.out (by omega) (by omega)).mono ?_
    rintro e w3 ⟨⟨Ka, ka, rfl, h1⟩, hb⟩
    have R0 := Lib.hid (R0.out.below hb)
    have R1 := Lib.hid (R1.out.below hb)
    have RG := Lib.hid (RG.out.below hb)
    have BG := Lib.hid (BG.out.below hb)
    have RI := Lib.hid (RI.out.below hb)
    have RO := Lib.hid (RO.out.below hb)
    have BH := Lib.hid (BH.out.below hb)
    have RH := Lib.hid (RH.out.below hb)
    have HB := Lib.hid (next_below HB.out hb)
    rw [HLa.out] at h1
    rw [HLa.out, Hea.out]
    have Xa := Lib.hid h1
    clear h1 hb
    go_wp2_with fail
    refine (refCompT A A1 c c1 n m p q w3 R0.out R1.out HN.out HM.out (by omega) (by omega)).mono ?_
    rintro e w4 ⟨⟨Kb, kb, rfl, h1⟩, hb⟩
    have R0 := Lib.hid (R0.out.below hb)
    have R1 := Lib.hid (R1.out.below hb)
    have RG := Lib.hid (RG.out.below hb)
    have BG := Lib.hid (BG.out.below hb)
    have RI := Lib.hid (RI.out.below hb)
    have RO := Lib.hid (RO.out.below hb)
    have BH := Lib.hid (BH.out.below hb)
    have RH := Lib.hid (RH.out.below hb)
    have Xa := Lib.hid (Xa.out.below hb)
    have HB := Lib.hid (next_below HB.out hb)
    rw [HLa.out] at h1
    rw [HLa.out, Hea.out]
    have Xb := Lib.hid h1
    clear h1 hb
    go_wp2_with fail
    refine (invT (some ⟨B1, 0, none⟩) b1 n p w4 RI.out HN.out (by omega)).mono ?_
    rintro e w5 ⟨⟨Kc, kc, rfl, h1⟩, hb⟩
    have R0 := Lib.hid (R0.out.below hb)
    have R1 := Lib.hid (R1.out.below hb)
    have RG := Lib.hid (RG.out.below hb)
    have BG := Lib.hid (BG.out.below hb)
    have RI := Lib.hid (RI.out.below hb)
    have RO := Lib.hid (RO.out.below hb)
    have BH := Lib.hid (BH.out.below hb)
    have RH := Lib.hid (RH.out.below hb)
    have Xa := Lib.hid (Xa.out.below hb)
    have Xb := Lib.hid (Xb.out.below hb)
    have HB := Lib.hid (next_below HB.out hb)
    rw [HLb.out] at h1
    rw [HLb.out, Her.out]
    have Xc := Lib.hid h1
    clear h1 hb
    go_wp2_with fail
    refine (refInvT A c n p w5 R0.out HN.out (by omega)).mono ?_
    rintro e w6 ⟨⟨Kd, kd, rfl, h1⟩, hb⟩
    have R0 := Lib.hid (R0.out.below hb)
    have R1 := Lib.hid (R1.out.below hb)
    have RG := Lib.hid (RG.out.below hb)
    have BG := Lib.hid (BG.out.below hb)
    have RI := Lib.hid (RI.out.below hb)
    have RO := Lib.hid (RO.out.below hb)
    have BH := Lib.hid (BH.out.below hb)
    have RH := Lib.hid (RH.out.below hb)
    have Xa := Lib.hid (Xa.out.below hb)
    have Xb := Lib.hid (Xb.out.below hb)
    have Xc := Lib.hid (Xc.out.below hb)
    have HB := Lib.hid (next_below HB.out hb)
    rw [HLb.out] at h1
    rw [HLb.out, Her.out]
    have Xd := Lib.hid h1
    clear h1 hb
    go_wp2_with fail
    refine (rightP_any (some ⟨B1, 0, none⟩) b1 n p w6 RI.out HN.out (by omega)).mono ?_
    rintro e w7 ⟨rfl, hb⟩
    rw [HR.out]
    have R0 := Lib.hid (R0.out.below hb)
    have R1 := Lib.hid (R1.out.below hb)
    have RG := Lib.hid (RG.out.below hb)
    have BG := Lib.hid (BG.out.below hb)
    have RI := Lib.hid (RI.out.below hb)
    have RO := Lib.hid (RO.out.below hb)
    have BH := Lib.hid (BH.out.below hb)
    have RH := Lib.hid (RH.out.below hb)
    have Xa := Lib.hid (Xa.out.below hb)
    have Xb := Lib.hid (Xb.out.below hb)
    have Xc := Lib.hid (Xc.out.below hb)
    have Xd := Lib.hid (Xd.out.below hb)
    have HB := Lib.hid (next_below HB.out hb)
    clear  hb
    go_wp2_with fail
    refine (refRt_any A c n p w7 R0.out HN.out (by omega)).mono ?_
    rintro e w8 ⟨rfl, hb⟩
    rw [HR.out]
    have R0 := Lib.hid (R0.out.below hb)
    have R1 := Lib.hid (R1.out.below hb)
    have RG := Lib.hid (RG.out.below hb)
    have BG := Lib.hid (BG.out.below hb)
    have RI := Lib.hid (RI.out.below hb)
    have RO := Lib.hid (RO.out.below hb)
    have BH := Lib.hid (BH.out.below hb)
    have RH := Lib.hid (RH.out.below hb)
    have Xa := Lib.hid (Xa.out.below hb)
    have Xb := Lib.hid (Xb.out.below hb)
    have Xc := Lib.hid (Xc.out.below hb)
    have Xd := Lib.hid (Xd.out.below hb)
    have HB := Lib.hid (next_below HB.out hb)
    clear  hb
    go_wp2_with fail
    refine (sameZ_self Ka Kb ka kb La.length La.length La w8 Xa.out Xb.out SA.out rfl rfl).mono ?_
    rintro e w9 ⟨rfl, hb⟩
    have R0 := Lib.hid (R0.out.below hb)
    have R1 := Lib.hid (R1.out.below hb)
    have RG := Lib.hid (RG.out.below hb)
    have BG := Lib.hid (BG.out.below hb)
    have RI := Lib.hid (RI.out.below hb)
    have RO := Lib.hid (RO.out.below hb)
    have BH := Lib.hid (BH.out.below hb)
    have RH := Lib.hid (RH.out.below hb)
    have Xa := Lib.hid (Xa.out.below hb)
    have Xb := Lib.hid (Xb.out.below hb)
    have Xc := Lib.hid (Xc.out.below hb)
    have Xd := Lib.hid (Xd.out.below hb)
    have HB := Lib.hid (next_below HB.out hb)
    clear  hb
    clear Xa Xb
    go_wp2_with fail
    refine (sameZ_self Kc Kd kc kd Lb.length Lb.length Lb w9 Xc.out Xd.out SB.out rfl rfl).mono ?_
    rintro e w10 ⟨rfl, hb⟩
    have R0 := Lib.hid (R0.out.below hb)
    have R1 := Lib.hid (R1.out.below hb)
    have RG := Lib.hid (RG.out.below hb)
    have BG := Lib.hid (BG.out.below hb)
    have RI := Lib.hid (RI.out.below hb)
    have RO := Lib.hid (RO.out.below hb)
    have BH := Lib.hid (BH.out.below hb)
    have RH := Lib.hid (RH.out.below hb)
    have Xc := Lib.hid (Xc.out.below hb)
    have Xd := Lib.hid (Xd.out.below hb)
    have HB := Lib.hid (next_below HB.out hb)
    clear  hb
    clear Xc Xd
    go_wp2_with fail
    refine (identT k w10).mono ?_
    rintro e w11 ⟨Ka, ka, rfl, h1, hb⟩
    have R0 := Lib.hid (R0.out.below hb)
    have R1 := Lib.hid (R1.out.below hb)
    have RG := Lib.hid (RG.out.below hb)
    have BG := Lib.hid (BG.out.below hb)
    have RI := Lib.hid (RI.out.below hb)
    have RO := Lib.hid (RO.out.below hb)
    have BH := Lib.hid (BH.out.below hb)
    have RH := Lib.hid (RH.out.below hb)
    have HB := Lib.hid (next_below HB.out hb)
    have Xa := Lib.hid h1
    rw [HLi.out] at Xa ⊢
    clear h1 hb
    go_wp2_with fail
    refine (refId_any k w11).mono ?_
    rintro e w12 ⟨Kb, kb, rfl, h1, hb⟩
    have R0 := Lib.hid (R0.out.below hb)
    have R1 := Lib.hid (R1.out.below hb)
    have RG := Lib.hid (RG.out.below hb)
    have BG := Lib.hid (BG.out.below hb)
    have RI := Lib.hid (RI.out.below hb)
    have RO := Lib.hid (RO.out.below hb)
    have BH := Lib.hid (BH.out.below hb)
    have RH := Lib.hid (RH.out.below hb)
    have Xa := Lib.hid (Xa.out.below hb)
    have HB := Lib.hid (next_below HB.out hb)
    have Xb := Lib.hid h1
    rw [HLi.out] at Xb ⊢
    clear h1 hb
    go_wp2_with fail
    refine (sameZ_self Ka Kb ka kb Li.length Li.length Li w12 Xa.out Xb.out SI.out rfl rfl).mono ?_
    rintro e w13 ⟨rfl, hb⟩
    have R0 := Lib.hid (R0.out.below hb)
    have R1 := Lib.hid (R1.out.below hb)
    have RG := Lib.hid (RG.out.below hb)
    have BG := Lib.hid (BG.out.below hb)
    have RI := Lib.hid (RI.out.below hb)
    have RO := Lib.hid (RO.out.below hb)
    have BH := Lib.hid (BH.out.below hb)
    have RH := Lib.hid (RH.out.below hb)
    have Xa := Lib.hid (Xa.out.below hb)
    have Xb := Lib.hid (Xb.out.below hb)
    have HB := Lib.hid (next_below HB.out hb)
    clear  hb
    clear Xa Xb
    go_wp2_with fail
    refine (powT (some ⟨B1, 0, none⟩) b1 n p k w13 RI.out HN.out (by omega) hk0 hk1).mono ?_
    rintro e w14 ⟨⟨Ka, ka, rfl, h1⟩, hb⟩
    have R0 := Lib.hid (R0.out.below hb)
    have R1 := Lib.hid (R1.out.below hb)
    have RG := Lib.hid (RG.out.below hb)
    have BG := Lib.hid (BG.out.below hb)
    have RI := Lib.hid (RI.out.below hb)
    have RO := Lib.hid (RO.out.below hb)
    have BH := Lib.hid (BH.out.below hb)
    have RH := Lib.hid (RH.out.below hb)
    have HB := Lib.hid (next_below HB.out hb)
    rw [HLp.out] at h1
    rw [HLp.out, Her.out]
    have Xa := Lib.hid h1
    clear h1 hb
    go_wp2_with fail
    refine (refPowT A c n p k w14 R0.out HN.out (by omega) hk0 hk1).mono ?_
    rintro e w15 ⟨⟨Kb, kb, rfl, h1⟩, hb⟩
    have R0 := Lib.hid (R0.out.below hb)
    have R1 := Lib.hid (R1.out.below hb)
    have RG := Lib.hid (RG.out.below hb)
    have BG := Lib.hid (BG.out.below hb)
    have RI := Lib.hid (RI.out.below hb)
    have RO := Lib.hid (RO.out.below hb)
    have BH := Lib.hid (BH.out.below hb)
    have RH := Lib.hid (RH.out.below hb)
    have Xa := Lib.hid (Xa.out.below hb)
    have HB := Lib.hid (next_below HB.out hb)
    rw [HLp.out] at h1
    rw [HLp.out, Her.out]
    have Xb := Lib.hid h1
    clear h1 hb
    go_wp2_with fail
    refine (cyclesT (some ⟨B1, 0, none⟩) b1 n p w15 RI.out HN.out (by omega)).mono ?_
    rintro e w16 ⟨⟨Kc, kc, rfl, h1⟩, hb⟩
    have R0 := Lib.hid (R0.out.below hb)
    have R1 := Lib.hid (R1.out.below hb)
    have RG := Lib.hid (RG.out.below hb)
    have BG := Lib.hid (BG.out.below hb)
    have RI := Lib.hid (RI.out.below hb)
    have RO := Lib.hid (RO.out.below hb)
    have BH := Lib.hid (BH.out.below hb)
    have RH := Lib.hid (RH.out.below hb)
    have Xa := Lib.hid (Xa.out.below hb)
    have Xb := Lib.hid (Xb.out.below hb)
    have HB := Lib.hid (next_below HB.out hb)
    rw [HLc.out] at h1
    rw [HLc.out, Her.out]
    have Xc := Lib.hid h1
    clear h1 hb
    go_wp2_with fail
    refine (refCycT A c n p w16 R0.out HN.out (by omega)).mono ?_
    rintro e w17 ⟨⟨Kd, kd, rfl, h1⟩, hb⟩
    have R0 := Lib.hid (R0.out.below hb)
    have R1 := Lib.hid (R1.out.below hb)
    have RG := Lib.hid (RG.out.below hb)
    have BG := Lib.hid (BG.out.below hb)
    have RI := Lib.hid (RI.out.below hb)
    have RO := Lib.hid (RO.out.below hb)
    have BH := Lib.hid (BH.out.below hb)
    have RH := Lib.hid (RH.out.below hb)
    have Xa := Lib.hid (Xa.out.below hb)
    have Xb := Lib.hid (Xb.out.below hb)
    have Xc := Lib.hid (Xc.out.below hb)
    have HB := Lib.hid (next_below HB.out hb)
    rw [HLc.out] at h1
    rw [HLc.out, Her.out]
    have Xd := Lib.hid h1
    clear h1 hb
    go_wp2_with fail
    refine (sameZ_self Ka Kb ka kb Lp.length Lp.length Lp w17 Xa.out Xb.out SP.out rfl rfl).mono ?_
    rintro e w18 ⟨rfl, hb⟩
    have R0 := Lib.hid (R0.out.below hb)
    have R1 := Lib.hid (R1.out.below hb)
    have RG := Lib.hid (RG.out.below hb)
    have BG := Lib.hid (BG.out.below hb)
    have RI := Lib.hid (RI.out.below hb)
    have RO := Lib.hid (RO.out.below hb)
    have BH := Lib.hid (BH.out.below hb)
    have RH := Lib.hid (RH.out.below hb)
    have Xa := Lib.hid (Xa.out.below hb)
    have Xb := Lib.hid (Xb.out.below hb)
    have Xc := Lib.hid (Xc.out.below hb)
    have Xd := Lib.hid (Xd.out.below hb)
    have HB := Lib.hid (next_below HB.out hb)
    clear  hb
    clear Xa Xb
    go_wp2_with fail
    refine (sameR_self Kc Kd kc kd Lc.length Lc.length Lc w18 Xc.out Xd.out SC.out.2 SC.out.1 rfl rfl).mono ?_
    rintro e w19 ⟨rfl, hb⟩
    have R0 := Lib.hid (R0.out.below hb)
    have R1 := Lib.hid (R1.out.below hb)
    have RG := Lib.hid (RG.out.below hb)
    have BG := Lib.hid (BG.out.below hb)
    have RI := Lib.hid (RI.out.below hb)
    have RO := Lib.hid (RO.out.below hb)
    have BH := Lib.hid (BH.out.below hb)
    have RH := Lib.hid (RH.out.below hb)
    have Xc := Lib.hid (Xc.out.below hb)
    have Xd := Lib.hid (Xd.out.below hb)
    have HB := Lib.hid (next_below HB.out hb)
    clear  hb
    clear Xc Xd
    go_wp2_with fail
    refine (orderT (some ⟨B1, 0, none⟩) b1 n p w19 RI.out HN.out (by omega)).mono ?_
    rintro e w20 ⟨rfl, hb⟩
    rw [Hvo.out, Her.out]
    have R0 := Lib.hid (R0.out.below hb)
    have R1 := Lib.hid (R1.out.below hb)
    have RG := Lib.hid (RG.out.below hb)
    have BG := Lib.hid (BG.out.below hb)
    have RI := Lib.hid (RI.out.below hb)
    have RO := Lib.hid (RO.out.below hb)
    have BH := Lib.hid (BH.out.below hb)
    have RH := Lib.hid (RH.out.below hb)
    have HB := Lib.hid (next_below HB.out hb)
    clear  hb
    go_wp2_with fail
    refine (refOrdT A c n p w20 R0.out HN.out (by omega)).mono ?_
    rintro e w21 ⟨rfl, hb⟩
    rw [Hvo.out, Her.out]
    have R0 := Lib.hid (R0.out.below hb)
    have R1 := Lib.hid (R1.out.below hb)
    have RG := Lib.hid (RG.out.below hb)
    have BG := Lib.hid (BG.out.below hb)
    have RI := Lib.hid (RI.out.below hb)
    have RO := Lib.hid (RO.out.below hb)
    have BH := Lib.hid (BH.out.below hb)
    have RH := Lib.hid (RH.out.below hb)
    have HB := Lib.hid (next_below HB.out hb)
    clear  hb
    obtain ⟨jBH0, jBH1⟩ := BH.out.two
    obtain ⟨jBG0, jBG1⟩ := BG.out.two
    go_wp2_with fail
    refine (applyT B3 (some ⟨B1, 0, none⟩) c3 b1 l n N E p w21 RH.out RI.out HL.out HN.out (by omega) (by omega)).mono ?_
    rintro e w22 ⟨⟨Kx, kx, rfl, h1⟩, hb⟩
    have R0 := Lib.hid (R0.out.below hb)
    have R1 := Lib.hid (R1.out.below hb)
    have RG := Lib.hid (RG.out.below hb)
    have BG := Lib.hid (BG.out.below hb)
    have RI := Lib.hid (RI.out.below hb)
    have RO := Lib.hid (RO.out.below hb)
    have BH := Lib.hid (BH.out.below hb)
    have RH := Lib.hid (RH.out.below hb)
    have HB := Lib.hid (next_below HB.out hb)
    rw [HgF.out] at h1
    rw [HgF.out, HgN.out, Hge.out]
    have Xx := Lib.hid h1
    clear h1 hb
    clear jBH0 jBH1 jBG0 jBG1
    obtain ⟨vx, hw⟩ : ∃ vx, vx = w22.alloc (.cells #[.int .i64 gN, .slice Kx gF.length kx] 25) := ⟨_, rfl⟩
    have hb : Below w22.heap.size w22 vx := by rw [hw]; exact (Below.refl _ _).alloc (Nat.le_refl _) _
    have BX : Hid (BoxZ vx w22.heap.size gN Kx gF.length kx) := by show _ = _; rw [hw]; exact heap_alloc_new w22 _
    have HWx := Lib.hid hw
    have R0 := Lib.hid (R0.out.below hb)
    have R1 := Lib.hid (R1.out.below hb)
    have RG := Lib.hid (RG.out.below hb)
    have BG := Lib.hid (BG.out.below hb)
    have RI := Lib.hid (RI.out.below hb)
    have RO := Lib.hid (RO.out.below hb)
    have BH := Lib.hid (BH.out.below hb)
    have RH := Lib.hid (RH.out.below hb)
    have Xx := Lib.hid (Xx.out.below hb)
    have HB := Lib.hid (next_below HB.out hb)
    clear hb hw
    obtain ⟨jBH0, jBH1⟩ := BH.out.two
    obtain ⟨jBG0, jBG1⟩ := BG.out.two
    rw [HWx.out] at jBH0 jBH1 jBG0 jBG1
    go_wp2_with fail
    rw [← HWx.out]
    clear jBH0 jBH1 jBG0 jBG1
    refine (refAppT A2 A c2 c l n N E p vx RG.out R0.out HL.out HN.out (by omega) (by omega)).mono ?_
    rintro e w23 ⟨⟨Ky, ky, rfl, h1⟩, hb⟩
    have R0 := Lib.hid (R0.out.below hb)
    have R1 := Lib.hid (R1.out.below hb)
    have RG := Lib.hid (RG.out.below hb)
    have BG := Lib.hid (BG.out.below hb)
    have RI := Lib.hid (RI.out.below hb)
    have RO := Lib.hid (RO.out.below hb)
    have BH := Lib.hid (BH.out.below hb)
    have RH := Lib.hid (RH.out.below hb)
    have Xx := Lib.hid (Xx.out.below hb)
    have BX := Lib.hid (BX.out.below hb)
    have HB := Lib.hid (next_below HB.out hb)
    rw [HgF.out] at h1
    rw [HgF.out, HgN.out, Hge.out]
    have Xy := Lib.hid h1
    clear h1 hb
    obtain ⟨vy, hw⟩ : ∃ vy, vy = w23.alloc (.cells #[.int .i64 gN, .slice Ky gF.length ky] 25) := ⟨_, rfl⟩
    have hb : Below w23.heap.size w23 vy := by rw [hw]; exact (Below.refl _ _).alloc (Nat.le_refl _) _
    have BY : Hid (BoxZ vy w23.heap.size gN Ky gF.length ky) := by show _ = _; rw [hw]; exact heap_alloc_new w23 _
    have HWy := Lib.hid hw
    have R0 := Lib.hid (R0.out.below hb)
    have R1 := Lib.hid (R1.out.below hb)
    have RG := Lib.hid (RG.out.below hb)
    have BG := Lib.hid (BG.out.below hb)
    have RI := Lib.hid (RI.out.below hb)
    have RO := Lib.hid (RO.out.below hb)
    have BH := Lib.hid (BH.out.below hb)
    have RH := Lib.hid (RH.out.below hb)
    have Xx := Lib.hid (Xx.out.below hb)
    have BX := Lib.hid (BX.out.below hb)
    have Xy := Lib.hid (Xy.out.below hb)
    have HB := Lib.hid (next_below HB.out hb)
    clear hb hw
    obtain ⟨jBX0, jBX1⟩ := BX.out.two
    obtain ⟨jBY0, jBY1⟩ := BY.out.two
    rw [HWy.out] at jBX0 jBX1 jBY0 jBY1
    go_wp2_with fail
    rw [← HWy.out]
    clear jBX0 jBX1 jBY0 jBY1
    refine (sameG_self Kx Ky kx ky gF.length gF.length gN gF vy Xx.out Xy.out SG.out rfl rfl).mono ?_
    rintro e w24 ⟨rfl, hb⟩
    have R0 := Lib.hid (R0.out.below hb)
    have R1 := Lib.hid (R1.out.below hb)
    have RG := Lib.hid (RG.out.below hb)
    have BG := Lib.hid (BG.out.below hb)
    have RI := Lib.hid (RI.out.below hb)
    have RO := Lib.hid (RO.out.below hb)
    have BH := Lib.hid (BH.out.below hb)
    have RH := Lib.hid (RH.out.below hb)
    have Xx := Lib.hid (Xx.out.below hb)
    have BX := Lib.hid (BX.out.below hb)
    have Xy := Lib.hid (Xy.out.below hb)
    have BY := Lib.hid (BY.out.below hb)
    have HB := Lib.hid (next_below HB.out hb)
    clear  hb
    go_wp2_with fail
    refine (sameZ_self (some ⟨B1, 0, none⟩) A b1 c n n p w24 RI.out R0.out (by have := HN.out; omega) HN.out HN.out).mono ?_
    rintro e w25 ⟨rfl, hb⟩
    have R0 := Lib.hid (R0.out.below hb)
    have R1 := Lib.hid (R1.out.below hb)
    have RG := Lib.hid (RG.out.below hb)
    have BG := Lib.hid (BG.out.below hb)
    have RI := Lib.hid (RI.out.below hb)
    have RO := Lib.hid (RO.out.below hb)
    have BH := Lib.hid (BH.out.below hb)
    have RH := Lib.hid (RH.out.below hb)
    have Xx := Lib.hid (Xx.out.below hb)
    have BX := Lib.hid (BX.out.below hb)
    have Xy := Lib.hid (Xy.out.below hb)
    have BY := Lib.hid (BY.out.below hb)
    have HB := Lib.hid (next_below HB.out hb)
    clear  hb
    go_wp2_with fail
    refine (sameZ_self (some ⟨B2, 0, none⟩) A1 b2 c1 m m q w25 RO.out R1.out (by have := HM.out; omega) HM.out HM.out).mono ?_
    rintro e w26 ⟨rfl, hb⟩
    have R0 := Lib.hid (R0.out.below hb)
    have R1 := Lib.hid (R1.out.below hb)
    have RG := Lib.hid (RG.out.below hb)
    have BG := Lib.hid (BG.out.below hb)
    have RI := Lib.hid (RI.out.below hb)
    have RO := Lib.hid (RO.out.below hb)
    have BH := Lib.hid (BH.out.below hb)
    have RH := Lib.hid (RH.out.below hb)
    have Xx := Lib.hid (Xx.out.below hb)
    have BX := Lib.hid (BX.out.below hb)
    have Xy := Lib.hid (Xy.out.below hb)
    have BY := Lib.hid (BY.out.below hb)
    have HB := Lib.hid (next_below HB.out hb)
    clear  hb
    obtain ⟨jBH0, jBH1⟩ := BH.out.two
    obtain ⟨jBG0, jBG1⟩ := BG.out.two
    go_wp2_with fail
    refine (sameG_self B3 A2 c3 c2 l l N E w26 RH.out RG.out SE.out HL.out HL.out).mono ?_
    rintro e w27 ⟨rfl, hb⟩
    have R0 := Lib.hid (R0.out.below hb)
    have R1 := Lib.hid (R1.out.below hb)
    have RG := Lib.hid (RG.out.below hb)
    have BG := Lib.hid (BG.out.below hb)
    have RI := Lib.hid (RI.out.below hb)
    have RO := Lib.hid (RO.out.below hb)
    have BH := Lib.hid (BH.out.below hb)
    have RH := Lib.hid (RH.out.below hb)
    have Xx := Lib.hid (Xx.out.below hb)
    have BX := Lib.hid (BX.out.below hb)
    have Xy := Lib.hid (Xy.out.below hb)
    have BY := Lib.hid (BY.out.below hb)
    have HB := Lib.hid (next_below HB.out hb)
    clear  hb
    go_wp2_with fail
    refine (awake_any w27).mono ?_
    rintro e w28 ⟨rfl, hb⟩
    have R0 := Lib.hid (R0.out.below hb)
    have R1 := Lib.hid (R1.out.below hb)
    have RG := Lib.hid (RG.out.below hb)
    have BG := Lib.hid (BG.out.below hb)
    have RI := Lib.hid (RI.out.below hb)
    have RO := Lib.hid (RO.out.below hb)
    have BH := Lib.hid (BH.out.below hb)
    have RH := Lib.hid (RH.out.below hb)
    have Xx := Lib.hid (Xx.out.below hb)
    have BX := Lib.hid (BX.out.below hb)
    have Xy := Lib.hid (Xy.out.below hb)
    have BY := Lib.hid (BY.out.below hb)
    have HB := Lib.hid (next_below HB.out hb)
    clear  hb
    go_wp2_with fail
    go_ret
    exact ⟨rfl, HB.out⟩
theorem tells_walk (v0 v1 : Value) (k : Int) (v2 : Value) (w : World) (o0 : OkInts w v0) (o1 : OkInts w v1) (hk : -9223372036854775808 ≤ k ∧ k < 9223372036854775808) (o2 : OkGraph w v2) :
    Calls Try.prog 3 #[v0, v1, .int .i64 k, v2] w fun e w' => e = .returned (.bool true) ∧ Below w.heap.size w w' := by
  obtain ⟨A, c, p, rfl, _, r0, _, _, hc⟩ := o0
  obtain ⟨A1, c1, q, rfl, _, r1, _, _, hc1⟩ := o1
  obtain ⟨N, A2, c2, E, rfl, _, _, r2, _, _, hc2⟩ := o2
  by_cases h : 12 < p.length ∨ 12 < q.length ∨ 12 < N ∨ 80 < E.length
  · exact ptells_big A A1 A2 c c1 c2 _ _ _ N k w h
  · exact ptells_all A A1 A2 c c1 c2 _ _ _ N k p q E w r0 r1 r2 rfl rfl rfl hc hc1 hc2 (by omega) (by omega) (by omega) (by omega) hk.1 (by omega)
end Go.Proofs.Ytgldlanfbkgfjaa
