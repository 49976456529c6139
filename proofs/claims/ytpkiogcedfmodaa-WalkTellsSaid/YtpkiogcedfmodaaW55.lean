/- WalkTells: what the program tells is what the reference tells. -/
import Derived.Test.YtpkiogcedfmodaaW33
import Derived.Test.YtpkiogcedfmodaaW54
import Derived.Test.YtpkiogcedfmodaaW12
namespace Go.Proofs.Ytpkiogcedfmodaa
open Go.RowKit

theorem held_mono5 {P : Program} {md : Region.Mode} {ops : Array Oper} {Q : Exit → Act → World → Prop} {S S' : World → Prop} (h : ∀ w, S' w → S w) :
    ∀ (fuel : Nat) (listed : Array Bool) (a : Act) (w : World), wpAnyH P md ops Q S' fuel listed a w → wpAnyH P md ops Q S fuel listed a w
  | 0, _, _, _, hh => hh
  | fuel + 1, _, _, _, hh => ⟨hh.1, fun i hi => wpOp_mono (fun a' w' h' => ⟨h _ h'.1, held_mono5 h fuel _ a' w' h'.2⟩) (hh.2 i hi)⟩
theorem sameZ_self (A B : Option Addr) (c d n m : Nat) (L : List Int) (w : World) (hl : RdZ w A L) (hm : RdZ w B L) (hs : L.length ≤ 1000) (hn : n = L.length) (hmm : m = L.length) :
    Calls Try.prog 18 #[.slice A n c, .slice B m d] w fun e w' => e = .returned (.bool true) ∧ Below w.heap.size w w' := by
  have h := sameZ_any A B c d n m L L w hl hm (by omega) (by omega) hn hmm
  rw [decide_eq_true (rfl : L = L)] at h
  exact h
theorem sameR_self (A B : Option Addr) (c d n m : Nat) (L : List (List Int)) (w : World) (hl : RdR w A L) (hm : RdR w B L) (bl : ∀ xs ∈ L, xs.length ≤ 1000000) (hL : n ≤ 1000000) (hM : m ≤ 1000000) (hn : n = L.length) (hmm : m = L.length) :
    Calls Try.prog 19 #[.slice A n c, .slice B m d] w fun e w' => e = .returned (.bool true) ∧ Below w.heap.size w w' := by
  have h := sameR_any A B c d n m L L w hl hm bl bl hL hM hn hmm
  rw [decide_eq_true (rfl : L = L)] at h
  exact h
theorem sameG_self (A B : Option Addr) (c d n m : Nat) (N : Int) (E : List (Int × Int)) (w : World) (hl : RdP w A E) (hm : RdP w B E) (hL : n ≤ 1000000) (hM : m ≤ 1000000) (hn : n = E.length) (hmm : m = E.length) :
    Calls Try.prog 22 #[.agg #[.int .i64 N, .slice A n c], .agg #[.int .i64 N, .slice B m d]] w fun e w' => e = .returned (.bool true) ∧ Below w.heap.size w w' := by
  have h := sameG_any A B c d n m N N E E w hl hm hL hM hn hmm
  rw [decide_eq_true (rfl : E = E), beq_self_eq_true] at h
  exact h
set_option maxRecDepth 100000 in
set_option maxHeartbeats 16000000 in
theorem tells_big (A : Option Addr) (c n : Nat) (N a b : Int) (w : World) (h : 20 < N ∨ 200 < n) :
    Calls Try.prog 3 #[.agg #[.int .i64 N, .slice A n c], .int .i64 a, .int .i64 b] w fun e w' => e = .returned (.bool true) ∧ Below w.heap.size w w' := by
  obtain ⟨W, hW⟩ : ∃ W, W = w.alloc (.cells #[.int .i64 N, .slice A n c] 24) := ⟨_, rfl⟩
  have hbw : Below w.heap.size w W := by rw [hW]; exact (Below.refl _ _).alloc (Nat.le_refl _) _
  have HB := Lib.hid hbw
  have HW := Lib.hid hW
  clear hbw hW
  by_cases h1 : 20 < N
  · have d1 : decide (20 < N) = true := by simpa using h1
    clear h
    go_enter Try.func3, Try.ntmps3
    go_wp2_with fail
    rw [← HW.out]
    refine (awake_any W).mono ?_
    rintro e w2 ⟨rfl, hb2⟩
    go_wp2_with fail
    go_ret
    exact ⟨rfl, next_below HB.out hb2⟩
  · have d1 : decide (20 < N) = false := by simpa using h1
    have d2 : decide ((200 : Int) < (n : Int)) = true := by simp; omega
    have d3 : decide (200 < n) = true := by simp; omega
    clear h
    go_enter Try.func3, Try.ntmps3
    go_wp2_with fail
    rw [← HW.out]
    refine (awake_any W).mono ?_
    rintro e w2 ⟨rfl, hb2⟩
    go_wp2_with fail
    go_ret
    exact ⟨rfl, next_below HB.out hb2⟩
set_option maxRecDepth 100000 in
set_option maxHeartbeats 16000000 in
theorem tells_all (A : Option Addr) (c n : Nat) (N a b : Int) (E : List (Int × Int)) (w : World) (hr : RdP w A E) (hn : E.length = n) (hc : A = none → c = 0) (h1 : ¬ 20 < N) (h2 : ¬ 200 < n) :
    Calls Try.prog 3 #[.agg #[.int .i64 N, .slice A n c], .int .i64 a, .int .i64 b] w fun e w' => e = .returned (.bool true) ∧ Below w.heap.size w w' := by
  obtain ⟨W, hW⟩ : ∃ W, W = w.alloc (.cells #[.int .i64 N, .slice A n c] 24) := ⟨_, rfl⟩
  have hbw : Below w.heap.size w W := by rw [hW]; exact (Below.refl _ _).alloc (Nat.le_refl _) _
  have hWS : w.heap.size < W.heap.size := by rw [hW]; simp
  obtain ⟨i0, i1, _, _⟩ := cells_two (w := W) (by rw [hW]; exact heap_alloc_new w _)
  have HJ : Hid (∀ w', Below W.heap.size W w' → w'.cell? ⟨w.heap.size, 0, none⟩ = some (.int .i64 N) ∧ w'.cell? ⟨w.heap.size, 1, none⟩ = some (.slice A n c)) := fun w' hb =>
    ⟨by rw [hb.cell (by show w.heap.size < _; omega)]; exact i0, by rw [hb.cell (by show w.heap.size < _; omega)]; exact i1⟩
  have HR := Lib.hid (hr.below hbw)
  have HC := Lib.hid hc
  have HB := Lib.hid hbw
  have HW := Lib.hid hW
  have HN := Lib.hid hn
  have d1 : decide (20 < N) = false := by simpa using h1
  have d2 : decide ((200 : Int) < (n : Int)) = false := by simp; omega
  have d3 : decide (200 < n) = false := by simp; omega
  clear hr hbw hW hn i0 i1 hc h1
  go_enter Try.func3, Try.ntmps3
  go_wp2_with fail
  rw [← HW.out]
  obtain ⟨j0, j1⟩ := HJ.out W (Below.refl _ _)
  go_upto_region 3 with fail
  go_cut [7] (fun s7 wx => ∃ (p c' : Nat) (B : Option Addr), s7 = .pointer (some ⟨p, 0, none⟩) ∧ wx.heap[p]? = some (.cells #[.int .i64 N, .slice B n c'] 24 (0, 0)) ∧ RdP wx B E ∧ W.heap.size ≤ p ∧ Below W.heap.size W wx)
  case first =>
    have HH : Hid (∀ w', Below W.heap.size W w' → w'.cell? ⟨w.heap.size, 0, none⟩ = some (.int .i64 N) ∧ w'.cell? ⟨w.heap.size, 1, none⟩ = some (.slice A n c) ∧ Below W.heap.size W w') := fun w' hb =>
      ⟨(HJ.out w' hb).1, (HJ.out w' hb).2, hb⟩
    have HCP : Hid (∀ w', Below W.heap.size W w' → Calls Try.prog 11 #[.slice A n c] w' fun e w'' => ∃ (B : Option Addr) (c' : Nat), e = .returned (.slice B n c') ∧ RdP w'' B E ∧ (∀ ad, B = some ad → w'.heap.size ≤ ad.block) ∧ (B = none → c' = 0) ∧ Below w'.heap.size w' w'') := fun w' hb =>
      copyP_any A c n E w' (HR.out.below hb) HN.out.symm (by omega) HC.out
    have hD := HH.out W.drew (Below.refl _ _).drew
    clear HJ HR
    go_region_held3 (fun w' => w'.cell? ⟨w.heap.size, 0, none⟩ = some (.int .i64 N) ∧ w'.cell? ⟨w.heap.size, 1, none⟩ = some (.slice A n c) ∧ Below W.heap.size W w')
      (first | exact hS | exact hD | exact HH.out _ (((Below.refl _ _).alloc (Nat.le_refl _) _).drew) | exact HH.out _ ((‹_ ∧ _ ∧ Below W.heap.size W _›).2.2.alloc (‹_ ∧ _ ∧ Below W.heap.size W _›).2.2.size _) | exact HH.out _ (((‹_ ∧ _ ∧ Below W.heap.size W _›).2.2.setCell (Nat.le_refl _) _).setCell (Nat.le_refl _) _))
      (first | (go_at_call 11; refine (HCP.out _ (‹_ ∧ _ ∧ Below W.heap.size W _›).2.2).mono ?_; rintro e w3 ⟨B, c', rfl, hrd, hbl, hcn, hb⟩; have hS := HH.out w3 (next_below (‹_ ∧ _ ∧ Below W.heap.size W _›).2.2 hb); obtain ⟨hc, hf⟩ := old_cells hb))
    all_goals go_wp2_with fail
    all_goals go_meet
    · exact ⟨w3.heap.size, c', B, rfl, heap_alloc_new w3 _, hrd.below ((Below.refl _ _).alloc (Nat.le_refl _) _), hS.2.2.size, hS.2.2.alloc hS.2.2.size _⟩
    · have hz : w3.heap[W.heap.size]? = some (Obj.cells #[Value.int IntKind.i64 0, Value.slice none 0 0] 24 (0, 0)) := (hb.block W.heap.size (by show W.heap.size < (W.alloc _).heap.size; simp only [World.size_alloc]; omega)).trans (heap_alloc_new W _)
      have hbl2 : ∀ ad, B = some ad → ad.block ≠ W.heap.size := fun ad e => by
        have := hbl ad e
        simp only [World.size_drew, World.size_alloc] at this
        omega
      refine ⟨W.heap.size, c', B, rfl, ?_, (hrd.set _ hbl2).set _ hbl2, Nat.le_refl _, (hS.2.2.setCell (Nat.le_refl _) _).setCell (Nat.le_refl _) _⟩
      show _ = _
      simp [World.setCell, Array.getElem?_modify, hz]
  case rest =>
    obtain ⟨p, c', B, rfl, hp, hrd, hpl, hb2⟩ := hcut
    obtain ⟨p0, p1, _, _⟩ := cells_two hp
    have hpw := lt_of_block hp
    have HP : Hid (∀ w', Below wc.heap.size wc w' → w'.cell? ⟨p, 0, none⟩ = some (.int .i64 N) ∧ w'.cell? ⟨p, 1, none⟩ = some (.slice B n c') ∧ w'.cell? ⟨w.heap.size, 0, none⟩ = some (.int .i64 N) ∧ w'.cell? ⟨w.heap.size, 1, none⟩ = some (.slice A n c)) := fun w' hb =>
      ⟨by rw [hb.cell (by exact hpw)]; exact p0, by rw [hb.cell (by exact hpw)]; exact p1, (HJ.out w' (next_below hb2 hb)).1, (HJ.out w' (next_below hb2 hb)).2⟩
    have HS0 : Hid (∀ w', Below wc.heap.size wc w' → w'.cell? ⟨p, 0, none⟩ = some (.int .i64 N) ∧ w'.cell? ⟨p, 1, none⟩ = some (.slice B n c') ∧ w'.cell? ⟨w.heap.size, 0, none⟩ = some (.int .i64 N) ∧ w'.cell? ⟨w.heap.size, 1, none⟩ = some (.slice A n c) ∧ Below wc.heap.size wc w') := fun w' hb =>
      ⟨(HP.out w' hb).1, (HP.out w' hb).2.1, (HP.out w' hb).2.2.1, (HP.out w' hb).2.2.2, hb⟩
    have HBC := Lib.hid (next_below HB.out hb2)
    have HRD := Lib.hid hrd
    have HRC := Lib.hid (HR.out.below hb2)
    obtain ⟨L1, hL1⟩ : ∃ L1, (walkR N E a).1 = L1 := ⟨_, rfl⟩
    obtain ⟨L2, hL2⟩ : ∃ L2, (walkR N E a).2.1 = L2 := ⟨_, rfl⟩
    obtain ⟨q1, hq1⟩ : ∃ q1, (walkR N E a).2.2 = q1 := ⟨_, rfl⟩
    obtain ⟨L3, hL3⟩ : ∃ L3, (awayR N E a).1 = L3 := ⟨_, rfl⟩
    obtain ⟨q3, hq3⟩ : ∃ q3, (awayR N E a).2 = q3 := ⟨_, rfl⟩
    obtain ⟨L4, hL4⟩ : ∃ L4, (pathR N E a b).1 = L4 := ⟨_, rfl⟩
    obtain ⟨q4, hq4⟩ : ∃ q4, (pathR N E a b).2 = q4 := ⟨_, rfl⟩
    have HSM1 : Hid (L1.length ≤ 1000 ∧ L2.length ≤ 1000 ∧ L3.length ≤ 1000) := ⟨by rw [← hL1]; exact (walkR_small N a E).1, by rw [← hL2]; exact (walkR_small N a E).2, by rw [← hL3]; exact awayR_small N a E⟩
    have HW1 := Lib.hid (fun w' (h : Below wc.heap.size wc w') => walkT B c' n N a E w' (HRD.out.below h) HN.out.symm)
    have HW2 := Lib.hid (fun w' (h : Below wc.heap.size wc w') => refWalkT A c n N a E w' (HRC.out.below h) HN.out.symm (by omega))
    have HA1 := Lib.hid (fun w' (h : Below wc.heap.size wc w') => awayT B c' n N a E w' (HRD.out.below h) HN.out.symm)
    have HA2 := Lib.hid (fun w' (h : Below wc.heap.size wc w') => refAwayT A c n N a E w' (HRC.out.below h) HN.out.symm (by omega))
    have HQ1 := Lib.hid (fun w' (h : Below wc.heap.size wc w') => pathT B c' n N a b E w' (HRD.out.below h) HN.out.symm)
    have HQ2 := Lib.hid (fun w' (h : Below wc.heap.size wc w') => refPathT A c n N a b E w' (HRC.out.below h) HN.out.symm (by omega))
    rw [hL1, hL2, hq1] at HW1 HW2
    rw [hL3, hq3] at HA1 HA2
    rw [hL4, hq4] at HQ1 HQ2
    have n1 : (q1 != q1) = false := by simp
    have n3 : (q3 != q3) = false := by simp
    have n4 : (q4 != q4) = false := by simp
    have HB0 := Lib.hid (Below.refl wc.heap.size wc)
    obtain ⟨b0, b1, b2, b3⟩ := HP.out wc HB0.out
    clear hp hrd hb2 j0 j1 hL1 hL2 hq1 hL3 hq3 hL4 hq4 p0 p1 HJ
    go_wp2_with fail
    refine (HW1.out wc HB0.out).mono ?_
    rintro e w2 ⟨A1, A2, m1, c1, m2, c2, rfl, hm1, hm2, r1, r2, hb2⟩
    have Hhm1 := Lib.hid hm1
    have Hhm2 := Lib.hid hm2
    clear hm1 hm2
    have HB2 := Lib.hid hb2
    clear b0 b1 b2 b3 hb2
    obtain ⟨b0, b1, b2, b3⟩ := HP.out w2 HB2.out
    go_wp2_with fail
    refine (HW2.out w2 HB2.out).mono ?_
    rintro e w3 ⟨A3, A4, m3, c3, m4, c4, rfl, hm3, hm4, r3, r4, hb3⟩
    have Hhm3 := Lib.hid hm3
    have Hhm4 := Lib.hid hm4
    clear hm3 hm4
    have HB3 := Lib.hid (next_below HB2.out hb3)
    have r1 := r1.below hb3
    have r2 := r2.below hb3
    clear b0 b1 b2 b3 hb3
    obtain ⟨b0, b1, b2, b3⟩ := HP.out w3 HB3.out
    go_wp2_with fail
    refine (HA1.out w3 HB3.out).mono ?_
    rintro e w4 ⟨A5, m5, c5, rfl, hm5, r5, hb4⟩
    have Hhm5 := Lib.hid hm5
    clear hm5
    have HB4 := Lib.hid (next_below HB3.out hb4)
    have r1 := r1.below hb4
    have r2 := r2.below hb4
    have r3 := r3.below hb4
    have r4 := r4.below hb4
    clear b0 b1 b2 b3 hb4
    obtain ⟨b0, b1, b2, b3⟩ := HP.out w4 HB4.out
    go_wp2_with fail
    refine (HA2.out w4 HB4.out).mono ?_
    rintro e w5 ⟨A6, m6, c6, rfl, hm6, r6, hb5⟩
    have Hhm6 := Lib.hid hm6
    clear hm6
    have HB5 := Lib.hid (next_below HB4.out hb5)
    have r1 := r1.below hb5
    have r2 := r2.below hb5
    have r3 := r3.below hb5
    have r4 := r4.below hb5
    have r5 := r5.below hb5
    clear b0 b1 b2 b3 hb5
    obtain ⟨b0, b1, b2, b3⟩ := HP.out w5 HB5.out
    go_wp2_with fail
    refine (HQ1.out w5 HB5.out).mono ?_
    rintro e w6 ⟨A7, m7, c7, rfl, hm7, r7, hb6⟩
    have Hhm7 := Lib.hid hm7
    clear hm7
    have HB6 := Lib.hid (next_below HB5.out hb6)
    have r1 := r1.below hb6
    have r2 := r2.below hb6
    have r3 := r3.below hb6
    have r4 := r4.below hb6
    have r5 := r5.below hb6
    have r6 := r6.below hb6
    clear b0 b1 b2 b3 hb6
    obtain ⟨b0, b1, b2, b3⟩ := HP.out w6 HB6.out
    go_wp2_with fail
    refine (HQ2.out w6 HB6.out).mono ?_
    rintro e w7 ⟨A8, m8, c8, rfl, hm8, hlim, r8, hb7⟩
    have Hhm8 := Lib.hid hm8
    clear hm8
    have HB7 := Lib.hid (next_below HB6.out hb7)
    have C1 := Lib.hid (sameZ_self A1 A3 c1 c3 m1 m3 L1 w7 (r1.below hb7) (r3.below hb7) HSM1.out.1 Hhm1.out Hhm3.out)
    have C2 : Hid (∀ w', Below w7.heap.size w7 w' → Calls Try.prog 18 #[.slice A2 m2 c2, .slice A4 m4 c4] w' fun e w'' => e = .returned (.bool true) ∧ Below w'.heap.size w' w'') := fun w' h => sameZ_self A2 A4 c2 c4 m2 m4 L2 w' ((r2.below hb7).below h) ((r4.below hb7).below h) HSM1.out.2.1 Hhm2.out Hhm4.out
    have C3 : Hid (∀ w', Below w7.heap.size w7 w' → Calls Try.prog 18 #[.slice A5 m5 c5, .slice A6 m6 c6] w' fun e w'' => e = .returned (.bool true) ∧ Below w'.heap.size w' w'') := fun w' h => sameZ_self A5 A6 c5 c6 m5 m6 L3 w' ((r5.below hb7).below h) ((r6.below hb7).below h) HSM1.out.2.2 Hhm5.out Hhm6.out
    have C4 : Hid (∀ w', Below w7.heap.size w7 w' → Calls Try.prog 18 #[.slice A7 m7 c7, .slice A8 m8 c8] w' fun e w'' => e = .returned (.bool true) ∧ Below w'.heap.size w' w'') := fun w' h => sameZ_self A7 A8 c7 c8 m7 m8 L4 w' ((r7.below hb7).below h) (r8.below h) (by rw [← Hhm8.out]; exact hlim) Hhm7.out Hhm8.out
    clear b0 b1 b2 b3 hb7 r1 r2 r3 r4 r5 r6 r7 r8 hlim HW1 HW2 HA1 HA2 HQ1 HQ2
    go_wp2_with fail
    refine C1.out.mono ?_
    rintro e w8 ⟨rfl, hb8⟩
    have HB8 := Lib.hid hb8
    clear hb8
    go_wp2_with fail
    refine (C2.out w8 HB8.out).mono ?_
    rintro e w9 ⟨rfl, hb9⟩
    have HB9 := Lib.hid (next_below HB8.out hb9)
    clear hb9
    go_wp2_with fail
    refine (C3.out w9 HB9.out).mono ?_
    rintro e w10 ⟨rfl, hb10⟩
    have HB10 := Lib.hid (next_below HB9.out hb10)
    clear hb10
    go_wp2_with fail
    refine (C4.out w10 HB10.out).mono ?_
    rintro e w11 ⟨rfl, hb11⟩
    have HB11 := Lib.hid (next_below HB7.out (next_below HB10.out hb11))
    clear hb11
    have hD12 := HS0.out w11.drew (below_drewN HB11.out 1)
    go_upto_region 12 with fail
    refine wp_region_held_drew (S := (fun w' => w'.cell? ⟨p, 0, none⟩ = some (.int .i64 N) ∧ w'.cell? ⟨p, 1, none⟩ = some (.slice B n c') ∧ w'.cell? ⟨w.heap.size, 0, none⟩ = some (.int .i64 N) ∧ w'.cell? ⟨w.heap.size, 1, none⟩ = some (.slice A n c) ∧ Below wc.heap.size wc w')) (by kernel_rfl) hD12 (fun hS => ?_)
    refine wpAnyH_take (i := 0) (v := ?_) rfl (by kernel_rfl) (by kernel_rfl) (by kernel_rfl) (fun _ _ _ h => h) (Or.inl ⟨by rfl, ?_⟩) hS ?_
    rotate_left
    · intro wz hSw; (try dsimp only at hSw); obtain ⟨z0, z1, z2, z3, z4⟩ := hSw; go_simp; (try with_reducible rfl)
    try simp only [List.getElem_toArray, List.getElem_cons_zero, List.getElem_cons_succ, Act.put, List.setIfInBounds_toArray, List.set_cons_zero, List.set_cons_succ]
    refine wpAnyH_take (i := 2) (v := ?_) rfl (by kernel_rfl) (by kernel_rfl) (by kernel_rfl) (fun _ _ _ h => h) (Or.inl ⟨by rfl, ?_⟩) hS ?_
    rotate_left
    · intro wz hSw; (try dsimp only at hSw); obtain ⟨z0, z1, z2, z3, z4⟩ := hSw; go_simp; (try with_reducible rfl)
    try simp only [List.getElem_toArray, List.getElem_cons_zero, List.getElem_cons_succ, Act.put, List.setIfInBounds_toArray, List.set_cons_zero, List.set_cons_succ]
    refine wpAnyH_ready (rs := [1]) (by kernel_rfl) (by simp) (AllReadyH.cons rfl (fun K hK => ?_) AllReadyH.nil)
    go_simp
    go_at_call 20
    refine (partsT B c' n N E _ (HRD.out.below hS.2.2.2.2) HN.out.symm).mono ?_
    rintro e wp1 ⟨K1, k1, d1, rfl, hk1, hr1, hbp⟩; have HK1 := Lib.hid hk1; clear hk1
    go_wp2_with fail
    have hS := HS0.out _ (next_below hS.2.2.2.2 hbp)
    refine hK.out _ _ hS (fun _ => ?_)
    clear hK K
    try simp only [List.getElem_toArray, List.getElem_cons_zero, List.getElem_cons_succ, Act.put, List.setIfInBounds_toArray, List.set_cons_zero, List.set_cons_succ]
    refine wpAnyH_ready (rs := [3]) (by kernel_rfl) (by simp) (AllReadyH.cons rfl (fun K hK => ?_) AllReadyH.nil)
    go_simp
    go_at_call 21
    refine (refPartsT A c n N E _ (HRC.out.below hS.2.2.2.2) HN.out.symm (by omega)).mono ?_
    rintro e wp2 ⟨K2, k2, d2, rfl, hk2, hr2, hbq⟩; have HK2 := Lib.hid hk2; clear hk2
    go_wp2_with fail
    have hr1b := hr1.below hbq
    have hS := HS0.out _ (next_below hS.2.2.2.2 hbq)
    refine hK.out _ _ hS (fun _ => ?_)
    clear hK K
    try simp only [List.getElem_toArray, List.getElem_cons_zero, List.getElem_cons_succ, Act.put, List.setIfInBounds_toArray, List.set_cons_zero, List.set_cons_succ]
    refine wpAnyH_ready (rs := [4]) (by kernel_rfl) (by simp) (AllReadyH.cons rfl (fun K hK => ?_) AllReadyH.nil)
    go_simp
    go_at_call 19
    refine (sameR_self K1 K2 d1 d2 k1 k2 (partsR N E) _ hr1b hr2 (partsR_small N E).2 (by have := (partsR_small N E).1; have := HK1.out; omega) (by have := (partsR_small N E).1; have := HK2.out; omega) HK1.out HK2.out).mono ?_
    rintro e wp3 ⟨rfl, hb3p⟩
    go_wp2_with fail
    have hS := HS0.out _ (next_below hS.2.2.2.2 hb3p)
    refine hK.out _ _ hS (fun _ => ?_)
    clear hK K
    try simp only [List.getElem_toArray, List.getElem_cons_zero, List.getElem_cons_succ, Act.put, List.setIfInBounds_toArray, List.set_cons_zero, List.set_cons_succ]
    refine wpAnyH_take (i := 5) (v := ?_) rfl (by kernel_rfl) (by kernel_rfl) (by kernel_rfl) (fun _ _ _ h => h) (Or.inl ⟨by rfl, ?_⟩) hS ?_
    rotate_left
    · intro wz hSw; (try dsimp only at hSw); go_simp; (try with_reducible rfl)
    try simp only [List.getElem_toArray, List.getElem_cons_zero, List.getElem_cons_succ, Act.put, List.setIfInBounds_toArray, List.set_cons_zero, List.set_cons_succ]
    refine wpAnyH_take (i := 6) (v := ?_) rfl (by kernel_rfl) (by kernel_rfl) (by kernel_rfl) (fun _ _ _ h => h) (Or.inl ⟨by rfl, ?_⟩) hS ?_
    rotate_left
    · intro wz hSw; (try dsimp only at hSw); obtain ⟨z0, z1, z2, z3, z4⟩ := hSw; go_simp; (try with_reducible rfl)
    try simp only [List.getElem_toArray, List.getElem_cons_zero, List.getElem_cons_succ, Act.put, List.setIfInBounds_toArray, List.set_cons_zero, List.set_cons_succ]
    refine wpAnyH_take (i := 7) (v := ?_) rfl (by kernel_rfl) (by kernel_rfl) (by kernel_rfl) (fun _ _ _ h => h) (Or.inl ⟨by rfl, ?_⟩) hS ?_
    rotate_left
    · intro wz hSw; (try dsimp only at hSw); obtain ⟨z0, z1, z2, z3, z4⟩ := hSw; go_simp; (try with_reducible rfl)
    try simp only [List.getElem_toArray, List.getElem_cons_zero, List.getElem_cons_succ, Act.put, List.setIfInBounds_toArray, List.set_cons_zero, List.set_cons_succ]
    refine wpAnyH_ready (rs := [8]) (by kernel_rfl) (by simp) (AllReadyH.cons rfl (fun K hK => ?_) AllReadyH.nil)
    go_simp
    go_at_call 22
    refine (sameG_self B A c' c n n N E _ (HRD.out.below hS.2.2.2.2) (HRC.out.below hS.2.2.2.2) (by omega) (by omega) HN.out.symm HN.out.symm).mono ?_
    rintro e wp4 ⟨rfl, hb4p⟩
    go_wp2_with fail
    have hS := HS0.out _ (next_below hS.2.2.2.2 hb4p)
    refine hK.out _ _ hS (fun _ => ?_)
    clear hK K
    try simp only [List.getElem_toArray, List.getElem_cons_zero, List.getElem_cons_succ, Act.put, List.setIfInBounds_toArray, List.set_cons_zero, List.set_cons_succ]
    refine wpAnyH_take (i := 9) (v := ?_) rfl (by kernel_rfl) (by kernel_rfl) (by kernel_rfl) (fun _ _ _ h => h) (Or.inl ⟨by rfl, ?_⟩) hS ?_
    rotate_left
    · intro wz hSw; (try dsimp only at hSw); go_simp; (try with_reducible rfl)
    try simp only [List.getElem_toArray, List.getElem_cons_zero, List.getElem_cons_succ, Act.put, List.setIfInBounds_toArray, List.set_cons_zero, List.set_cons_succ]
    refine wpAnyH_take (i := 10) (v := ?_) rfl (by kernel_rfl) (by kernel_rfl) (by kernel_rfl) (fun _ _ _ h => h) (Or.inl ⟨by rfl, ?_⟩) hS ?_
    rotate_left
    · intro wz hSw; (try dsimp only at hSw); go_simp; (try with_reducible rfl)
    try simp only [List.getElem_toArray, List.getElem_cons_zero, List.getElem_cons_succ, Act.put, List.setIfInBounds_toArray, List.set_cons_zero, List.set_cons_succ]
    refine wpAnyH_ready (rs := [11]) (by kernel_rfl) (by simp) (AllReadyH.cons rfl (fun K hK => ?_) AllReadyH.nil)
    go_simp
    go_at_call 10
    refine (awake_any _).mono ?_
    rintro e wp5 ⟨rfl, hb5p⟩
    go_wp2_with fail
    have hS := HS0.out _ (next_below hS.2.2.2.2 hb5p)
    refine hK.out _ _ hS (fun _ => ?_)
    clear hK K
    try simp only [List.getElem_toArray, List.getElem_cons_zero, List.getElem_cons_succ, Act.put, List.setIfInBounds_toArray, List.set_cons_zero, List.set_cons_succ]
    refine wpAnyH_take (i := 12) (v := ?_) rfl (by kernel_rfl) (by kernel_rfl) (by kernel_rfl) (fun _ _ _ h => h) (Or.inl ⟨by rfl, ?_⟩) hS ?_
    rotate_left
    · intro wz hSw; (try dsimp only at hSw); go_simp; (try with_reducible rfl)
    try simp only [List.getElem_toArray, List.getElem_cons_zero, List.getElem_cons_succ, Act.put, List.setIfInBounds_toArray, List.set_cons_zero, List.set_cons_succ]
    refine wpAnyH_take (i := 13) (v := ?_) rfl (by kernel_rfl) (by kernel_rfl) (by kernel_rfl) (fun _ _ _ h => h) (Or.inl ⟨by rfl, ?_⟩) hS ?_
    rotate_left
    · intro wz hSw; (try dsimp only at hSw); go_simp; (try with_reducible rfl)
    try simp only [List.getElem_toArray, List.getElem_cons_zero, List.getElem_cons_succ, Act.put, List.setIfInBounds_toArray, List.set_cons_zero, List.set_cons_succ]
    refine wpAnyH_done (by kernel_rfl) ?_ _
    go_wp2_with fail
    go_ret
    exact ⟨rfl, next_below HBC.out hS.2.2.2.2⟩
theorem tells_walk (v0 : Value) (a b : Int) (w : World) (ok : OkGraph w v0) (_ba : -9223372036854775808 ≤ a ∧ a < 9223372036854775808) (_bb : -9223372036854775808 ≤ b ∧ b < 9223372036854775808) :
    Calls Try.prog 3 #[v0, .int .i64 a, .int .i64 b] w fun e w' => e = .returned (.bool true) ∧ Below w.heap.size w w' := by
  obtain ⟨N, A, c, E, rfl, _, _, hr, _, _, hcn⟩ := ok
  by_cases h : 20 < N ∨ 200 < E.length
  · exact tells_big A c E.length N a b w h
  · exact tells_all A c E.length N a b E w hr rfl hcn (fun h1 => h (.inl h1)) (fun h1 => h (.inr h1))
end Go.Proofs.Ytpkiogcedfmodaa
