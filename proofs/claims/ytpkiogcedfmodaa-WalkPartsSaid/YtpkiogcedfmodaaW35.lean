/- WalkParts. -/
import Derived.Test.YtpkiogcedfmodaaW20
import Derived.Test.YtpkiogcedfmodaaW34
namespace Go.Proofs.Ytpkiogcedfmodaa
open Go.RowKit

theorem cntN_le (f : Int → Option Int) : ∀ n, cntN f n ≤ n
  | 0 => Nat.le_refl _
  | n + 1 => by
    have := cntN_le f n
    show cntN f n + _ ≤ _
    split <;> omega
set_option maxHeartbeats 4000000 in
theorem parts_no (A : Option Addr) (c : Nat) (N a b : Int) (E : List (Int × Int)) (w : World) (hr : RdP w A E) (ht : thereB N E [a, b] = false) :
    Calls Try.prog 5 #[.agg #[.int .i64 N, .slice A E.length c], .int .i64 a, .int .i64 b] w fun e w' => e = .returned (.bool true) ∧ Below w.heap.size w w' := by
  obtain ⟨W, hW⟩ : ∃ W, W = w.alloc (.cells #[.int .i64 N, .slice A E.length c] 24) := ⟨_, rfl⟩
  have hb : Below w.heap.size w W := by rw [hW]; exact (Below.refl _ _).alloc (Nat.le_refl _) _
  have hWS : w.heap.size < W.heap.size := by rw [hW]; simp
  have hWz : W.heap.size = w.heap.size + 1 := by rw [hW]; simp
  obtain ⟨i0, i1, _, _⟩ := cells_two (w := W) (by rw [hW]; exact heap_alloc_new w _)
  have HR := Lib.hid (hr.below hb)
  have HB := Lib.hid hb
  have HT := Lib.hid ht
  have HW := Lib.hid hW
  clear hr hb hW ht
  go_enter Try.func5, Try.ntmps5
  go_wp2_with fail
  rw [← HW.out]
  have HLT := Lib.hid (two_lit W a b)
  rw [hWz] at HLT
  clear hWz
  have HBA := Lib.hid ((Below.refl W.heap.size W).alloc (Nat.le_refl _) (.cells #[.int .i64 a, .int .i64 b] 3))
  refine (there_any A (some ⟨w.heap.size + 1, 0, none⟩) c 2 E.length 2 N E [a, b] _ (HR.out.below HBA.out) rfl (HLT.out) rfl (by omega)).mono ?_
  rintro e w1 ⟨rfl, hb1⟩
  rw [HT.out]
  have HB1 := Lib.hid (HB.out.trans ((next_below HBA.out hb1).mono (Nat.le_of_lt hWS)))
  clear hb1 i0 i1
  go_wp2_with fail
  refine (awake_any w1).mono ?_
  rintro e w2 ⟨rfl, hb2⟩
  go_wp2_with fail
  go_ret
  exact ⟨rfl, next_below HB1.out hb2⟩


set_option maxRecDepth 100000 in
set_option maxHeartbeats 8000000 in
theorem parts_yes (A : Option Addr) (c N a b : Nat) (E : List (Int × Int)) (w : World) (hr : RdP w A E) (hg : rightG (N : Nat) E = true) (hN : N ≤ 60) (ha : a < N) (hb : b < N) (ht : thereB (N : Nat) E [(a : Int), (b : Int)] = true) :
    Calls Try.prog 5 #[.agg #[.int .i64 (N : Nat), .slice A E.length c], .int .i64 (a : Nat), .int .i64 (b : Nat)] w fun e w' => e = .returned (.bool true) ∧ Below w.heap.size w w' := by
  obtain ⟨W, hW⟩ : ∃ W, W = w.alloc (.cells #[.int .i64 (N : Nat), .slice A E.length c] 24) := ⟨_, rfl⟩
  have hbw : Below w.heap.size w W := by rw [hW]; exact (Below.refl _ _).alloc (Nat.le_refl _) _
  have hWS : w.heap.size < W.heap.size := by rw [hW]; simp
  have hWz : W.heap.size = w.heap.size + 1 := by rw [hW]; simp
  obtain ⟨i0, i1, _, _⟩ := cells_two (w := W) (by rw [hW]; exact heap_alloc_new w _)
  have HJ : Hid (∀ w', Below W.heap.size W w' → w'.cell? ⟨w.heap.size, 0, none⟩ = some (.int .i64 (N : Nat)) ∧ w'.cell? ⟨w.heap.size, 1, none⟩ = some (.slice A E.length c)) := fun w' hb =>
    ⟨by rw [hb.cell (by show w.heap.size < _; omega)]; exact i0, by rw [hb.cell (by show w.heap.size < _; omega)]; exact i1⟩
  have hEl : E.length ≤ 594 := by have := rightG_bounds hg; omega
  have HR := Lib.hid (hr.below hbw)
  have HG := Lib.hid hg
  have HB := Lib.hid hbw
  have HT := Lib.hid ht
  have HW := Lib.hid hW
  clear hr hbw hW hg ht i0 i1
  obtain ⟨n, hn⟩ : ∃ n, E.length = n := ⟨_, rfl⟩
  have HN := Lib.hid hn
  rw [hn] at HW HJ hEl ⊢
  clear hn
  go_enter Try.func5, Try.ntmps5
  go_wp2_with fail
  rw [← HW.out]
  have HLT := Lib.hid (two_lit W a b)
  rw [hWz] at HLT
  clear hWz
  have HBA := Lib.hid ((Below.refl W.heap.size W).alloc (Nat.le_refl _) (.cells #[.int .i64 (a : Int), .int .i64 (b : Int)] 3))
  refine (there_any A (some ⟨w.heap.size + 1, 0, none⟩) c 2 n 2 N E [(a : Int), (b : Int)] _ (HR.out.below HBA.out) HN.out.symm (HLT.out) rfl (by omega)).mono ?_
  rintro e w1 ⟨rfl, hb1⟩
  rw [HT.out]
  have HB1 := Lib.hid (next_below HBA.out hb1)
  obtain ⟨j0, j1⟩ := HJ.out w1 HB1.out
  clear hb1 HBA
  go_wp2_with fail
  refine (parts_any A c n N E w1 (HR.out.below HB1.out) HN.out.symm HG.out).mono ?_
  rintro e w2 ⟨Bp, k2, capp, us, rfl, hk2, hpr, hb⟩
  have HB2 := Lib.hid (next_below HB1.out hb)
  have HPV := Lib.hid (pinv HG.out N (Nat.le_refl _))
  have hk200 : k2 ≤ 60 := by
    rw [hk2]
    have := prun_out (tabG N E) N N
    omega
  obtain ⟨P, hP⟩ : ∃ P, (prun (tabG N E) N N).2 = P := ⟨_, rfl⟩
  rw [hP] at hk2 hpr HPV
  have HRR := Lib.hid hpr.rd
  have HK2 := Lib.hid hk2
  clear hb hk2 hpr hP j0 j1
  have HM0 := Lib.hid (MapZ.made w2)
  have HBM0 : Hid (Below w2.heap.size w2 (w2.alloc (.map #[] 0))) := (Below.refl _ _).alloc (Nat.le_refl _) _
  have HL0 : Hid (∀ p x, P[0]? = some p → p[0]? = some x → (-1 : Int) < x) := fun p x hp hx => by
    obtain ⟨v, _, _, h3⟩ := HPV.out.part 0 p hp
    rw [h3] at hx
    injection hx with hx
    omega
  have HC0 : Hid (cntN (fun _ => none) N = 0) := by
    show _ = _
    have : ∀ n, cntN (fun _ => none) n = 0 := fun n => by
      induction n with
      | zero => rfl
      | succ n ih => show cntN _ n + _ = 0; rw [ih]; simp
    exact this N
  have HS0 := Lib.hid (says_zero P)
  have hmm := @run_makeMap Try.prog
  go_wp2_with fail
  clear hmm
  go_loopw [9, 32] (fun s9 s32 wr => ∃ (i k : Nat) (last : Int) (f : Int → Option Int), i ≤ k2 ∧ s9 = .int .i64 last ∧ s32 = .int .i64 i ∧ Hid (MapZ wr w2.heap.size k f k) ∧ Hid (Says P i 0 f) ∧ Hid (cntN f N = k) ∧ Hid (∀ p x, P[i]? = some p → p[0]? = some x → last < x) ∧ -1 ≤ last ∧ last < N ∧ Hid (Below w2.heap.size w2 wr)) (fun _ s32 _ => k2 - (intOf s32).toNat)
  case atStart => exact ⟨0, 0, -1, _, Nat.zero_le _, rfl, rfl, HM0, HS0, HC0, HL0, by omega, by omega, HBM0⟩
  case round =>
    obtain ⟨i, k, last, f, hi, rfl, rfl, hM, hS, hC, hL, hl1, hl2, hbel⟩ := hrel
    by_cases h1 : i < k2
    · have t1 : decide ((i : Int) < (k2 : Int)) = true := by simp; omega
      have hi0 : (0 : Int) ≤ (i : Int) := by omega
      have hi1 : (i : Int) < (k2 : Nat) := by omega
      obtain ⟨p, hp⟩ : ∃ p, P[i]? = some p := ⟨_, List.getElem?_eq_getElem (by rw [← HK2.out]; exact h1)⟩
      obtain ⟨ad, Bx, cx, rfl, hadl, hadc0, hrow⟩ := HRR.out i p hp
      obtain ⟨v0, hv0, hpe, hph⟩ := HPV.out.part i p hp
      have hlast := hL.out p v0 hp hph
      have hplen : p.length ≤ N := by rw [hpe]; exact reachN_le _ _
      have hppos : 0 < p.length := (List.getElem?_eq_some_iff.1 hph).1
      have hpin : Hid (∀ x ∈ p, 0 ≤ x ∧ x < N) := fun x hx => by
        rw [hpe] at hx
        obtain ⟨u, rfl⟩ := reachN_all hx
        have := (reachN_mem.1 hx).1
        omega
      have hpup : Hid (p.Pairwise (· < ·)) := by rw [hpe]; exact reachN_up _ _
      have HP := Lib.hid hp
      have HPH := Lib.hid hph
      have hadc : wr.cell? (ad.add i) = some (.slice Bx p.length cx) := by rw [hbel.out.cell (by rw [block_add]; exact hadl)]; exact hadc0
      have HROW := Lib.hid hrow
      obtain ⟨ad2, hB, hal2, d0⟩ := (HROW.out.below hbel.out) 0 _ hph
      subst hB
      have d0' := d0
      rw [add_none] at d0'
      obtain ⟨pl, hpl⟩ : ∃ pl, p.length = pl := ⟨_, rfl⟩
      have HPL := Lib.hid hpl
      rw [hpl] at hadc hplen hppos
      have dl : decide ((v0 : Int) ≤ last) = false := by simp; omega
      have dz : ((pl : Int) == 0) = false := by simp; omega
      have hp0 : (0 : Int) < (pl : Nat) := by omega
      clear hadc0 hrow hp hph hpe hpl
      go_wp2_with fail
      clear hadc d0 d0' dl dz
      obtain ⟨wo, rfl⟩ : ∃ wo, wo = wr := ⟨_, rfl⟩
      go_loopw [52] (fun s52 wr => ∃ (j k : Nat) (f : Int → Option Int), j ≤ pl ∧ s52 = .int .i64 j ∧ Hid (MapZ wr w2.heap.size k f k) ∧ Hid (Says P i j f) ∧ Hid (cntN f N = k) ∧ Hid (Below w2.heap.size w2 wr)) (fun s52 _ => pl - (intOf s52).toNat)
      case atStart => exact ⟨0, k, f, Nat.zero_le _, rfl, hM, hS, hC, hbel⟩
      case round =>
        obtain ⟨j, k, f, hj, rfl, hM, hS, hC, hbel⟩ := hrel
        by_cases h2 : j < pl
        · have t2 : decide ((j : Int) < (pl : Int)) = true := by simp; omega
          have hj0 : (0 : Int) ≤ (j : Int) := by omega
          have hj1 : (j : Int) < (pl : Nat) := by omega
          obtain ⟨x, hx⟩ : ∃ x, p[j]? = some x := ⟨_, List.getElem?_eq_getElem (by rw [HPL.out]; exact h2)⟩
          obtain ⟨_, hB, _, e0⟩ := (HROW.out.below hbel.out) j x hx
          injection hB with hB
          subst hB
          obtain ⟨x0, x1⟩ := hpin.out x (List.mem_of_getElem? hx)
          have hnew := says_new hS.out HP.out hx hpup.out HPV.out.once
          have HS1 := Lib.hid (says_step hS.out HP.out hx HPV.out.once)
          have hcl := cntN_le f N
          rw [hC.out] at hcl
          have hxI : inI x := by unfold inI; omega
          have hiI : inI (i : Int) := by unfold inI; omega
          have HC1 : Hid (cntN (upd f x (i : Int)) N = k + 1) := by
            show _ = _
            obtain ⟨u, rfl⟩ := Int.eq_ofNat_of_zero_le x0
            rw [cntN_new hnew N (by omega), hC.out]
          have hlk := hM.out.look_ok hxI
          rw [hnew] at hlk
          simp only [Option.getD_none, Option.isSome_none] at hlk
          have HNEW : Hid ((if (f x).isSome then k else k + 1) = k + 1) := by show _ = _; rw [hnew]; rfl
          have HXI := Lib.hid hxI
          have HII := Lib.hid hiI
          have hwz : w2.heap.size ≤ wr.heap.size := hbel.out.size
          clear hnew hxI hiI
          by_cases hj3 : 0 < j
          · obtain ⟨j2, hj2⟩ : ∃ j2, j2 = j - 1 := ⟨_, rfl⟩
            have hjI : (j : Int) - 1 = (j2 : Nat) := by omega
            have hjJ : (j2 : Int) < (pl : Nat) := by omega
            have hjK : (0 : Int) ≤ (j2 : Int) := by omega
            obtain ⟨y, hy⟩ : ∃ y, p[j2]? = some y := ⟨_, List.getElem?_eq_getElem (by rw [HPL.out]; omega)⟩
            obtain ⟨_, hB, _, e1⟩ := (HROW.out.below hbel.out) j2 y hy
            injection hB with hB
            subst hB
            have hyx : y < x := by
              have hu := hpup.out
              rw [List.pairwise_iff_getElem] at hu
              obtain ⟨a1, a2⟩ := List.getElem?_eq_some_iff.1 hy
              obtain ⟨b1, b2⟩ := List.getElem?_eq_some_iff.1 hx
              have := hu j2 j a1 b1 (by omega)
              omega
            have dg : decide ((0 : Int) < (j : Int)) = true := by simp; omega
            have dy : decide (x ≤ y) = false := by simp; omega
            clear hj2 hx hy hyx
            go_wp2_with (at_mapUpdate; refine wpList_putZ _ rfl _ _ _ rfl w2.heap.size k k f rfl hM.out (by omega) x (i : Int) rfl rfl HXI.out HII.out ?_; intro w6 hM6 hg6)
            rw [HNEW.out] at hM6
            have HB6 := Lib.hid (hbel.out.grown hg6 hwz (fun q hq => by injection hq with hq; omega))
            have HM6 := Lib.hid hM6
            clear hM6 hg6 hM hlk e0 e1
            go_wp2_with fail
            go_roundw
            case rel => exact ⟨j + 1, k + 1, _, by omega, by go_num, HM6, HS1, HC1, HB6⟩
            case measure => simp [intOf]; omega
          · have dg : decide ((0 : Int) < (j : Int)) = false := by simp; omega
            clear hx
            go_wp2_with (at_mapUpdate; refine wpList_putZ _ rfl _ _ _ rfl w2.heap.size k k f rfl hM.out (by omega) x (i : Int) rfl rfl HXI.out HII.out ?_; intro w6 hM6 hg6)
            rw [HNEW.out] at hM6
            have HB6 := Lib.hid (hbel.out.grown hg6 hwz (fun q hq => by injection hq with hq; omega))
            have HM6 := Lib.hid hM6
            clear hM6 hg6 hM hlk e0
            go_wp2_with fail
            go_roundw
            case rel => exact ⟨j + 1, k + 1, _, by omega, by go_num, HM6, HS1, HC1, HB6⟩
            case measure => simp [intOf]; omega
        · obtain rfl : j = pl := by omega
          have t2 : decide ((j : Int) < (j : Int)) = false := by simp
          have HSN : Hid (Says P (i + 1) 0 f) := by
            refine says_next ?_ HP.out
            rw [HPL.out]
            exact hS.out
          have HLN : Hid (∀ q x, P[i + 1]? = some q → q[0]? = some x → (v0 : Int) < x) := fun q x hq hx => HPV.out.rise i (i + 1) p q v0 x (by omega) HP.out hq HPH.out hx
          go_wp2_with fail
          go_roundw
          case rel => exact ⟨i + 1, k, (v0 : Int), f, by omega, rfl, by go_num, hM, HSN, hC, HLN, by omega, by omega, hbel⟩
          case measure => simp [intOf]; omega
    · obtain rfl : i = k2 := by omega
      have t1 : decide ((i : Int) < (i : Int)) = false := by simp
      have HSE : Hid (Says P P.length 0 f) := by rw [← HK2.out]; exact hS
      have HBO := Lib.hid (next_below HB2.out hbel.out)
      obtain ⟨j0, j1⟩ := HJ.out wr HBO.out
      have HIS : Hid (∀ u : Nat, u < N → ∃ y : Nat, f (u : Int) = some (y : Int)) := fun u hu => says_end HPV.out HSE.out hu
      have HSM : Hid (∀ u v : Nat, u < N → v < N → (f (u : Int) = f (v : Int) ↔ Rch N E u v)) := fun u v hu hv => says_same HG.out HPV.out HSE.out hu hv
      have HKN : Hid (k = N) := by
        show _ = _
        rw [← hC.out]
        exact cntN_full N (fun x hx => by obtain ⟨y, hy⟩ := HIS.out x hx; rw [hy]; rfl)
      clear hL hS hC HSE
      go_wp2_with fail
      clear j0 j1
      obtain ⟨wo, rfl⟩ : ∃ wo, wo = wr := ⟨_, rfl⟩
      go_loopw [85] (fun s85 wn => ∃ e : Nat, e ≤ n ∧ s85 = .int .i64 e ∧ Hid (Below wo.heap.size wo wn)) (fun s85 _ => n - (intOf s85).toNat)
      case atStart => exact ⟨0, Nat.zero_le _, rfl, Lib.hid (Below.refl _ _)⟩
      case round =>
        obtain ⟨e, he, rfl, hb5⟩ := hrel
        by_cases h2 : e < n
        · have hI0 : (0 : Int) ≤ (e : Int) := by omega
          have hI1 : (e : Int) < (n : Nat) := by omega
          obtain ⟨ed, hed⟩ : ∃ ed, E[e]? = some ed := ⟨_, List.getElem?_eq_getElem (by rw [HN.out]; exact h2)⟩
          obtain ⟨b1, b2, b3⟩ := rightG_edge HG.out hed
          obtain ⟨ad, rfl, hal, p1, p2⟩ := ((HR.out.below HBO.out).below hb5.out) e ed hed
          obtain ⟨e0, e1⟩ := ed
          simp only [] at b1 b2 b3 p1 p2
          obtain ⟨p, rfl⟩ := Int.eq_ofNat_of_zero_le b1
          obtain ⟨q, rfl⟩ := Int.eq_ofNat_of_zero_le (show 0 ≤ e1 by omega)
          obtain ⟨ea, _, _, _⟩ := edge_adj HG.out hed
          obtain ⟨y, hy⟩ := HIS.out p (by omega)
          have hy2 := (HSM.out p q (by omega) (by omega)).2 (edge_rch HG.out (by omega) ea)
          rw [hy] at hy2
          have hbX : Below wr.heap.size wr (wr.alloc (.cells #[.int .i64 (p : Int), .int .i64 (q : Int)] 43)) := (Below.refl _ _).alloc (Nat.le_refl _) _
          have hEB : (wr.alloc (.cells #[.int .i64 (p : Int), .int .i64 (q : Int)] 43)).heap[wr.heap.size]? = some (.cells #[.int .i64 (p : Int), .int .i64 (q : Int)] 43 (0, 0)) := heap_alloc_new wr _
          have hMX := (hM.out.below hb5.out).below hbX
          have l1 := hMX.look (x := (p : Int)) (by unfold inI; omega)
          have l2 := hMX.look (x := (q : Int)) (by unfold inI; omega)
          rw [hy] at l1
          rw [← hy2] at l2
          simp only [Option.getD_some] at l1 l2
          have HBX := Lib.hid (next_below hb5.out hbX)
          have dne : ((y : Int) != (y : Int)) = false := by simp
          clear hbX b1 b2 b3 hed hMX hy hy2 ea
          go_upto_region 24 with fail
          generalize wr.alloc (.cells #[.int .i64 (p : Int), .int .i64 (q : Int)] 43) = X at *
          clear p1 p2
          obtain ⟨r0, r1, _, _⟩ := cells_two hEB
          clear hEB
          go_wp2_with fail
          go_roundw
          case rel => exact ⟨e + 1, by omega, by go_num, HBX⟩
          case measure => simp [intOf]; omega
        · obtain rfl : e = n := by omega
          have t2 : decide ((e : Int) < (e : Int)) = false := by simp
          have HB6 := Lib.hid (next_below HBO.out hb5.out)
          have hM6 := Lib.hid (hM.out.below hb5.out)
          obtain ⟨j0, j1⟩ := HJ.out wr HB6.out
          go_wp2_with fail
          refine (path_any A c e N a b E wr (HR.out.below HB6.out) HN.out.symm HG.out ha hb).mono ?_
          rintro e7 w7 ⟨hb7, hpp⟩
          have HB7 := Lib.hid (next_below HB6.out hb7)
          have hM7 := hM6.out.below hb7
          obtain ⟨ya, hya⟩ := HIS.out a ha
          obtain ⟨yb, hyb⟩ := HIS.out b hb
          have hsm := HSM.out a b ha hb
          have hrc : Rch N E a b ↔ 0 ≤ gd (distOf (tabG N E) N b) a := by
            constructor
            · intro h; exact Rch.symm_ HG.out ha hb h
            · intro h; exact Rch.symm_ HG.out hb ha h
          rw [hya, hyb] at hsm
          have l1 := hM7.look (x := (a : Int)) (by unfold inI; omega)
          have l2 := hM7.look (x := (b : Int)) (by unfold inI; omega)
          have l3 := fun ty => hM7.len ty
          rw [hya] at l1
          rw [hyb] at l2
          simp only [Option.getD_some] at l1 l2
          rw [HKN.out] at l3
          clear hb7 hM7 hya hyb j0 j1
          obtain ⟨j0, j1⟩ := HJ.out w7 HB7.out
          have hNN : ((N : Int) == (N : Int)) = true := by simp
          have hl3 : decide (last < (N : Int)) = true := by simp; omega
          rcases hpp with ⟨hneg, rfl⟩ | ⟨D, g, o, pl, hgd, _, _, _, _, rfl⟩
          · have hne : ((ya : Int) == (yb : Int)) = false := by
              rw [beq_eq_false_iff_ne]
              intro h
              have h2 := hrc.1 (hsm.1 (by rw [h]))
              omega
            clear hneg hsm hrc
            go_wp2_with fail
            refine (awake_any w7).mono ?_
            rintro e8 w8 ⟨rfl, hb8⟩
            go_wp2_with fail
            go_ret
            exact ⟨rfl, HB.out.trans ((next_below HB7.out hb8).mono (Nat.le_of_lt hWS))⟩
          · have hee : (ya : Int) = (yb : Int) := by
              have h2 := hsm.2 (hrc.2 (by rw [hgd]; omega))
              injection h2
            rw [← hee] at l2
            have hne : ((ya : Int) == (ya : Int)) = true := by simp
            clear hgd hsm hrc hee
            go_wp2_with fail
            refine (awake_any w7).mono ?_
            rintro e8 w8 ⟨rfl, hb8⟩
            go_wp2_with fail
            go_ret
            exact ⟨rfl, HB.out.trans ((next_below HB7.out hb8).mono (Nat.le_of_lt hWS))⟩
theorem parts_walk (v0 : Value) (a b : Int) (w : World) (h0 : OkGraph w v0) (_ : -9223372036854775808 ≤ a ∧ a < 9223372036854775808) (_ : -9223372036854775808 ≤ b ∧ b < 9223372036854775808) :
    Calls Try.prog 5 #[v0, .int .i64 a, .int .i64 b] w fun e w' => e = .returned (.bool true) ∧ Below w.heap.size w w' := by
  obtain ⟨N, A, c, E, rfl, _, _, hr, _⟩ := h0
  cases ht : thereB N E [a, b] with
  | false => exact parts_no A c N a b E w hr ht
  | true =>
    obtain ⟨hv, hg, hN⟩ := thereB_yes ht
    have h1 := hv a (by simp)
    have h2 := hv b (by simp)
    obtain ⟨a, rfl⟩ := Int.eq_ofNat_of_zero_le h1.1
    obtain ⟨b, rfl⟩ := Int.eq_ofNat_of_zero_le h2.1
    obtain ⟨N, rfl⟩ := Int.eq_ofNat_of_zero_le (show 0 ≤ N by omega)
    exact parts_yes A c N a b E w hr hg (by omega) (by omega) (by omega) ht
end Go.Proofs.Ytpkiogcedfmodaa
