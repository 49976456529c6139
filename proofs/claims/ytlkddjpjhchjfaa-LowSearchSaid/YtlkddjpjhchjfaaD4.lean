/- Where blocks begin: low.beginnings (layer 5). -/
import Derived.Test.YtlkddjpjhchjfaaD2
import Derived.Test.YtlkddjpjhchjfaaD3
import Derived.Test.YtlkddjpjhchjfaaP1
import Derived.Laws.Rows
namespace Go.Proofs.Ytlkddjpjhchjfaa
set_option maxRecDepth 100000
open Go.RowKit

/-- Who was met as the i-th, of those below k. -/
def ordP (A : List Nat) (N k : Nat) : List Int := (List.range N).map fun i => if gn A i < k then ((gn A i : Nat) : Int) else 0
theorem ordP_length (A : List Nat) (N k : Nat) : (ordP A N k).length = N := by simp [ordP]
theorem ordP_zero (A : List Nat) (N : Nat) : ordP A N 0 = List.replicate N 0 := by
  apply List.ext_getElem?
  intro i
  by_cases h : i < N
  · simp [ordP, h]
  · rw [List.getElem?_eq_none (by rw [ordP_length]; omega), List.getElem?_eq_none (by simp; omega)]
theorem perm_idx {N v : Nat} {A : List Nat} (h : Perm N A) (hv : v < N) : A.idxOf v < N ∧ gn A (A.idxOf v) = v := by
  have hm := h.mem hv
  have hl := List.idxOf_lt_length_iff.2 hm
  refine ⟨by rw [← h.len]; exact hl, ?_⟩
  unfold gn
  rw [List.getD_eq_getElem?_getD, List.getElem?_eq_getElem hl]
  exact List.getElem_idxOf hl
theorem ordP_step {N k : Nat} {A : List Nat} (h : Perm N A) (hk : k < N) : (ordP A N k).set (A.idxOf k) (k : Int) = ordP A N (k + 1) := by
  obtain ⟨h1, h2⟩ := perm_idx h hk
  apply List.ext_getElem?
  intro i
  by_cases hi : i < N
  · by_cases e : A.idxOf k = i
    · subst e
      rw [List.getElem?_set_self (by rw [ordP_length]; exact hi)]
      simp [ordP, hi, h2]
    · rw [List.getElem?_set_ne e]
      have hne : gn A i ≠ k := fun e2 => e (h.inj h1 hi (by rw [h2, e2]))
      have h3 : (gn A i < k + 1) ↔ gn A i < k := by omega
      simp [ordP, hi, h3]
  · rw [List.getElem?_eq_none (by rw [List.length_set, ordP_length]; omega), List.getElem?_eq_none (by rw [ordP_length]; omega)]
theorem ordP_all {N : Nat} {A : List Nat} (h : Perm N A) : ordP A N N = iz A := by
  apply List.ext_getElem?
  intro i
  by_cases hi : i < N
  · have := h.gn_lt hi
    rw [iz_at (by rw [h.len]; exact hi)]
    simp [ordP, hi, this]
  · rw [List.getElem?_eq_none (by rw [ordP_length]; omega), List.getElem?_eq_none (by rw [iz_length, h.len]; omega)]
/-- Where blocks begin, of those that were met first. -/
structure OutI (N : Nat) (A : List Nat) (U : Nat → Option Nat) (low : Nat → Nat) (t : Nat) (O : List Int) : Prop where
  len : O.length = N
  val : ∀ v ∈ A.take t, ∃ o : Nat, gd O v = (o : Int) ∧ o < N
  root : ∀ v ∈ A.take t, U v = none → gd O v = (v : Int)
  yes : ∀ v ∈ A.take t, ∀ u, U v = some u → numF A u ≤ low v → gd O v = (v : Int)
  no : ∀ v ∈ A.take t, ∀ u, U v = some u → low v < numF A u → gd O v = gd O u
theorem OutI.start (N : Nat) (A : List Nat) (U : Nat → Option Nat) (low : Nat → Nat) : OutI N A U low 0 (List.replicate N 0) := ⟨by simp, by simp, by simp, by simp, by simp⟩
theorem gd_at (O : List Int) (v : Nat) (h : v < O.length) : O[v]? = some (gd O v) := by simp [gd, List.getD, List.getElem?_eq_getElem h]
theorem gd_set5 {O : List Int} {v x : Nat} {z : Int} (hv : v < O.length) : gd (O.set v z) x = if x = v then z else gd O x := gd_set hv
/-- One more is told. -/
theorem OutI.next {N : Nat} {A : List Nat} {U : Nat → Option Nat} {low : Nat → Nat} {t v o : Nat} {O : List Int} (h : OutI N A U low t O) (hA : Perm N A) (ups : ∀ v u, U v = some u → ∃ i j : Nat, i < j ∧ A[i]? = some u ∧ A[j]? = some v) (hv : A[t]? = some v) (ho : o < N) (h1 : U v = none → o = v) (h2 : ∀ u, U v = some u → numF A u ≤ low v → o = v) (h3 : ∀ u, U v = some u → low v < numF A u → gd O u = (o : Int)) : OutI N A U low (t + 1) (O.set v (o : Int)) := by
  have hvN := hA.lt v (List.mem_of_getElem? hv)
  have hvl : v < O.length := by rw [h.len]; exact hvN
  have htk : A.take (t + 1) = A.take t ++ [v] := by rw [List.take_add_one, hv]; rfl
  have hat : ∀ (i j x : Nat), A[i]? = some x → A[j]? = some x → i = j := fun i j x a b => by
    obtain ⟨l1, e1⟩ := List.getElem?_eq_some_iff.1 a
    obtain ⟨l2, e2⟩ := List.getElem?_eq_some_iff.1 b
    exact (List.getElem_inj hA.nod).1 (e1.trans e2.symm)
  have hold : ∀ x ∈ A.take t, x ≠ v := fun x hx e => by
    subst e
    obtain ⟨i, hi⟩ := List.getElem?_of_mem hx
    have hil := (List.getElem?_eq_some_iff.1 hi).1
    rw [List.length_take] at hil
    rw [List.getElem?_take_of_lt (by omega)] at hi
    have := hat i t x hi hv
    omega
  have hup : ∀ x u, U x = some u → (x ∈ A.take t ∨ x = v) → u ∈ A.take t := fun x u e hx => by
    obtain ⟨i, j, hij, a, b⟩ := ups x u e
    have hjt : j ≤ t := by
      rcases hx with hx | hx
      · obtain ⟨q, hq⟩ := List.getElem?_of_mem hx
        have hql := (List.getElem?_eq_some_iff.1 hq).1
        rw [List.length_take] at hql
        rw [List.getElem?_take_of_lt (by omega)] at hq
        have := hat q j x hq b
        omega
      · subst hx
        have := hat t j x hv b
        omega
    exact List.mem_of_getElem? (i := i) (by rw [List.getElem?_take_of_lt (by omega)]; exact a)
  have gset : ∀ x, gd (O.set v (o : Int)) x = if x = v then (o : Int) else gd O x := fun x => gd_set hvl
  have hgo : ∀ x ∈ A.take t, gd (O.set v (o : Int)) x = gd O x := fun x hx => by rw [gset, if_neg (hold x hx)]
  refine ⟨by rw [List.length_set]; exact h.len, fun x hx => ?_, fun x hx e => ?_, fun x hx u e hl => ?_, fun x hx u e hl => ?_⟩
  all_goals
    rw [htk, List.mem_append, List.mem_singleton] at hx
  · rcases hx with hx | hx
    · rw [hgo x hx]; exact h.val x hx
    · subst hx
      exact ⟨o, by rw [gset, if_pos rfl], ho⟩
  · rcases hx with hx | hx
    · rw [hgo x hx]; exact h.root x hx e
    · subst hx
      rw [gset, if_pos rfl, h1 e]
  · rcases hx with hx | hx
    · rw [hgo x hx]; exact h.yes x hx u e hl
    · subst hx
      rw [gset, if_pos rfl, h2 u e hl]
  · rcases hx with hx | hx
    · rw [hgo x hx, hgo u (hup x u e (.inl hx))]; exact h.no x hx u e hl
    · subst hx
      rw [hgo u (hup x u e (.inr rfl)), gset, if_pos rfl, h3 u e hl]
set_option maxHeartbeats 16000000 in
theorem begin_any (N B : Nat) (A : List Nat) (U : Nat → Option Nat) (low : Nat → Nat) (L : List (Int × Int × Int)) (w : World) (hL : OwnT w B L) (hN : L.length = N) (hs : N ≤ 1000) (hA : Perm N A) (ups : ∀ v u, U v = some u → ∃ i j : Nat, i < j ∧ A[i]? = some u ∧ A[j]? = some v) (hLw : ∀ v, v < N → lw L v = (((numF A v : Nat) : Int), upZ U v, ((low v : Nat) : Int))) :
    Calls Try.prog 54 #[.slice (some ⟨B, 0, none⟩) N N] w fun e w' => ∃ (Bo : Nat) (O : List Int), e = .returned (.slice (some ⟨Bo, 0, none⟩) N N) ∧ OwnZ w' Bo O ∧ OutI N A U low N O ∧ w.heap.size ≤ Bo ∧ Below w.heap.size w w' := by
  have HM0 := Lib.hid (make_ints N (by omega) w)
  have hBl := lt_of_block hL
  obtain ⟨W, hW⟩ : ∃ W, W = w.alloc (.cells (zs (List.replicate N 0)).toArray 3 (0, 0)) := ⟨_, rfl⟩
  have hb : Below w.heap.size w W := by rw [hW]; exact (Below.refl _ _).alloc (Nat.le_refl _) _
  have HO0 : Hid (OwnZ W w.heap.size (ordP A N 0)) := by show _ = _; rw [hW, ordP_zero]; exact heap_alloc_new w _
  have HL := Lib.hid hL
  have HN := Lib.hid hN
  have HA := Lib.hid hA
  have HUPS := Lib.hid ups
  have HLW := Lib.hid hLw
  have HB := Lib.hid hb
  have HW := Lib.hid hW
  have HBL := Lib.hid hBl
  have hmk := HM0.out
  clear hL hN hA ups hLw hb hW hBl
  go_enter Try.func54, Try.ntmps54
  go_upto_region 2 with fail
  rw [← HW.out]
  obtain ⟨Bq, hBq⟩ : ∃ Bq, w.heap.size = Bq := ⟨_, rfl⟩
  have HBQ := Lib.hid hBq
  rw [hBq] at HO0 ⊢
  clear hmk HM0 hBq
  go_wp2_with fail
  go_loopw [15] (fun s15 wr => ∃ k : Nat, k ≤ N ∧ s15 = .int .i64 k ∧ Hid (OwnZ wr Bq (ordP A N k)) ∧ Hid (Below w.heap.size w wr)) (fun s15 _ => N - (intOf s15).toNat)
  case atStart => exact ⟨0, Nat.zero_le _, rfl, HO0, HB⟩
  case round =>
    clear HO0
    obtain ⟨k, hk, rfl, hO, hbel⟩ := hrel
    by_cases h1 : k < N
    · have t1 : decide ((k : Int) < (N : Int)) = true := by simp; omega
      have hK0 : (0 : Int) ≤ (k : Int) := by omega
      have hK1 : (k : Int) < (N : Nat) := by omega
      have hLr : OwnT wr B L := blk_below HL.out hbel.out
      obtain ⟨a0, a1, a2⟩ := hLr.at_ (lw_at (show k < L.length by rw [HN.out]; exact h1))
      rw [HLW.out k h1] at a0 a1 a2
      obtain ⟨q, hq⟩ : ∃ q, A.idxOf k = q := ⟨_, rfl⟩
      have hqN := (perm_idx HA.out h1).1
      have hst := ordP_step HA.out h1
      have hnum : ((numF A k : Nat) : Int) - 1 = (q : Nat) := by unfold numF; omega
      rw [hq] at hqN hst
      obtain ⟨nk, hnk⟩ : ∃ nk : Int, ((numF A k : Nat) : Int) = nk := ⟨_, rfl⟩
      rw [hnk] at a0 hnum
      obtain ⟨uk, huk⟩ : ∃ uk : Int, upZ U k = uk := ⟨_, rfl⟩
      obtain ⟨lk, hlk⟩ : ∃ lk : Int, ((low k : Nat) : Int) = lk := ⟨_, rfl⟩
      simp only [huk, hlk] at a1 a2
      obtain ⟨hQ0, hQ1⟩ : (0 : Int) ≤ (q : Int) ∧ (q : Int) < (N : Nat) := by omega
      have HST := Lib.hid hst
      have HOO := Lib.hid hO.out
      have hbw := lt_of_block hO.out
      have HBW := Lib.hid hbw
      have hcq : wr.cell? ⟨Bq, q, none⟩ ≠ none := by
        rw [hO.out.at_ (x := (ordP A N k).getD q 0) (by rw [List.getD_eq_getElem?_getD, List.getElem?_eq_getElem (by rw [ordP_length]; exact hqN)]; rfl)]
        simp
      clear hLr hq hqN hst hnk huk hlk hO
      go_upto_region 5 with fail
      obtain ⟨V, hV⟩ : ∃ V, V = wr.alloc (.cells #[.int .i64 nk, .int .i64 uk, .int .i64 lk] 57) := ⟨_, rfl⟩
      have hbV : Below wr.heap.size wr V := by rw [hV]; exact (Below.refl _ _).alloc (Nat.le_refl _) _
      have hVn : V.heap[wr.heap.size]? = some (.cells #[.int .i64 nk, .int .i64 uk, .int .i64 lk] 57 (0, 0)) := by rw [hV]; exact heap_alloc_new wr _
      rw [← hV]
      have HOV := Lib.hid (blk_below HOO.out hbV)
      have HBV := Lib.hid (next_below hbel.out hbV)
      have v0 := cell_of hVn 0
      obtain ⟨pe, hpe⟩ : ∃ pe, wr.heap.size = pe := ⟨_, rfl⟩
      rw [hpe] at v0 ⊢
      have hw1 : IntKind.i64.wrap (nk - 1) = (q : Int) := by rw [hnum]; exact IntWalk.i64_in _ (by omega)
      have HO2 : Hid (OwnZ (V.setCell ⟨Bq, q, none⟩ (.int .i64 (k : Nat))) Bq (ordP A N (k + 1))) := by
        have h := OwnZ.set (v := q) HOV.out (k : Int)
        rw [HST.out] at h
        exact h
      have HB2 : Hid (Below w.heap.size w (V.setCell ⟨Bq, q, none⟩ (.int .i64 (k : Nat)))) := HBV.out.setCell (p := ⟨Bq, q, none⟩) (by rw [← HBQ.out]; exact Nat.le_refl _) _
      have w0 : V.cell? ⟨Bq, q, none⟩ = some (.int .i64 (gd (ordP A N k) q)) := by
        refine OwnZ.at_ HOV.out ?_
        unfold gd
        rw [List.getD_eq_getElem?_getD, List.getElem?_eq_getElem (by rw [ordP_length]; omega)]
        rfl
      have w1 := free_of HOV.out q
      clear hV hbV hVn hpe hcq a0 a1 a2 hbel hbw
      go_wp2_with fail
      go_roundw
      case rel => exact ⟨k + 1, by omega, by go_num, HO2, HB2⟩
      case measure => simp [intOf]; omega
    · obtain rfl : N = k := by omega
      have t1 : decide ((N : Int) < (N : Int)) = false := by simp
      rw [ordP_all HA.out] at hO
      have hmk := make_ints N (by omega) wr
      obtain ⟨X, hX⟩ : ∃ X, X = wr.alloc (.cells (zs (List.replicate N 0)).toArray 3 (0, 0)) := ⟨_, rfl⟩
      have hbX : Below wr.heap.size wr X := by rw [hX]; exact (Below.refl _ _).alloc (Nat.le_refl _) _
      have HX0 : Hid (OwnZ X wr.heap.size (List.replicate N 0)) := by show _ = _; rw [hX]; exact heap_alloc_new wr _
      have HOX := Lib.hid (blk_below hO.out hbX)
      have HBX := Lib.hid (next_below hbel.out hbX)
      have hql := lt_of_block hO.out
      have HX := Lib.hid hX
      have HI0 := Lib.hid (OutI.start N A U low)
      clear hO hX hbX hbel
      go_upto_region 8 with fail
      rw [← HX.out]
      obtain ⟨Bo, hBo⟩ : ∃ Bo, wr.heap.size = Bo := ⟨_, rfl⟩
      rw [hBo] at HX0 hql ⊢
      have HQO : Hid (Bq < Bo) := hql
      clear hmk hBo hql HX
      go_wp2_with fail
      go_loopw [32] (fun s32 wn => ∃ (t : Nat) (O : List Int), t ≤ N ∧ s32 = .int .i64 t ∧ Hid (OwnZ wn Bo O) ∧ Hid (OutI N A U low t O) ∧ Hid (OwnZ wn Bq (iz A)) ∧ Hid (Below w.heap.size w wn)) (fun s32 _ => N - (intOf s32).toNat)
      case atStart => exact ⟨0, _, Nat.zero_le _, rfl, HX0, HI0, HOX, HBX⟩
      case round =>
        clear HX0 HI0 HOX HBX
        obtain ⟨t, O, ht, rfl, hO, hI, hQ, hbel⟩ := hrel
        by_cases h2 : t < N
        · have t2 : decide ((t : Int) < (N : Int)) = true := by simp; omega
          have hT0 : (0 : Int) ≤ (t : Int) := by omega
          have hT1 : (t : Int) < (N : Nat) := by omega
          have hol := hI.out.len
          obtain ⟨v, hv⟩ : ∃ v, gn A t = v := ⟨_, rfl⟩
          have hvN : v < N := by rw [← hv]; exact HA.out.gn_lt h2
          have hAt : A[t]? = some v := by rw [← hv]; exact gn_at (by rw [HA.out.len]; exact h2)
          have c0 : wr.cell? ⟨Bq, t, none⟩ = some (.int .i64 (v : Nat)) := OwnZ.at_ hQ.out (by rw [← hv]; exact iz_at (by rw [HA.out.len]; exact h2))
          have hLr : OwnT wr B L := blk_below HL.out hbel.out
          obtain ⟨_, a1, a2⟩ := hLr.at_ (lw_at (show v < L.length by rw [HN.out]; exact hvN))
          rw [HLW.out v hvN] at a1 a2
          simp only at a1 a2
          obtain ⟨hV0, hV1⟩ : (0 : Int) ≤ (v : Int) ∧ (v : Int) < (N : Nat) := by omega
          have HAT := Lib.hid hAt
          have HQ : Hid (∀ q : Nat, OwnZ (wr.drewN q) Bo O ∧ OwnZ (wr.drewN q) Bq (iz A) ∧ Below w.heap.size w (wr.drewN q)) := fun q => ⟨hO.out, hQ.out, below_drewN hbel.out q⟩
          have HII := Lib.hid hI.out
          have HOL := Lib.hid hol
          have HVN := Lib.hid hvN
          clear hv hAt hO hI hQ
          cases hU : U v with
          | none =>
            rw [show upZ U v = -1 by unfold upZ; rw [hU]] at a1
            have d1 : decide ((-1 : Int) < 0) = true := by decide
            have HU := Lib.hid hU
            clear hU hLr hbel hol hvN
            go_upto_region 12 with fail
            go_quiet (fail)
            have hq := HQ.out nq
            generalize wr.drewN nq = w4 at hq ⊢
            obtain ⟨hq1, hq2, hq3⟩ := hq
            have hol := HOL.out
            have hvN := HVN.out
            clear c0 a1 a2
            have HO2 : Hid (OwnZ (w4.setCell ⟨Bo, v, none⟩ (.int .i64 (v : Nat))) Bo (O.set v (v : Int))) := OwnZ.set hq1 (v : Int)
            have HI2 : Hid (OutI N A U low (t + 1) (O.set v (v : Int))) := HII.out.next HA.out HUPS.out HAT.out HVN.out (fun _ => rfl) (fun _ _ _ => rfl) (fun u e => by have := HU.out; rw [this] at e; cases e)
            have HQ2 : Hid (OwnZ (w4.setCell ⟨Bo, v, none⟩ (.int .i64 (v : Nat))) Bq (iz A)) := by
              show _ = _
              rw [heap_setCell_other _ _ _ _ (by show Bq ≠ Bo; have := HQO.out; omega)]
              exact hq2
            have HB2 : Hid (Below w.heap.size w (w4.setCell ⟨Bo, v, none⟩ (.int .i64 (v : Nat)))) := hq3.setCell (p := ⟨Bo, v, none⟩) (by have := HQO.out; have := HBQ.out; show w.heap.size ≤ Bo; omega) _
            have w0 : w4.cell? ⟨Bo, v, none⟩ = some (.int .i64 (gd O v)) := OwnZ.at_ hq1 (gd_at O v (by rw [hol]; exact hvN))
            have w1 := free_of hq1 v
            clear hq1 hq2 hq3 hol hvN
            go_wp2_with fail
            go_roundw
            case rel => exact ⟨t + 1, _, by omega, by go_num, HO2, HI2, HQ2, HB2⟩
            case measure => simp [intOf]; omega
          | some u =>
            obtain ⟨i, j, hij, hiu, hjv⟩ := HUPS.out v u hU
            have huN : u < N := HA.out.lt u (List.mem_of_getElem? hiu)
            rw [show upZ U v = (u : Int) by unfold upZ; rw [hU]] at a1
            obtain ⟨b0, _, _⟩ := hLr.at_ (lw_at (show u < L.length by rw [HN.out]; exact huN))
            rw [HLW.out u huN] at b0
            simp only at b0
            have d1 : decide ((u : Int) < 0) = false := by simp
            obtain ⟨hU0, hU1⟩ : (0 : Int) ≤ (u : Int) ∧ (u : Int) < (N : Nat) := by omega
            obtain ⟨nu, hnu⟩ : ∃ nu, numF A u = nu := ⟨_, rfl⟩
            obtain ⟨lv, hlv⟩ : ∃ lv, low v = lv := ⟨_, rfl⟩
            rw [hnu] at b0
            rw [hlv] at a2
            have HU := Lib.hid hU
            have HNU := Lib.hid hnu
            have HLV := Lib.hid hlv
            have HUN := Lib.hid huN
            have hum : u ∈ A.take t := by
              have hjt : j = t := by
                obtain ⟨l1, e1⟩ := List.getElem?_eq_some_iff.1 HAT.out
                obtain ⟨l2, e2⟩ := List.getElem?_eq_some_iff.1 hjv
                exact (List.getElem_inj HA.out.nod).1 (e2.trans e1.symm)
              exact List.mem_of_getElem? (i := i) (by rw [List.getElem?_take_of_lt (by omega)]; exact hiu)
            obtain ⟨o, ho, hoN⟩ := HII.out.val u hum
            have HO := Lib.hid ho
            have HON := Lib.hid hoN
            by_cases hle : nu ≤ lv
            · have d2 : decide ((nu : Int) ≤ (lv : Int)) = true := by simp; omega
              have HLE := Lib.hid hle
              clear hU hnu hlv hle hij hiu hjv hLr hbel hol hvN huN hum ho hoN
              go_upto_region 12 with fail
              go_quiet (fail)
              have hq := HQ.out nq
              generalize wr.drewN nq = w4 at hq ⊢
              obtain ⟨hq1, hq2, hq3⟩ := hq
              have hol := HOL.out
              have hvN := HVN.out
              clear c0 a1 a2 b0
              have HO2 : Hid (OwnZ (w4.setCell ⟨Bo, v, none⟩ (.int .i64 (v : Nat))) Bo (O.set v (v : Int))) := OwnZ.set hq1 (v : Int)
              have HI2 : Hid (OutI N A U low (t + 1) (O.set v (v : Int))) := HII.out.next HA.out HUPS.out HAT.out HVN.out (fun _ => rfl) (fun _ _ _ => rfl) (fun u' e hl => by have h3 := HU.out; rw [h3] at e; injection e with e; subst e; have := HLE.out; have := HNU.out; have := HLV.out; omega)
              have HQ2 : Hid (OwnZ (w4.setCell ⟨Bo, v, none⟩ (.int .i64 (v : Nat))) Bq (iz A)) := by
                show _ = _
                rw [heap_setCell_other _ _ _ _ (by show Bq ≠ Bo; have := HQO.out; omega)]
                exact hq2
              have HB2 : Hid (Below w.heap.size w (w4.setCell ⟨Bo, v, none⟩ (.int .i64 (v : Nat)))) := hq3.setCell (p := ⟨Bo, v, none⟩) (by have := HQO.out; have := HBQ.out; show w.heap.size ≤ Bo; omega) _
              have w0 : w4.cell? ⟨Bo, v, none⟩ = some (.int .i64 (gd O v)) := OwnZ.at_ hq1 (gd_at O v (by rw [hol]; exact hvN))
              have w1 := free_of hq1 v
              clear hq1 hq2 hq3 hol hvN
              go_wp2_with fail
              go_roundw
              case rel => exact ⟨t + 1, _, by omega, by go_num, HO2, HI2, HQ2, HB2⟩
              case measure => simp [intOf]; omega
            · have d2 : decide ((nu : Int) ≤ (lv : Int)) = false := by simp; omega
              have HLE := Lib.hid hle
              clear hU hnu hlv hle hij hiu hjv hLr hbel hol hvN huN hum ho hoN
              go_upto_region 12 with fail
              go_quiet (fail)
              have hq := HQ.out nq
              generalize wr.drewN nq = w4 at hq ⊢
              obtain ⟨hq1, hq2, hq3⟩ := hq
              have hol := HOL.out
              have hvN := HVN.out
              have w2 : w4.cell? ⟨Bo, u, none⟩ = some (.int .i64 (o : Nat)) := by
                have h := OwnZ.at_ hq1 (gd_at O u (by rw [hol]; exact HUN.out))
                rw [HO.out] at h
                exact h
              clear c0 a1 a2 b0
              have HO2 : Hid (OwnZ (w4.setCell ⟨Bo, v, none⟩ (.int .i64 (o : Nat))) Bo (O.set v (o : Int))) := OwnZ.set hq1 (o : Int)
              have HI2 : Hid (OutI N A U low (t + 1) (O.set v (o : Int))) := HII.out.next HA.out HUPS.out HAT.out HON.out (fun e => by have h3 := HU.out; rw [h3] at e; cases e) (fun u' e hl => by have h3 := HU.out; rw [h3] at e; injection e with e; subst e; exact absurd hl (by have := HLE.out; have := HNU.out; have := HLV.out; omega)) (fun u' e _ => by have h3 := HU.out; rw [h3] at e; injection e with e; subst e; exact HO.out)
              have HQ2 : Hid (OwnZ (w4.setCell ⟨Bo, v, none⟩ (.int .i64 (o : Nat))) Bq (iz A)) := by
                show _ = _
                rw [heap_setCell_other _ _ _ _ (by show Bq ≠ Bo; have := HQO.out; omega)]
                exact hq2
              have HB2 : Hid (Below w.heap.size w (w4.setCell ⟨Bo, v, none⟩ (.int .i64 (o : Nat)))) := hq3.setCell (p := ⟨Bo, v, none⟩) (by have := HQO.out; have := HBQ.out; show w.heap.size ≤ Bo; omega) _
              have w0 : w4.cell? ⟨Bo, v, none⟩ = some (.int .i64 (gd O v)) := OwnZ.at_ hq1 (gd_at O v (by rw [hol]; exact hvN))
              have w1 := free_of hq1 v
              clear hq1 hq2 hq3 hol hvN
              go_wp2_with fail
              go_roundw
              case rel => exact ⟨t + 1, _, by omega, by go_num, HO2, HI2, HQ2, HB2⟩
              case measure => simp [intOf]; omega
        · obtain rfl : N = t := by omega
          have t2 : decide ((N : Int) < (N : Int)) = false := by simp
          go_wp2_with fail
          go_ret
          exact ⟨Bo, O, rfl, hO.out, hI.out, by have := HQO.out; have := HBQ.out; omega, hbel.out⟩
end Go.Proofs.Ytlkddjpjhchjfaa
