/- BridgeNone: beside no web, and beside all edges (layer 8). -/
import Derived.Test.YtlkfpphahfendaaH19
import Derived.Test.YtlkfpphahfendaaU9
import Derived.Test.YtlkfpphahfendaaW14
namespace Go.Proofs.Ytlkfpphahfendaa
set_option maxRecDepth 100000
open Go.RowKit

/-- A graph that is looked at here. -/
def rightS (N : Int) (E : List (Int × Int)) : Bool := rightG N E && decide (N ≤ 30)
theorem rightS_any (A : Option Addr) (c n : Nat) (N : Int) (E : List (Int × Int)) (w : World) (hr : RdP w A E) (hn : n = E.length) :
    Calls Try.prog 16 #[.agg #[.int .i64 N, .slice A n c]] w fun e w' => e = .returned (.bool (rightS N E)) ∧ Below w.heap.size w w' := by
  obtain ⟨X, hX⟩ : ∃ X, X = w.alloc (.cells #[.int .i64 N, .slice A n c] 24) := ⟨_, rfl⟩
  have hb : Below w.heap.size w X := by rw [hX]; exact (Below.refl _ _).alloc (Nat.le_refl _) _
  have hXS : w.heap.size < X.heap.size := by rw [hX]; simp
  obtain ⟨j0, j1, _, _⟩ := cells_two (w := X) (by rw [hX]; exact heap_alloc_new w _)
  have HJ : Hid (∀ w', Below X.heap.size X w' → w'.cell? ⟨w.heap.size, 0, none⟩ = some (.int .i64 N) ∧ w'.cell? ⟨w.heap.size, 1, none⟩ = some (.slice A n c)) := fun w' hb =>
    ⟨by rw [hb.cell (by show w.heap.size < _; omega)]; exact j0, by rw [hb.cell (by show w.heap.size < _; omega)]; exact j1⟩
  have HR := right_any A c n N E X (hr.below hb) hn
  obtain ⟨p, hp⟩ : ∃ p, rightG N E = p := ⟨_, rfl⟩
  unfold rightS
  rw [hp] at HR ⊢
  have HR := Lib.hid HR
  have HX := Lib.hid hX
  have HB := Lib.hid hb
  clear hr hn hX hb hp
  cases h30 : decide (N ≤ 30)
  all_goals
    have h31 : decide (N ≤ 30) = decide (N ≤ 30) := rfl
    clear h31
    go_enter Try.func16, Try.ntmps16
    go_wp2_with fail
    rw [← HX.out]
    refine HR.out.mono ?_
    rintro e w1 ⟨rfl, hb1⟩
    have HB1 := Lib.hid hb1
    clear hb1
    obtain ⟨k0, k1⟩ := HJ.out w1 HB1.out
    cases p
    all_goals
      go_wp2_with fail
      go_ret
      exact ⟨rfl, HB.out.trans (HB1.out.mono (Nat.le_of_lt hXS))⟩
set_option maxHeartbeats 16000000 in
theorem none_walk_g (A : Option Addr) (c n : Nat) (N : Int) (E : List (Int × Int)) (w : World) (hr : RdP w A E) (hn : n = E.length) (hcn : n ≤ c) (hcc : c ≤ 9223372036854775807) :
    Calls Try.prog 7 #[.agg #[.int .i64 N, .slice A n c]] w fun e w' => e = .returned (.bool true) ∧ Below w.heap.size w w' := by
  obtain ⟨X, hX⟩ : ∃ X, X = w.alloc (.cells #[.int .i64 N, .slice A n c] 24) := ⟨_, rfl⟩
  have hb : Below w.heap.size w X := by rw [hX]; exact (Below.refl _ _).alloc (Nat.le_refl _) _
  have hXS : w.heap.size < X.heap.size := by rw [hX]; simp
  obtain ⟨j0, j1, _, _⟩ := cells_two (w := X) (by rw [hX]; exact heap_alloc_new w _)
  have HJ : Hid (∀ w', Below X.heap.size X w' → w'.cell? ⟨w.heap.size, 0, none⟩ = some (.int .i64 N) ∧ w'.cell? ⟨w.heap.size, 1, none⟩ = some (.slice A n c)) := fun w' hb =>
    ⟨by rw [hb.cell (by show w.heap.size < _; omega)]; exact j0, by rw [hb.cell (by show w.heap.size < _; omega)]; exact j1⟩
  have HR := rightS_any A c n N E X (hr.below hb) hn
  obtain ⟨p, hp⟩ : ∃ p, rightS N E = p := ⟨_, rfl⟩
  rw [hp] at HR
  have HR := Lib.hid HR
  have HE := Lib.hid (hr.below hb)
  have HN := Lib.hid hn
  have HX := Lib.hid hX
  have HB := Lib.hid hb
  have HP := Lib.hid hp
  clear hr hn hX hb hp
  go_enter Try.func7, Try.ntmps7
  go_wp2_with fail
  rw [← HX.out]
  refine HR.out.mono ?_
  rintro e w1 ⟨rfl, hb1⟩
  have HB1 := Lib.hid hb1
  clear hb1 j0 j1 HR
  cases p with
  | false =>
    go_wp2_with fail
    refine (awake_any w1).mono ?_
    rintro e w2 ⟨rfl, hb2⟩
    go_wp2_with fail
    go_ret
    exact ⟨rfl, HB.out.trans ((next_below HB1.out hb2).mono (Nat.le_of_lt hXS))⟩
  | true =>
    have hp := HP.out
    unfold rightS at hp
    rw [Bool.and_eq_true] at hp
    have hg := hp.1
    have hn6 : n ≤ 594 := by rw [HN.out]; exact (rightG_bounds hg).2.2
    obtain ⟨Nn, rfl⟩ := Int.eq_ofNat_of_zero_le (rightG_bounds hg).1
    have HG := Lib.hid hg
    clear hp hg
    obtain ⟨j0, j1⟩ := HJ.out w1 HB1.out
    have HT := fragsTT A none c 0 n 0 (Nn : Nat) E [] w1 (HE.out.below HB1.out) (fun q e hq => by simp at hq) HN.out rfl (Nat.le_refl _) (by omega)
    rw [none_ok HG.out] at HT
    have HT := Lib.hid HT
    go_wp2_with fail
    refine HT.out.mono ?_
    rintro e w2 ⟨A2, l2, c2, rfl, hl2, r2, hb⟩
    have HB2 := Lib.hid (next_below HB1.out hb)
    have R2 := Lib.hid r2
    have HL2 := Lib.hid hl2
    have hl2b : l2 ≤ 1000 := by
      have h1 := (fragsT_small (Nn : Nat) E [] (by rw [← HN.out]; omega)).1
      rw [none_ok HG.out] at h1
      rw [hl2]
      exact h1
    clear hb r2 hl2 HT j0 j1
    obtain ⟨j0, j1⟩ := HJ.out w2 HB2.out
    have HT := fragsTT A A c c n n (Nn : Nat) E E w2 (HE.out.below HB2.out) (HE.out.below HB2.out) HN.out HN.out hcn hcc
    rw [all_none HG.out] at HT
    have HT := Lib.hid HT
    go_wp2_with fail
    refine HT.out.mono ?_
    rintro e w3 ⟨A3, l3, c3, rfl, hl3, _, hb⟩
    obtain rfl : l3 = 0 := hl3
    have HB3 := Lib.hid (next_below HB2.out hb)
    have R2 := Lib.hid (R2.out.below hb)
    clear hb HT j0 j1
    obtain ⟨j0, j1⟩ := HJ.out w3 HB3.out
    have HPT := Lib.hid (parts_any A c n Nn E w3 (HE.out.below HB3.out) HN.out HG.out)
    go_wp2_with fail
    refine HPT.out.mono ?_
    rintro e w4 ⟨Bp, kp, capp, us, rfl, hkp, hpr, hb⟩
    have HB4 := Lib.hid (next_below HB3.out hb)
    have R2 := Lib.hid (R2.out.below hb)
    have RP := Lib.hid hpr.rd
    have hkb : kp ≤ 200 := by
      rw [hkp]
      have h1 := prun_out (tabG Nn E) Nn Nn
      have h2 := (rightG_bounds HG.out).2.1
      omega
    have HKP := Lib.hid hkp
    have HB40 := Lib.hid (Below.refl w4.heap.size w4)
    obtain ⟨P, hP⟩ : ∃ P, (prun (tabG Nn E) Nn Nn).2 = P := ⟨_, rfl⟩
    rw [hP] at RP HKP
    have HCN := none_count HG.out
    rw [hP] at HCN
    have HCN := Lib.hid HCN
    clear hb HPT j0 j1 hkp hpr hP
    go_wp2_with fail
    go_loopw [40, 7] (fun s40 s7 wr => ∃ (i t : Nat), i ≤ kp ∧ t ≤ i ∧ s40 = .int .i64 i ∧ s7 = .int .i64 t ∧ Hid (t = ((P.take i).filter fun p => decide (1 < p.length)).length) ∧ Hid (wr = w4)) (fun s40 _ _ => kp - (intOf s40).toNat)
    case atStart => exact ⟨0, 0, Nat.zero_le _, Nat.le_refl _, rfl, rfl, rfl, rfl⟩
    case round =>
      obtain ⟨i, t, hi, hti, rfl, rfl, ht, hw⟩ := hrel
      rw [hw.out]
      clear hw
      by_cases h1 : i < kp
      · have t1 : decide ((i : Int) < (kp : Int)) = true := by simp; omega
        have hI0 : (0 : Int) ≤ (i : Int) := by omega
        have hI1 : (i : Int) < (kp : Nat) := by omega
        obtain ⟨xs, hx⟩ : ∃ xs, P[i]? = some xs := ⟨_, List.getElem?_eq_getElem (by rw [← HKP.out]; exact h1)⟩
        obtain ⟨ad, Bx, cx, rfl, _, q0, _⟩ := RP.out i xs hx
        have hst : ((P.take (i + 1)).filter fun p => decide (1 < p.length)).length = t + (if 1 < xs.length then 1 else 0) := by
          rw [List.take_add_one, hx, List.filter_append, List.length_append, ← ht.out]
          by_cases h : 1 < xs.length <;> simp [h]
        have HST := Lib.hid hst
        obtain ⟨lx, hlx⟩ : ∃ lx, xs.length = lx := ⟨_, rfl⟩
        rw [hlx] at q0 HST
        clear hst hx hlx
        by_cases h2 : 1 < lx
        · have d1 : decide ((1 : Int) < (lx : Int)) = true := by simp; omega
          have d2 : decide (1 < lx) = true := by simp; omega
          have hw1 : IntKind.i64.wrap ((t : Int) + 1) = ((t + 1 : Nat) : Int) := (IntWalk.i64_in _ (by omega)).trans (by omega)
          go_wp2_with fail
          go_roundw
          case rel => exact ⟨i + 1, t + 1, by omega, by omega, by go_num, by go_num, by rw [HST.out, if_pos h2]; rfl, Lib.hid trivial⟩
          case measure => simp [intOf]; omega
        · have d1 : decide ((1 : Int) < (lx : Int)) = false := by simp; omega
          have d2 : decide (1 < lx) = false := by simp; omega
          go_wp2_with fail
          go_roundw
          case rel => exact ⟨i + 1, t, by omega, by omega, by go_num, rfl, by rw [HST.out, if_neg h2]; rfl, Lib.hid trivial⟩
          case measure => simp [intOf]; omega
      · obtain rfl : i = kp := by omega
        have t1 : decide ((i : Int) < (i : Int)) = false := by simp
        have HTL : Hid (t = l2) := by
          show _ = _
          rw [ht.out, HL2.out, HKP.out, List.take_length]
          exact HCN.out.symm
        clear ht
        go_wp2_with fail
        go_loopw [52] (fun s52 wr => ∃ j : Nat, j ≤ l2 ∧ s52 = .int .i64 j ∧ Hid (Below w4.heap.size w4 wr)) (fun s52 _ => l2 - (intOf s52).toNat)
        case atStart => exact ⟨0, Nat.zero_le _, rfl, HB40⟩
        case round =>
          obtain ⟨j, hj, rfl, hbel⟩ := hrel
          by_cases h3 : j < l2
          · have t3 : decide ((j : Int) < (l2 : Int)) = true := by simp; omega
            have hJ0 : (0 : Int) ≤ (j : Int) := by omega
            have hJ1 : (j : Int) < (l2 : Nat) := by omega
            obtain ⟨x, hx⟩ : ∃ x, (fragsF Nn E [])[j]? = some x := ⟨_, List.getElem?_eq_getElem (by have h : l2 = (fragsF Nn E []).length := HL2.out; omega)⟩
            obtain ⟨ad, B1, B2, x1, x2, rfl, hal, q0, q1, _, _⟩ := (R2.out.below hbel.out) j x hx
            have h0 : x.2.length = 0 := by rw [none_feet x (List.mem_of_getElem? hx)]; rfl
            rw [h0] at q1
            obtain ⟨lx, hlx⟩ : ∃ lx, x.1.length = lx := ⟨_, rfl⟩
            rw [hlx] at q0
            have HBA := Lib.hid (next_below hbel.out ((Below.refl _ _).alloc (Nat.le_refl _) (.cells #[.slice B1 lx x1, .slice B2 0 x2] 43)))
            clear hx h0 hlx hal
            go_wp2_with fail
            go_roundw
            case rel => exact ⟨j + 1, by omega, by go_num, HBA⟩
            case measure => simp [intOf]; omega
          · obtain rfl : j = l2 := by omega
            have t3 : decide ((j : Int) < (j : Int)) = false := by simp
            have e1 : ((j : Int) == (t : Int)) = true := by rw [HTL.out]; simp
            have e2 : (j == t) = true := by rw [HTL.out]; simp
            go_wp2_with fail
            refine (awake_any wr).mono ?_
            rintro e w9 ⟨rfl, hb⟩
            have HB9 := Lib.hid (next_below HB4.out (next_below hbel.out hb))
            clear hb
            go_wp2_with fail
            go_ret
            exact ⟨rfl, HB.out.trans (HB9.out.mono (Nat.le_of_lt hXS))⟩
theorem none_walk (v0 : Value) (w : World) (h0 : OkGraph w v0) : Calls Try.prog 7 #[v0] w fun e w' => e = .returned (.bool true) ∧ Below w.heap.size w w' := by
  obtain ⟨N, A, c, E, rfl, _, _, hr, h1, h2, _⟩ := h0
  exact none_walk_g A c E.length N E w hr rfl h1 h2
end Go.Proofs.Ytlkfpphahfendaa
