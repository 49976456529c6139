/- The walk of RingLeast. -/
import Derived.Test.YtmnkghbbcjnlfaaR15
namespace Go.Proofs.Ytmnkghbbcjnlfaa
open Go.RowKit Go.Maps

theorem gW_smallL {L : List (List Nat)} (h : gW L = false) : L.length ≤ 60 ∧ ∀ xs ∈ L, xs.length ≤ 60 := by
  unfold gW at h
  rw [Bool.or_eq_false_iff] at h
  refine ⟨by have := of_decide_eq_false h.2; omega, fun xs hx => ?_⟩
  have := List.any_eq_false.1 h.1 xs hx
  simp at this
  exact this

set_option maxRecDepth 100000 in
set_option maxHeartbeats 2000000 in
theorem least_main (A : Option Addr) (c : Nat) (L : List (List Nat)) (k : Int) (w : World) (r0 : RdW w A L) (o0 : OkW L) (g0 : gW L = false) (h0 : 0 < L.length) :
    Calls Try.prog 4 #[.slice A L.length c, .int .i64 k] w fun e w' => e = .returned (.bool true) ∧ Below w.heap.size w w' := by
  obtain ⟨s0, t0⟩ := gW_smallL g0
  have G0 := great_any A c L w r0 (by omega)
  rw [g0] at G0
  have u0 : ∀ xs ∈ L, xs.length ≤ 1000000 := fun xs h => by have := t0 xs h; omega
  obtain ⟨n, hn⟩ : ∃ n, n = L.length := ⟨_, rfl⟩
  have HLE := Lib.hid (least_any A c n L w r0 o0 u0 hn (by omega) (by omega))
  have HTU := Lib.hid (fun (w' : World) (j : Int) (h : Below w.heap.size w w') => turn_any A c n j L w' (r0.below h) u0 hn (by omega) (by omega))
  have hgood := lp_right L h0
  have ul : ∀ f, ∀ xs ∈ turnN L f, xs.length ≤ 1000000 := fun f xs h => u0 xs (turnN_mem h)
  have ol : ∀ f, OkW (turnN L f) := fun f xs h => o0 xs (turnN_mem h)
  rw [← hn] at hgood G0 s0 h0 ⊢
  have HR0 := Lib.hid r0
  have HN := Lib.hid hn
  have HG0 := Lib.hid G0
  have HGD := Lib.hid hgood
  have HUL := Lib.hid ul
  have HOL := Lib.hid ol
  have hmm := @run_makeMap Try.prog
  clear r0 o0 g0 u0 t0 hn G0 hgood ul ol
  go_enter Try.func4, Try.ntmps4
  go_wp2_with fail
  refine HG0.out.mono ?_
  rintro e w1 ⟨rfl, rfl⟩
  go_wp2_with fail
  refine HLE.out.mono ?_
  rintro e w1 ⟨v5, J, g6, vs6, rfl, ho5, hJ1, hJ2, hr6, hb1⟩
  clear HLE
  generalize lp L n 0 1 = ps at *
  obtain ⟨p, s⟩ := ps
  dsimp only at ho5 hJ1 hJ2 hr6
  have hGd := HGD.out
  dsimp only at hGd
  obtain ⟨hnJ, hJ0⟩ := good_count hGd.1 (by have := hGd.2.1; rwa [← HN.out] at this) h0 hJ1 hJ2
  obtain ⟨g5, c5, rfl, _⟩ := ho5.form hJ0
  have HB1 := Lib.hid hb1
  have HO5 := Lib.hid ho5
  have HR6 := Lib.hid hr6
  have HNJ := Lib.hid hnJ
  have HGP := Lib.hid hGd
  have hps1 := hGd.1
  clear hb1 ho5 hr6 hnJ hGd HGD hJ1 hJ2 HG0
  have hne : ((n : Int) == 0) = false := by simp; omega
  go_wp2_with fail
  refine (HTU.out w1 k HB1.out).mono ?_
  rintro e w2 ⟨g7, vs7, rfl, hr7, _, hb2⟩
  obtain ⟨f, hf⟩ : ∃ f, f = offN n k := ⟨_, rfl⟩
  rw [← hf] at hr7
  clear hf
  have hle := least_any (some ⟨g7, 0, none⟩) n n (turnN L f) w2 hr7.rd (HOL.out f) (HUL.out f) (by rw [turnN_length]; exact HN.out) (by omega) h0
  have hgood2 := lp_right (turnN L f) (by rw [turnN_length, ← HN.out]; exact h0)
  rw [turnN_length, ← HN.out] at hgood2
  generalize lp (turnN L f) n 0 1 = ps2 at *
  obtain ⟨p2, s2⟩ := ps2
  dsimp only at hle hgood2
  have hgt := good_turn (by rw [← HN.out]; exact h0) HGP.out hgood2
  have HLE2 := Lib.hid hle
  have HB2 := Lib.hid hb2
  have HGT := Lib.hid hgt
  have HGG := Lib.hid hgood2
  clear hle hgood2 hgt hb2 hr7
  go_wp2_with fail
  refine HLE2.out.mono ?_
  rintro e w3 ⟨v7, J2, g8, vs8, rfl, ho7, hJ1, hJ2, hr8, hb3⟩
  obtain ⟨hs2, htt⟩ := HGT.out
  rw [htt] at hr8
  rw [hs2] at hJ1 hJ2
  have hp2 := HGG.out.1
  rw [hs2] at hp2
  obtain ⟨hnJ2, hJ02⟩ := good_count hp2 (by have := HGP.out.2.1; rwa [← HN.out] at this) h0 hJ1 hJ2
  have hJJ : J2 = J := Nat.eq_of_mul_eq_mul_left (show 0 < s by omega) (by rw [← hnJ2, HNJ.out])
  subst hJJ
  obtain ⟨g7', c7, rfl, _⟩ := ho7.form hJ02
  have hB3 := Lib.hid (next_below (next_below HB1.out HB2.out) hb3)
  have HB13 := Lib.hid (next_below HB2.out hb3)
  have HR8 := Lib.hid hr8
  clear ho7 hr8 hb3 hnJ2 hJ1 hJ2 HLE2 HGT HGG hs2 htt hp2
  go_wp2_with fail
  refine (same_any (some ⟨g6, 0, none⟩) (some ⟨g8, 0, none⟩) n n n n (turnN L p) (turnN L p) w3 (HR6.out.rd.below HB13.out) HR8.out.rd (HOL.out p) (HOL.out p) (by omega) (by rw [turnN_length]; exact HN.out) (by rw [turnN_length]; exact HN.out)).mono ?_
  rintro e w4 ⟨rfl, hb4⟩
  rw [decide_eq_true (rfl : turnN L p = turnN L p)]
  have HB14 := Lib.hid (next_below HB13.out hb4)
  clear hb4 HB13 HR8 hB3 HB2
  have hm1 : (n : Int) % (J2 : Nat) = 0 := by
    have := HNJ.out
    rw [this, ← Int.natCast_emod, Nat.mul_mod_left]
    rfl
  have hj1 : ((J2 : Int) == 0) = false := by simp; omega
  have hJ60 : J2 ≤ n := by
    have := HNJ.out
    have h2 := Nat.le_mul_of_pos_left J2 (show 0 < s by omega)
    omega
  have HJ60 := Lib.hid hJ60
  go_upto_region 10 with fail
  have hmap0 : (w4.alloc (.map #[] 0)).ownsMap Try.prog 3 (plainElem (H := Unit) Try.prog 3) w4.heap.size 0 (markTo p s 0) := World.ownsMap_made _ _ _ _
  have HM0 := Lib.hid hmap0
  have HBM0 : Hid (Below w4.heap.size w4 (w4.alloc (.map #[] 0))) := (Below.refl _ _).alloc (Nat.le_refl _) _
  have hg5 := (row_at HO5.out).2.1
  have hg5w : g5 < w4.heap.size := Nat.lt_of_lt_of_le hg5 HB14.out.size
  have hqd : (n : Int) / (J2 : Nat) = (s : Nat) := by
    have := HNJ.out
    rw [this, ← Int.natCast_ediv, Nat.mul_div_cancel _ hJ02]
  have HQD := Lib.hid hqd
  have hps2 : s ≤ n := by
    have h1 := HNJ.out
    have h2 := Nat.le_mul_of_pos_right s hJ02
    omega
  clear hmap0 hm1 hmm hqd hJ60
  go_wp2_with fail
  go_loopw [70] (fun s70 wq => ∃ i : Nat, i ≤ J2 ∧ s70 = .int .i64 i ∧ Hid (wq.ownsMap Try.prog 3 (plainElem (H := Unit) Try.prog 3) w4.heap.size i (markTo p s i)) ∧ Hid (Below w4.heap.size w4 wq)) (fun s70 _ => J2 - (intOf s70).toNat)
  case atStart => exact ⟨0, Nat.zero_le _, rfl, HM0, HBM0⟩
  case round =>
    obtain ⟨i, hi, rfl, hmap, hbq⟩ := hrel
    by_cases hlt : i < J2
    · have hJl := HJ60.out
      have hxi : p + s * i < n := by
        have h1 := HNJ.out
        have h2 := Nat.mul_le_mul_left s (show i + 1 ≤ J2 from hlt)
        rw [Nat.mul_succ] at h2
        omega
      have hpl : ∀ j, j < J2 → (placesN p s J2)[j]? = some (iv (p + s * j)) := fun j h => by simp [placesN, h]
      have hro := row_at (row_below HO5.out (next_below HB14.out hbq.out))
      have c1 := hro.2.2.2.1 i (iv (p + s * i)) (by simp [placesN, hlt])
      have hkey : keyOf Try.prog 3 (.int .i64 ((p + s * i : Nat) : Int)) = some (.int .i64 ((p + s * i : Nat) : Int)) := keyOf_int_mk Try.underlying3 (wfI (by omega))
      have hwz : w4.heap.size ≤ wr.heap.size := hbq.out.size
      have hm5 : J2 ≤ c5 := hro.2.2.1
      obtain ⟨x1, hx1⟩ : ∃ x, x = p + s * i := ⟨_, rfl⟩
      rw [← hx1] at c1 hkey hxi
      have HX1 := Lib.hid hx1
      have HK := Lib.hid hkey
      have HC0 : Hid (∀ j, j < i → wr.cell? ⟨g5, j, none⟩ = some (.int .i64 ((p + s * j : Nat) : Int))) := fun j hj => hro.2.2.2.1 j _ (hpl j (by omega))
      clear hro hkey hx1 hpl
      go_wp2_with (first
        | (at_mapUpdate; refine wpList_mapUpdate_own _ rfl _ _ _ 36 rfl 3 3 keyI Try.underlying36 _ w4.heap.size i _ rfl hmap.out (by unfold maxLen; omega) _ _ _ rfl rfl HK.out _ [] (plainElem_int Try.underlying3 (by decide)) ?_; intro w6 hown6 hgr6))
      have HM1 := Lib.hid (show w6.ownsMap Try.prog 3 (plainElem (H := Unit) Try.prog 3) w4.heap.size (i + 1) (markTo p s (i + 1)) by
        show w6.ownsMap Try.prog 3 (plainElem (H := Unit) Try.prog 3) w4.heap.size (i + 1) ((markTo p s i).put (.int .i64 ((p + s * i : Nat) : Int)) (.lit (.int .i64 1)))
        rw [← HX1.out]
        exact hown6)
      have HB6 := Lib.hid (hbq.out.grown hgr6 hwz (fun j hj => by injection hj with hj; omega))
      have HBQ6 := Lib.hid (fun q : Nat => below_drewN HB6.out q)
      have HMQ6 := Lib.hid (fun q : Nat => (show (w6.drewN q).ownsMap Try.prog 3 (plainElem (H := Unit) Try.prog 3) w4.heap.size (i + 1) (markTo p s (i + 1)) from HM1.out))
      have HGR := Lib.hid hgr6
      clear hown6 hgr6 c1 hmap
      by_cases hi0 : 0 < i
      · obtain ⟨j, hj⟩ : ∃ j, j = i - 1 := ⟨_, rfl⟩
        have hjI : (i : Int) - 1 = (j : Nat) := by omega
        have c06 : w6.cell? ⟨g5, j, none⟩ = some (.int .i64 ((p + s * j : Nat) : Int)) := (World.cell?_of_block (HGR.out.block g5 (by omega) (by intro e; injection e with e; omega))).trans (HC0.out j (by omega))
        have hdI : (x1 : Int) - ((p + s * j : Nat) : Int) = (s : Nat) := by
          have h1 := HX1.out
          rw [show i = j + 1 by omega, Nat.mul_succ] at h1
          omega
        generalize p + s * j = x0 at *
        have HDI := Lib.hid hdI
        have hg0 : (0 : Int) < (i : Int) := by omega
        have hI0 : (0 : Int) ≤ (j : Int) := by omega
        have hI1 : (j : Int) < (J2 : Nat) := by omega
        clear hdI hj
        go_frame
        go_quiet (fail)
        have hbne : (wrap64 ((x1 : Int) - (x0 : Nat)) != wrap64 ((n : Int) / (J2 : Nat))) = false := by rw [HDI.out, HQD.out]; simp
        rw [hbne]
        clear hbne
        go_wp2_with fail
        go_roundw
        case rel => exact ⟨i + 1, by omega, by go_num, Lib.hid (HMQ6.out _), Lib.hid (HBQ6.out _)⟩
        case measure => simp [intOf]; omega
      · have hg0 : decide ((0 : Int) < (i : Int)) = false := by simp; omega
        go_frame
        go_quiet (fail)
        go_wp2_with fail
        go_roundw
        case rel => exact ⟨i + 1, by omega, by go_num, Lib.hid (HMQ6.out _), Lib.hid (HBQ6.out _)⟩
        case measure => simp [intOf]; omega
    · obtain rfl : i = J2 := by omega
      obtain ⟨wm, hwm⟩ : ∃ wm : World, wm = wr := ⟨_, rfl⟩
      rw [← hwm]
      have HMM : Hid (wm.ownsMap Try.prog 3 (plainElem (H := Unit) Try.prog 3) w4.heap.size i (markTo p s i)) := by rw [hwm]; exact hmap
      have HBM : Hid (Below w1.heap.size w1 wm) := by rw [hwm]; exact next_below HB14.out hbq.out
      clear hmap hbq hwm HM0 HBM0 HO5
      go_wp2_with fail
      go_loopw [97] (fun s97 wq => ∃ j : Nat, j ≤ n ∧ s97 = .int .i64 j ∧ Hid (Below wm.heap.size wm wq)) (fun s97 _ => n - (intOf s97).toNat)
      case atStart => exact ⟨0, Nat.zero_le _, rfl, Lib.hid (Below.refl _ _)⟩
      case round =>
        obtain ⟨j, hj, rfl, hbq⟩ := hrel
        have HBT := Lib.hid (next_below HBM.out hbq.out)
        have HBW := Lib.hid (next_below HB1.out HBT.out)
        by_cases hlj : j < n
        · have CT := HTU.out wr (j : Nat) HBW.out
          rw [off_self hlj] at CT
          have HCT := Lib.hid CT
          clear CT
          go_wp2_with fail
          refine HCT.out.mono ?_
          rintro e w5 ⟨g9, vs9, rfl, hr9, _, hb5⟩
          have HR9 := Lib.hid hr9
          have HB5 := Lib.hid (next_below hbq.out hb5)
          have HB5T := Lib.hid (next_below HBT.out hb5)
          clear hr9 hb5 HCT
          obtain ⟨q, hq⟩ : ∃ q, q = cmpW (turnN L j) (turnN L p) := ⟨_, rfl⟩
          have CC := ringCompare_any (some ⟨g9, 0, none⟩) (some ⟨g6, 0, none⟩) n n n n (turnN L j) (turnN L p) w5 HR9.out.rd (HR6.out.rd.below HB5T.out) (HOL.out j) (HOL.out p) (by rw [turnN_length, ← HN.out]; omega) (by rw [turnN_length, ← HN.out]; omega) (by rw [turnN_length]; exact HN.out) (by rw [turnN_length]; exact HN.out)
          rw [← hq] at CC
          have HCC := Lib.hid CC
          have HQ := Lib.hid hq
          have hkey : keyOf Try.prog 3 (.int .i64 (j : Int)) = some (.int .i64 (j : Int)) := keyOf_int_mk Try.underlying3 (wfI (by omega))
          obtain ⟨cz, hlk, hat, _⟩ := (map_below HMM.out HB5.out).lookup_int keyI Try.underlying36 Try.underlying3 (zeroI w5) hkey
          have hlp : Least L p := (HGP.out.2.2 p).2 (Nat.mod_eq_of_lt HGP.out.1)
          have hrg := cmpW_stands.rng (turnN L j) (turnN L p)
          have hfl := cmpW_stands.flip (turnN L p) (turnN L j)
          have hll := hlp j
          rw [← hq] at hrg hfl
          have HLK := Lib.hid hlk
          have HNZ : Hid (n = s * i) := HNJ
          clear CC hq hkey hlk
          by_cases hm : j % s = p
          · have hlj2 : Least L j := (HGP.out.2.2 j).2 hm
            have hq0 : q = 0 := by rw [HQ.out, least_same hlj2 hlp]; exact cmpW_stands.same _
            have hdm := Nat.div_add_mod j s
            have hdl : j / s < i := Nat.div_lt_of_lt_mul (by rw [← HNZ.out]; exact hlj)
            rw [markTo_yes i ⟨j / s, hdl, by omega⟩] at hat
            injection hat with hat
            injection hat with _ hat
            subst hq0
            subst hat
            clear hrg hfl hll hdm hm
            go_wp2_with fail
            refine HCC.out.mono ?_
            rintro e w5' ⟨rfl, rfl⟩
            have hlk := HLK.out
            go_wp2_with fail
            go_roundw
            case rel => exact ⟨j + 1, by omega, by go_num, HB5⟩
            case measure => simp [intOf]; omega
          · have hqn : q ≠ 0 := by
              intro e
              have h1 := cmpW_stands.only _ _ (HQ.out.symm.trans e)
              exact hm ((HGP.out.2.2 j).1 ((least_congr h1).2 hlp))
            have hq1 : q = 1 := by omega
            rw [markTo_no i (fun z hz e => hm (by rw [e, Nat.add_mul_mod_self_left, Nat.mod_eq_of_lt HGP.out.1]))] at hat
            injection hat with hat
            injection hat with _ hat
            subst hq1
            subst hat
            clear hrg hfl hll hm hqn
            go_wp2_with fail
            refine HCC.out.mono ?_
            rintro e w5' ⟨rfl, rfl⟩
            have hlk := HLK.out
            go_wp2_with fail
            go_roundw
            case rel => exact ⟨j + 1, by omega, by go_num, HB5⟩
            case measure => simp [intOf]; omega
        · obtain rfl : j = n := by omega
          go_wp2_with fail
          refine (awake_any _).mono ?_
          rintro e wa ⟨rfl, hba⟩
          go_wp2_with fail
          go_ret
          exact ⟨rfl, next_below HBW.out hba⟩

theorem least_walk (v0 : Value) (k : Int) (w : World) (h0 : OkWords w v0) (_hk : -9223372036854775808 ≤ k ∧ k < 9223372036854775808) :
    Calls Try.prog 4 #[v0, .int .i64 k] w fun e w' => e = .returned (.bool true) ∧ Below w.heap.size w w' := by
  obtain ⟨A, c, L, rfl, o0, r0, l0, m0, _⟩ := h0
  have G0 := Lib.hid (great_any A c L w r0 (by omega))
  cases b0 : gW L
  case false =>
    by_cases h : 0 < L.length
    · exact least_main A c L k w r0 o0 b0 h
    · have hz : L.length = 0 := by omega
      rw [hz, b0] at G0
      rw [hz]
      clear b0 r0 o0 hz h l0
      go_enter Try.func4, Try.ntmps4
      go_wp2_with fail
      refine G0.out.mono ?_
      rintro e w1 ⟨rfl, rfl⟩
      go_wp2_with fail
      refine (least_nil A c w).mono ?_
      rintro e w1 ⟨rfl, rfl⟩
      go_wp2_with fail
      refine (awake_any _).mono ?_
      rintro e wa ⟨rfl, hb⟩
      go_wp2_with fail
      go_ret
      exact ⟨rfl, hb⟩
  case true =>
    rw [b0] at G0
    clear b0 r0 o0
    generalize L.length = n at *
    go_enter Try.func4, Try.ntmps4
    go_wp2_with fail
    refine G0.out.mono ?_
    rintro e w1 ⟨rfl, rfl⟩
    go_wp2_with fail
    refine (awake_any _).mono ?_
    rintro e wa ⟨rfl, hb⟩
    go_wp2_with fail
    go_ret
    exact ⟨rfl, hb⟩
end Go.Proofs.Ytmnkghbbcjnlfaa
