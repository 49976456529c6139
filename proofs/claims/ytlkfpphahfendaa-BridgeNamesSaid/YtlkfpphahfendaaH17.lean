/- The reference of layer 8: Fragments, its walk. -/
import Derived.Test.YtlkfpphahfendaaH16
import Derived.Deep.RegionHeld
import Derived.Test.YtlkfpphahfendaaH10
namespace Go.Proofs.Ytlkfpphahfendaa
set_option maxRecDepth 100000
open Go.RowKit

set_option maxHeartbeats 32000000 in
theorem refFrags_any (A B : Option Addr) (c d n m : Nat) (N : Int) (E W : List (Int × Int)) (w : World) (hE : RdP w A E) (hW : RdP w B W) (hn : n = E.length) (hm : m = W.length) (hs : n ≤ 1000) (ht : m ≤ 1000) :
    Calls Try.prog 12 #[.agg #[.int .i64 N, .slice A n c], .slice B m d] w fun e w' => ∃ V fr, e = .returned (.tuple #[V, .int .i64 (fragsT N E W).2]) ∧ Frags w' w.heap.size V fr (fragsT N E W).1 ∧ Below w.heap.size w w' := by
  obtain ⟨FT, hFT⟩ : ∃ FT, FT = fragsT N E W := ⟨_, rfl⟩
  rw [← hFT]
  obtain ⟨X, hX⟩ : ∃ X, X = w.alloc (.cells #[.int .i64 N, .slice A n c] 24) := ⟨_, rfl⟩
  have hb : Below w.heap.size w X := by rw [hX]; exact (Below.refl _ _).alloc (Nat.le_refl _) _
  have hXS : w.heap.size < X.heap.size := by rw [hX]; simp
  obtain ⟨j0, j1, _, _⟩ := cells_two (w := X) (by rw [hX]; exact heap_alloc_new w _)
  have HJ : Hid (∀ w', Below X.heap.size X w' → w'.cell? ⟨w.heap.size, 0, none⟩ = some (.int .i64 N) ∧ w'.cell? ⟨w.heap.size, 1, none⟩ = some (.slice A n c)) := fun w' hb =>
    ⟨by rw [hb.cell (by show w.heap.size < _; omega)]; exact j0, by rw [hb.cell (by show w.heap.size < _; omega)]; exact j1⟩
  have HR := Lib.hid (refRight_any A c n N E X (hE.below hb) hn (by omega))
  have HR2 : Hid (∀ w', Below X.heap.size X w' → Calls Try.prog 34 #[.agg #[.int .i64 N, .slice B m d]] w' fun e w'' => e = .returned (.bool (rightG N W)) ∧ Below w'.heap.size w' w'') := fun w' hb' => refRight_any B d m N W w' ((hW.below hb).below hb') hm (by omega)
  have HE := Lib.hid (hE.below hb)
  have HW := Lib.hid (hW.below hb)
  have HN := Lib.hid hn
  have HM := Lib.hid hm
  have HX := Lib.hid hX
  have HB := Lib.hid hb
  have HXS := Lib.hid hXS
  have HFT := Lib.hid hFT
  obtain ⟨i1, hi1, hy0, hy1, hy2⟩ := info_partsI pairinfo
  obtain ⟨i2, hi2, hx0, hx1, hx2⟩ := info_partsI fraginfo
  clear hE hW hn hm hX hb hFT hXS
  go_enter Try.func12, Try.ntmps12
  go_wp2_with fail
  rw [← HX.out]
  refine HR.out.mono ?_
  rintro e w1 ⟨rfl, hb1⟩
  have HB1 := Lib.hid hb1
  clear hb1 j0 j1
  cases hg : rightG N E with
  | false =>
    go_wp2_with fail
    go_ret2
    have hF : FT = ([], 20) := by rw [HFT.out]; unfold fragsT; rw [if_pos hg]
    subst hF
    exact ⟨_, [], rfl, Frags.nil _ _, HB.out.trans (HB1.out.mono (by have := HXS.out; omega))⟩
  | true =>
    have HG := Lib.hid hg
    obtain ⟨j0, j1⟩ := HJ.out w1 HB1.out
    clear hg
    go_wp2_with fail
    refine (HR2.out w1 HB1.out).mono ?_
    rintro e w2 ⟨rfl, hb2⟩
    have HB2 := Lib.hid (next_below HB1.out hb2)
    have HNO : Hid (¬ (rightG N W = true ∧ ∀ e ∈ W, e ∈ E) → FT = ([], 2)) := fun h => by
      rw [HFT.out]
      unfold fragsT
      rw [if_neg (by rw [HG.out]; simp), if_neg (fun h2 => h ((web_ok HG.out).1 h2))]
    clear hb2 j0 j1
    cases hg2 : rightG N W with
    | false =>
      go_wp2_with fail
      go_ret2
      have hF := HNO.out (fun h => by rw [hg2] at h; exact absurd h.1 (by simp))
      subst hF
      exact ⟨_, [], rfl, Frags.nil _ _, HB.out.trans (HB2.out.mono (by have := HXS.out; omega))⟩
    | true =>
      have HG2 := Lib.hid hg2
      clear hg2
      go_wp2_with fail
      go_loopw [6] (fun s6 wr => ∃ k : Nat, k ≤ m ∧ s6 = .int .i64 k ∧ Hid (∀ (q : Nat) (e : Int × Int), q < k → W[q]? = some e → e ∈ E) ∧ Hid (Below X.heap.size X wr)) (fun s6 _ => m - (intOf s6).toNat)
      case atStart => exact ⟨0, Nat.zero_le _, rfl, (fun q e h => by omega), HB2⟩
      case round =>
        obtain ⟨k, hk, rfl, hO, hbel⟩ := hrel
        obtain ⟨j0, j1⟩ := HJ.out wr hbel.out
        by_cases h1 : k < m
        · have t1 : decide ((k : Int) < (m : Int)) = true := by simp; omega
          have hK0 : (0 : Int) ≤ (k : Int) := by omega
          have hK1 : (k : Int) < (m : Nat) := by omega
          obtain ⟨e, he⟩ : ∃ e, W[k]? = some e := ⟨_, List.getElem?_eq_getElem (by rw [← HM.out]; exact h1)⟩
          obtain ⟨ad, rfl, hal, p0, p1⟩ := (HW.out.below hbel.out) k e he
          obtain ⟨x, y⟩ := e
          simp only at p0 p1
          have HWE := Lib.hid he
          obtain ⟨v, hv⟩ : ∃ v, decide ((x, y) ∈ E) = v := ⟨_, rfl⟩
          have HV := Lib.hid hv
          have HHS : Hid (∀ w', Below wr.heap.size wr w' → Calls Try.prog 35 #[.slice A n c, .agg #[.int .i64 x, .int .i64 y]] w' fun e w'' => e = .returned (.bool v) ∧ Below w'.heap.size w' w'') := fun w' hb' => by
            rw [← hv]
            exact has_any8 A c n E x y w' ((HE.out.below hbel.out).below hb') HN.out (by omega)
          have HKP : Hid (∀ w', Below wr.heap.size wr w' → w'.cell? ⟨w.heap.size, 1, none⟩ = some (.slice A n c) ∧ w'.cell? (ad.add (k * 2)) = some (.int .i64 x) ∧ w'.cell? ⟨(ad.add (k * 2)).block, (ad.add (k * 2)).off + 1, none⟩ = some (.int .i64 y) ∧ Below wr.heap.size wr w') := fun w' hb' =>
            ⟨(HJ.out w' (next_below hbel.out hb')).2, by rw [hb'.cell (by rw [block_add]; exact hal)]; exact p0, by rw [hb'.cell (by show (ad.add (k * 2)).block < _; rw [block_add]; exact hal)]; exact p1, hb'⟩
          have hD := HKP.out wr.drew (Below.refl _ _).drew
          clear he hv p0 p1 j0 j1 hal
          go_upto_region 8 with fail
          refine wp_region_held_drew (S := (fun w' => w'.cell? ⟨w.heap.size, 1, none⟩ = some (.slice A n c) ∧ w'.cell? (ad.add (k * 2)) = some (.int .i64 x) ∧ w'.cell? ⟨(ad.add (k * 2)).block, (ad.add (k * 2)).off + 1, none⟩ = some (.int .i64 y) ∧ Below wr.heap.size wr w')) (by kernel_rfl) hD (fun hS => ?_)
          refine wpAnyH_take (i := 0) (v := ?_) rfl (by kernel_rfl) (by kernel_rfl) (by kernel_rfl) (fun _ _ _ h => h) (Or.inl ⟨by rfl, ?_⟩) hS ?_
          rotate_left
          · intro wz hSw; (try dsimp only at hSw); obtain ⟨z1, z2, z3, z4⟩ := hSw; go_simp; (try with_reducible rfl)
          try simp only [List.getElem_toArray, List.getElem_cons_zero, List.getElem_cons_succ, Act.put, List.setIfInBounds_toArray, List.set_cons_zero, List.set_cons_succ]
          refine wpAnyH_take (i := 1) (v := ?_) rfl (by kernel_rfl) (by kernel_rfl) (by kernel_rfl) (fun _ _ _ h => h) (Or.inl ⟨by rfl, ?_⟩) hS ?_
          rotate_left
          · intro wz hSw; (try dsimp only at hSw); obtain ⟨z1, z2, z3, z4⟩ := hSw; go_simp; (try with_reducible rfl)
          try simp only [List.getElem_toArray, List.getElem_cons_zero, List.getElem_cons_succ, Act.put, List.setIfInBounds_toArray, List.set_cons_zero, List.set_cons_succ]
          refine wpAnyH_take (i := 2) (v := ?_) rfl (by kernel_rfl) (by kernel_rfl) (by kernel_rfl) (fun _ _ _ h => h) (Or.inl ⟨by rfl, ?_⟩) hS ?_
          rotate_left
          · intro wz hSw; (try dsimp only at hSw); obtain ⟨z1, z2, z3, z4⟩ := hSw; go_simp; (try with_reducible rfl)
          try simp only [List.getElem_toArray, List.getElem_cons_zero, List.getElem_cons_succ, Act.put, List.setIfInBounds_toArray, List.set_cons_zero, List.set_cons_succ]
          refine wpAnyH_take (i := 3) (v := ?_) rfl (by kernel_rfl) (by kernel_rfl) (by kernel_rfl) (fun _ _ _ h => h) (Or.inl ⟨by rfl, ?_⟩) hS ?_
          rotate_left
          · intro wz hSw; (try dsimp only at hSw); obtain ⟨z1, z2, z3, z4⟩ := hSw; go_simp; (try with_reducible rfl)
          try simp only [List.getElem_toArray, List.getElem_cons_zero, List.getElem_cons_succ, Act.put, List.setIfInBounds_toArray, List.set_cons_zero, List.set_cons_succ]
          refine wpAnyH_take (i := 4) (v := ?_) rfl (by kernel_rfl) (by kernel_rfl) (by kernel_rfl) (fun _ _ _ h => h) (Or.inl ⟨by rfl, ?_⟩) hS ?_
          rotate_left
          · intro wz hSw; (try dsimp only at hSw); obtain ⟨z1, z2, z3, z4⟩ := hSw; go_simp; (try with_reducible rfl)
          try simp only [List.getElem_toArray, List.getElem_cons_zero, List.getElem_cons_succ, Act.put, List.setIfInBounds_toArray, List.set_cons_zero, List.set_cons_succ]
          refine wpAnyH_take (i := 5) (v := ?_) rfl (by kernel_rfl) (by kernel_rfl) (by kernel_rfl) (fun _ _ _ h => h) (Or.inl ⟨by rfl, ?_⟩) hS ?_
          rotate_left
          · intro wz hSw; (try dsimp only at hSw); obtain ⟨z1, z2, z3, z4⟩ := hSw; go_simp; (try with_reducible rfl)
          try simp only [List.getElem_toArray, List.getElem_cons_zero, List.getElem_cons_succ, Act.put, List.setIfInBounds_toArray, List.set_cons_zero, List.set_cons_succ]
          refine wpAnyH_ready (rs := [6]) (by kernel_rfl) (by simp) (AllReadyH.cons rfl (fun K hK => ?_) AllReadyH.nil)
          go_simp
          go_at_call 35
          refine (HHS.out _ hS.2.2.2).mono ?_
          rintro e wn ⟨rfl, hb⟩
          go_wp2_with fail
          have hS := HKP.out wn (next_below hS.2.2.2 hb)
          refine hK.out _ _ hS (fun _ => ?_)
          clear hK K
          try simp only [List.getElem_toArray, List.getElem_cons_zero, List.getElem_cons_succ, Act.put, List.setIfInBounds_toArray, List.set_cons_zero, List.set_cons_succ]
          refine wpAnyH_take (i := 7) (v := ?_) rfl (by kernel_rfl) (by kernel_rfl) (by kernel_rfl) (fun _ _ _ h => h) (Or.inl ⟨by rfl, ?_⟩) hS ?_
          rotate_left
          · intro wz hSw; (try dsimp only at hSw); go_simp; (try with_reducible rfl)
          try simp only [List.getElem_toArray, List.getElem_cons_zero, List.getElem_cons_succ, Act.put, List.setIfInBounds_toArray, List.set_cons_zero, List.set_cons_succ]
          refine wpAnyH_done (by kernel_rfl) ?_ _
          cases v
          · go_wp2_with fail
            go_ret2
            have hF := HNO.out (fun h => (of_decide_eq_false HV.out) (h.2 _ (List.mem_of_getElem? HWE.out)))
            subst hF
            exact ⟨_, [], rfl, Frags.nil _ _, HB.out.trans ((next_below hbel.out hS.2.2.2).mono (by have := HXS.out; omega))⟩
          · have HO2 : Hid (∀ (q : Nat) (e : Int × Int), q < k + 1 → W[q]? = some e → e ∈ E) := fun q e h he => by
              by_cases e1 : q = k
              · subst e1
                rw [HWE.out] at he
                injection he with he
                subst he
                exact of_decide_eq_true HV.out
              · exact hO.out q e (by omega) he
            go_wp2_with fail
            go_roundw
            case rel => exact ⟨k + 1, by omega, by go_num, HO2, Lib.hid (next_below hbel.out hS.2.2.2)⟩
            case measure => simp [intOf]; omega
        · obtain rfl : k = m := by omega
          have t1 : decide ((k : Int) < (k : Int)) = false := by simp
          obtain ⟨hN0, hN2, _⟩ := rightG_bounds HG.out
          obtain ⟨Nn, rfl⟩ := Int.eq_ofNat_of_zero_le hN0
          have hall : ∀ e ∈ W, e ∈ E := fun e he => by
            obtain ⟨q, hq⟩ := List.getElem?_of_mem he
            exact hO.out q e (by rw [HM.out]; exact (List.getElem?_eq_some_iff.1 hq).1) hq
          have hok := (web_ok HG.out).2 ⟨HG2.out, hall⟩
          have hF : FT = ((refS W E Nn n).1, 0) := by
            rw [HFT.out]
            unfold fragsT
            rw [if_neg (by rw [HG.out]; simp), if_pos hok, HN.out, ← fragsF_ref HG.out hok]
            rfl
          subst hF
          have HRI : Hid (RI X.heap.size W E Nn 0 (.slice none 0 0) (.slice none 0 0) [] wr) := ⟨World.ownsRow_nil _ _ _ _, Frags.nil _ _, (fun p hp => by cases hp)⟩
          clear hall hok hN0
          go_wp2_with fail
          go_loopw [9, 8, 7] (fun s9 s8 s7 wn => ∃ (k2 : Nat) (Vd Vo : Value) (fr : List (Value × Value)), k2 ≤ n ∧ s9 = .int .i64 k2 ∧ s8 = Vd ∧ s7 = Vo ∧ Hid (RI X.heap.size W E Nn k2 Vd Vo fr wn) ∧ Hid (Below X.heap.size X wn)) (fun s9 _ _ _ => n - (intOf s9).toNat)
          case atStart => exact ⟨0, _, _, [], Nat.zero_le _, rfl, rfl, rfl, HRI, hbel⟩
          case round =>
            clear j0 j1 hbel hO
            obtain ⟨k2, Vd, Vo, fr, hk2, rfl, rfl, rfl, hRI, hbel⟩ := hrel
            obtain ⟨j0, j1⟩ := HJ.out wr hbel.out
            by_cases h2 : k2 < n
            · have t2 : decide ((k2 : Int) < (n : Int)) = true := by simp; omega
              have hK0 : (0 : Int) ≤ (k2 : Int) := by omega
              have hK1 : (k2 : Int) < (n : Nat) := by omega
              obtain ⟨e, he⟩ : ∃ e, E[k2]? = some e := ⟨_, List.getElem?_eq_getElem (by rw [← HN.out]; exact h2)⟩
              obtain ⟨ad, rfl, hal, p0, p1⟩ := (HE.out.below hbel.out) k2 e he
              obtain ⟨x, y⟩ := e
              simp only at p0 p1
              have HEE := Lib.hid he
              have hbY : Below wr.heap.size wr (wr.alloc (.cells #[.int .i64 x, .int .i64 y] 44)) := (Below.refl _ _).alloc (Nat.le_refl _) _
              have hEB : (wr.alloc (.cells #[.int .i64 x, .int .i64 y] 44)).heap[wr.heap.size]? = some (.cells #[.int .i64 x, .int .i64 y] 44 (0, 0)) := heap_alloc_new wr _
              have HRY := Lib.hid (hRI.out.below hbY)
              have HBY := Lib.hid (next_below hbel.out hbY)
              clear he hbY hal hRI hbel
              go_upto_region 16 with fail
              obtain ⟨pe, hpe⟩ : ∃ pe, wr.heap.size = pe := ⟨_, rfl⟩
              generalize wr.alloc (.cells #[.int .i64 x, .int .i64 y] 44) = Y at *
              rw [hpe] at hEB ⊢
              clear p0 p1 hpe j0 j1
              have HEB := Lib.hid hEB
              obtain ⟨r0, r1, _, _⟩ := cells_two hEB
              obtain ⟨p, hp⟩ : ∃ p, decide ((x, y) ∈ W) = p := ⟨_, rfl⟩
              have HC1 := has_any8 B d k W x y Y (HW.out.below HBY.out) HM.out (by omega)
              rw [hp] at HC1
              have HC1 := Lib.hid HC1
              have HPW := Lib.hid hp
              clear hEB hp
              go_wp2_with fail
              refine HC1.out.mono ?_
              rintro e w3 ⟨rfl, hb3⟩
              have HB3 := Lib.hid (next_below HBY.out hb3)
              have HR3 := Lib.hid (HRY.out.below hb3)
              have HE3 := Lib.hid (blk_below HEB.out hb3)
              clear hb3 r0 r1 HC1 HRY HEB HBY
              obtain ⟨r0, r1, _, _⟩ := cells_two HE3.out
              cases p
              rotate_left
              · have hsame := refS_old (n := Nn) HEE.out (.inl (of_decide_eq_true HPW.out))
                have HR3' : Hid (RI X.heap.size W E Nn (k2 + 1) u8 u7 fr w3) := by
                  obtain ⟨q1, q2, q3⟩ := HR3.out
                  exact ⟨by rw [hsame]; exact q1, by rw [hsame]; exact q2, q3⟩
                clear hsame
                go_wp2_with fail
                go_roundw
                case rel => exact ⟨k2 + 1, _, _, fr, by omega, by go_num, rfl, rfl, HR3', HB3⟩
                case measure => simp [intOf]; omega
              · obtain ⟨ld, hld⟩ : ∃ ld, (refS W E Nn k2).2.length = ld := ⟨_, rfl⟩
                obtain ⟨lo, hlo⟩ : ∃ lo, (refS W E Nn k2).1.length = lo := ⟨_, rfl⟩
                obtain ⟨Bd, cd, rfl⟩ : ∃ Bd cd, u8 = .slice Bd ld cd := by rw [← hld]; exact owns_form HR3.out.d
                obtain ⟨Bo, co, rfl⟩ : ∃ Bo co, u7 = .slice Bo lo co := by rw [← hlo]; exact owns_form HR3.out.f.row
                have hlen := refS_len W E Nn k2
                rw [hld, hlo, ← HN.out] at hlen
                have hmul : k2 * n ≤ 1000 * 1000 := Nat.mul_le_mul (by omega) (by omega)
                have hldb : ld ≤ 1000000 := by omega
                have hlob : lo ≤ 1000 := by omega
                have hrdd : RdP w3 Bd (refS W E Nn k2).2 := by
                  obtain ⟨B', c', e1, h2, _, _⟩ := own_rdP HR3.out.d
                  injection e1 with e1 _ _
                  subst e1
                  exact h2
                obtain ⟨q, hq⟩ : ∃ q, decide ((x, y) ∈ (refS W E Nn k2).2) = q := ⟨_, rfl⟩
                have HC2 := has_any8 Bd cd ld (refS W E Nn k2).2 x y w3 hrdd hld.symm hldb
                rw [hq] at HC2
                have HC2 := Lib.hid HC2
                have HQW := Lib.hid hq
                have HLD := Lib.hid hld
                have HLO := Lib.hid hlo
                clear hq hrdd hld hlo hlen hmul
                go_wp2_with fail
                refine HC2.out.mono ?_
                rintro e w4 ⟨rfl, hb4⟩
                have HB4 := Lib.hid (next_below HB3.out hb4)
                have HR4 := Lib.hid (HR3.out.below hb4)
                have HE4 := Lib.hid (blk_below HE3.out hb4)
                clear hb4 r0 r1 HC2 HR3 HE3 HB3
                obtain ⟨r0, r1, _, _⟩ := cells_two HE4.out
                obtain ⟨j0, j1⟩ := HJ.out w4 HB4.out
                cases q
                rotate_left
                · have hsame := refS_old (n := Nn) HEE.out (.inr (of_decide_eq_true HQW.out))
                  have HR4' : Hid (RI X.heap.size W E Nn (k2 + 1) (.slice Bd ld cd) (.slice Bo lo co) fr w4) := by
                    obtain ⟨q1, q2, q3⟩ := HR4.out
                    exact ⟨by rw [hsame]; exact q1, by rw [hsame]; exact q2, q3⟩
                  clear hsame j0 j1
                  go_wp2_with fail
                  go_roundw
                  case rel => exact ⟨k2 + 1, _, _, fr, by omega, by go_num, rfl, rfl, HR4', HB4⟩
                  case measure => simp [intOf]; omega
                · have HNEW := Lib.hid (refS_new (W := W) (n := Nn) HEE.out (fun h => h.elim (of_decide_eq_false HPW.out) (of_decide_eq_false HQW.out)))
                  have HGA := Lib.hid (grown_any (some ad) B c d n k Nn E W x y w4 (HE.out.below HB4.out) (HW.out.below HB4.out) HN.out HM.out hs ht (List.mem_of_getElem? HEE.out))
                  obtain ⟨Gp, hGp⟩ : ∃ Gp, grp W E (x, y) = Gp := ⟨_, rfl⟩
                  have hgm : (x, y) ∈ Gp := by rw [← hGp]; exact grp_mem.2 ⟨List.mem_of_getElem? HEE.out, .refl⟩
                  have hgl : Gp.length ≤ n := by
                    rw [← hGp, HN.out]
                    unfold grp
                    exact List.length_filter_le _ _
                  rw [hGp] at HGA HNEW
                  have HNW := HNEW
                  clear hGp HNEW
                  go_wp2_with fail
                  refine HGA.out.mono ?_
                  rintro e w5 ⟨Vl, rfl, hl5, hb5⟩
                  obtain ⟨nl, hnl⟩ : ∃ nl, Gp.length = nl := ⟨_, rfl⟩
                  have hpos : 0 < nl := by rw [← hnl]; exact List.length_pos_of_mem hgm
                  rw [hnl] at hl5 hgl
                  obtain ⟨gl, cl, rfl⟩ := Joins.ownsRow_form hl5 hpos
                  have hgl5 := hl5.lt gl rfl
                  have HL5 := Lib.hid hl5
                  have HNL := Lib.hid hnl
                  have HR5 := Lib.hid (HR4.out.below hb5)
                  have HB5 := Lib.hid (next_below HB4.out hb5)
                  have hd5 := HR5.out.d
                  have hd4 := HR4.out.d
                  rw [HLD.out] at hd5 hd4
                  have HD5 := Lib.hid hd5
                  have HD4 := Lib.hid hd4
                  have HNC : Hid (∀ (j : Nat) (u : Value), (pcells Gp)[j]? = some u → w5.cell? ((⟨gl, 0, none⟩ : Addr).add j) = some u) := fun j u h => hl5.cells rfl j u h
                  have HPL : Hid ((pcells Gp).length = nl * 2) := by show _ = _; rw [pcells_length, hnl]
                  have HOC : Hid (∀ u ∈ pcells Gp, u.oneCell' = true) := by
                    intro u hu
                    unfold pcells at hu
                    rw [List.mem_flatMap] at hu
                    obtain ⟨e, _, hu⟩ := hu
                    simp [zv] at hu
                    rcases hu with rfl | rfl <;> rfl
                  have HNB : Hid (∀ w', w5.grownBy w' (Value.slice Bd ld cd).ownBlock → Below X.heap.size X w' ∧ w'.cell? ⟨w.heap.size, 0, none⟩ = some (.int .i64 Nn) ∧ w'.cell? ⟨w.heap.size, 1, none⟩ = some (.slice (some ad) n c)) := fun w' hg' => by
                    have h1 : Below X.heap.size X w' := HB5.out.grown hg' HB5.out.size (fun g e => (HD5.out.lt g e).1)
                    exact ⟨h1, HJ.out w' h1⟩
                  clear hl5 hb5 hd5 hd4 r0 r1 j0 j1 HGA hgm hnl
                  have hX5 := HB5.out.size
                  go_wp2_with (at_builtin; refine wpList_append_lies _ rfl (.tmp 59) (.tmp 60) 22 rfl X.heap.size 44 i1 (.agg #[.int .i64 0, .int .i64 0]) 2 16 Try.underlying22 hi1 hy0 hy1 hy2 rfl (by decide) _ ld (pcells (refS W E Nn k2).2) rfl HD5.out ⟨gl, 0, none⟩ nl cl (pcells Gp) (by simp [Act.eval]) HPL.out HNC.out HOC.out hpos (by simp [maxLen]; omega) (by omega) hX5 w5.heap.size rfl ?_; intro g6 c6 w6 hr6 hg6 ho6 _; obtain ⟨hB6, s0, s1⟩ := HNB.out w6 hg6)
                  obtain ⟨hF6, hA6⟩ := HR5.out.done (l := ld + nl) (G := Gp) hg6 (by rw [show pcells ((refS W E Nn k2).2 ++ Gp) = pcells (refS W E Nn k2).2 ++ pcells Gp from List.flatMap_append]; exact hr6) ho6
                  have hl6 : w6.ownsRow X.heap.size 44 2 (.slice (some ⟨gl, 0, none⟩) nl cl) nl (pcells Gp) := Go.Joins.ownsRow_le (own_same HL5.out fun q e1 e2 e3 => hg6.block q e2 fun e4 => by have := (HD4.out.lt q e4.symm).2; omega) HB4.out.size
                  have hnn : gl ≠ g6 := by
                    rcases ho6 with h | h
                    · have := (HD4.out.lt _ h).2
                      omega
                    · omega
                  have hd6 : w6.ownsRow X.heap.size 44 2 (.slice (some ⟨g6, 0, none⟩) (ld + nl) c6) (ld + nl) (pcells ((refS W E Nn k2).2 ++ Gp)) := by
                    rw [show pcells ((refS W E Nn k2).2 ++ Gp) = pcells (refS W E Nn k2).2 ++ pcells Gp from List.flatMap_append]
                    exact hr6
                  have hrl6 : RdP w6 (some ⟨gl, 0, none⟩) Gp := by
                    obtain ⟨B', c', e1, h2, _, _⟩ := own_rdP hl6
                    injection e1 with e1 _ _
                    subst e1
                    exact h2
                  have hsz6 : w4.heap.size ≤ w6.heap.size := Nat.le_trans (Nat.le_of_lt (Nat.lt_of_le_of_lt hgl5.1 hgl5.2)) hg6.size
                  have HF6 := Lib.hid hF6
                  have HA6 := Lib.hid hA6
                  have HL6 := Lib.hid hl6
                  have HD6 := Lib.hid hd6
                  have HB6 := Lib.hid hB6
                  have HFT := Lib.hid (feet_any B (some ⟨gl, 0, none⟩) d cl k nl Nn W Gp w6 (HW.out.below hB6) hrl6 HM.out HNL.out.symm (by omega) (by omega) (by omega))
                  clear s0 s1 hF6 hA6 hl6 hd6 hrl6 hB6 hg6 hr6 ho6
                  refine HFT.out.mono ?_
                  rintro e w7 ⟨Vf, rfl, hf7, hb7⟩
                  obtain ⟨lf, hlf⟩ : ∃ lf, (feetR W Gp Nn).length = lf := ⟨_, rfl⟩
                  rw [hlf] at hf7
                  obtain ⟨Bf, cf, rfl⟩ : ∃ Bf cf, Vf = .slice Bf lf cf := owns_form hf7
                  have HF7 := Lib.hid (HF6.out.below hb7)
                  have HL7 := Lib.hid (row_below HL6.out hb7)
                  have HD7 := Lib.hid (row_below HD6.out hb7)
                  have HB7 := Lib.hid (next_below HB6.out hb7)
                  have HV7 := Lib.hid hf7
                  have HLF := Lib.hid hlf
                  have hfr7 := HF7.out.row
                  rw [HLO.out] at hfr7
                  have hbz : Below w7.heap.size w7 (w7.alloc (.cells #[.slice (some ⟨gl, 0, none⟩) nl cl, .slice Bf lf cf] 43)) := (Below.refl _ _).alloc (Nat.le_refl _) _
                  have HBZ := Lib.hid hbz
                  have HFR := Lib.hid (hfr7.alloc (.cells #[.slice (some ⟨gl, 0, none⟩) nl cl, .slice Bf lf cf] 43))
                  have HLT : Hid (∀ (i : Nat) (u : Value), [Value.slice (some ⟨gl, 0, none⟩) nl cl, .slice Bf lf cf][i]? = some u → (w7.alloc (.cells #[.slice (some ⟨gl, 0, none⟩) nl cl, .slice Bf lf cf] 43)).cell? ((⟨w7.heap.size, 0, none⟩ : Addr).add i) = some u) := fun i u hi => by
                    rw [← hi, add_off, World.cell?_alloc_at _ _ _ _ rfl]
                    simp
                  have hX7 := HB7.out.size
                  have hsz7 := hb7.size
                  have hX4 := HB4.out.size
                  clear hf7 hb7 hlf hfr7 hbz HFT
                  go_wp2_with (at_builtin; refine wpList_append_lies _ rfl (.tmp 62) (.tmp 70) 27 rfl X.heap.size 43 i2 (.agg #[.slice none 0 0, .slice none 0 0]) 2 48 Try.underlying27 hi2 hx0 hx1 hx2 rfl (by decide) _ lo (fcells fr) rfl HFR.out ⟨w7.heap.size, 0, none⟩ 1 1 [.slice (some ⟨gl, 0, none⟩) nl cl, .slice Bf lf cf] (by simp [Act.eval]) rfl HLT.out (by simp [Value.oneCell']) (by omega) (by simp [maxLen]; omega) (by omega) (by simp; omega) (w7.heap.size + 1) (by simp) ?_; intro g8 c8 w8 hr8 hg8 _ _)
                  have hP8 := HF7.out.push (k := lo) (x := (Gp, feetR W Gp Nn)) HLO.out.symm HBZ.out hg8 (by rw [HNL.out]; exact HL7.out) (by rw [HLF.out]; exact Go.Joins.ownsRow_le HV7.out (by omega))
                    (fun p hp g e e2 => by
                      have h1 := (HR4.out.f.edge_lt hp).1 e
                      have e2 : gl = g := by simpa [Value.ownBlock] using e2
                      omega)
                    (fun p hp g e e2 => by
                      have h1 := (HR4.out.f.edge_lt hp).2 e
                      have h2 := (HV7.out.lt g e2).1
                      omega) hr8
                  have hd8 : w8.ownsRow X.heap.size 44 2 (.slice (some ⟨g6, 0, none⟩) (ld + nl) c6) (ld + nl) (pcells ((refS W E Nn k2).2 ++ Gp)) :=
                    own_same (row_below HD7.out HBZ.out) fun q e1 e2 _ => hg8.block q e2 fun e3 => own_typ HD7.out HF7.out.row (by decide) e1 e3.symm
                  have HR8 : Hid (RI X.heap.size W E Nn (k2 + 1) (.slice (some ⟨g6, 0, none⟩) (ld + nl) c6) (.slice (some ⟨g8, 0, none⟩) (lo + 1) c8) (fr ++ [(.slice (some ⟨gl, 0, none⟩) nl cl, .slice Bf lf cf)]) w8) := by
                    refine ⟨?_, ?_, ?_⟩
                    · rw [HNW.out, List.length_append, HLD.out, HNL.out]
                      exact hd8
                    · rw [HNW.out]
                      exact hP8
                    · intro p hp g e
                      rcases List.mem_append.1 hp with h | h
                      · exact HA6.out p h g e
                      · simp at h
                        subst h
                        intro e2
                        have e1 : gl = g := by simpa [Value.ownBlock] using e
                        have e2 : g6 = g := by simpa [Value.ownBlock] using e2
                        omega
                  have HB8 := Lib.hid ((HB7.out.alloc hX7 _).grown hg8 (by simp; omega) (fun q e => (HFR.out.lt q e).1))
                  clear hP8 hd8 hr8 hg8
                  go_wp2_with fail
                  go_roundw
                  case rel => exact ⟨k2 + 1, _, _, _, by omega, by go_num, rfl, rfl, HR8, HB8⟩
                  case measure => simp [intOf]; omega
            · obtain rfl : k2 = n := by omega
              have t2 : decide ((k2 : Int) < (k2 : Int)) = false := by simp
              go_wp2_with fail
              go_ret2
              exact ⟨_, rfl, ⟨fr, hRI.out.f.less (by have := HXS.out; omega)⟩, HB.out.trans (hbel.out.mono (by have := HXS.out; omega))⟩
end Go.Proofs.Ytlkfpphahfendaa
