/- The reference's walk and Away in one form; the reference's parts (fretworkref04.Parts). -/
import Derived.Test.YtpkiogcedfmodaaW48
namespace Go.Proofs.Ytpkiogcedfmodaa
open Go.RowKit

set_option maxRecDepth 100000 in
set_option maxHeartbeats 4000000 in
theorem refWalkT (A : Option Addr) (c n : Nat) (N v : Int) (E : List (Int × Int)) (w : World) (hr : RdP w A E) (hn : n = E.length) (hs : n ≤ 1000000) :
    Calls Try.prog 13 #[.agg #[.int .i64 N, .slice A n c], .int .i64 v] w fun e w' => ∃ (A1 A2 : Option Addr) (n1 c1 n2 c2 : Nat), e = .returned (.tuple #[.slice A1 n1 c1, .slice A2 n2 c2, .int .i64 (walkR N E v).2.2]) ∧
      n1 = (walkR N E v).1.length ∧ n2 = (walkR N E v).2.1.length ∧ RdZ w' A1 (walkR N E v).1 ∧ RdZ w' A2 (walkR N E v).2.1 ∧ Below w.heap.size w w' := by
  by_cases h0 : askE N E v = 0
  · obtain ⟨m, u, rfl, rfl, hu, hg⟩ := askE_zero h0
    refine (refWalk_yes A c n m u E w hr hn hg hu).mono ?_
    rintro e w' ⟨go, co, gu, cu, order, up, rfl, ho, hU, hR, hb⟩
    obtain ⟨e1, e2⟩ := hR.done (tab_is hg) (fun _ _ => tabG_sym hg) hu
    have hw : walkR (m : Int) E (u : Int) = (order.map fun (x : Nat) => (x : Int), up, 0) := by
      unfold walkR
      rw [if_pos h0]
      simp only [Int.toNat_natCast]
      rw [e1, e2]
    rw [hw]
    exact ⟨_, _, _, _, _, _, rfl, by simp, hU.len.symm, ho.rd, hU.rd, hb⟩
  · have hw : walkR N E v = ([], [], askE N E v) := by unfold walkR; rw [if_neg h0]
    rw [hw]
    have HE : Hid (askE N E v = 2 ∨ askE N E v = 20) := by
      rcases askE_cases N v E with h | h | h
      · exact absurd h h0
      · exact .inl h
      · exact .inr h
    obtain ⟨W, hW⟩ : ∃ W, W = w.alloc (.cells #[.int .i64 N, .slice A n c] 24) := ⟨_, rfl⟩
    have hb : Below w.heap.size w W := by rw [hW]; exact (Below.refl _ _).alloc (Nat.le_refl _) _
    have HRF := Lib.hid (asked_any A c n N v E W (hr.below hb) hn hs)
    have HB := Lib.hid hb
    have HW := Lib.hid hW
    obtain ⟨q, hq⟩ : ∃ q, askE N E v = q := ⟨_, rfl⟩
    rw [hq] at HRF HE ⊢
    have hq0 : (q != 0) = true := by rw [bne_iff_ne]; rcases HE.out with h | h <;> omega
    clear hr hn hb hW h0 hw hq
    go_enter Try.func13, Try.ntmps13
    go_wp2_with fail
    rw [← HW.out]
    refine HRF.out.mono ?_
    rintro e w1 ⟨rfl, hb1⟩
    have HB1 := Lib.hid hb1
    clear hb1
    go_wp2_with fail
    go_ret3
    exact ⟨none, none, 0, 0, 0, 0, rfl, rfl, rfl, rdz_nil _ _, rdz_nil _ _, HB.out.trans (HB1.out.mono HB.out.size)⟩
set_option maxRecDepth 100000 in
set_option maxHeartbeats 4000000 in
theorem refAwayT (A : Option Addr) (c n : Nat) (N v : Int) (E : List (Int × Int)) (w : World) (hr : RdP w A E) (hn : n = E.length) (hs : n ≤ 1000000) :
    Calls Try.prog 15 #[.agg #[.int .i64 N, .slice A n c], .int .i64 v] w fun e w' => ∃ (A1 : Option Addr) (n1 c1 : Nat), e = .returned (.tuple #[.slice A1 n1 c1, .int .i64 (awayR N E v).2]) ∧
      n1 = (awayR N E v).1.length ∧ RdZ w' A1 (awayR N E v).1 ∧ Below w.heap.size w w' := by
  by_cases h0 : askE N E v = 0
  · obtain ⟨m, u, rfl, rfl, hu, hg⟩ := askE_zero h0
    refine (refAway_yes A c n m u E w hr hn hg hu).mono ?_
    rintro e w' ⟨gu, cu, rfl, ho, _, hb⟩
    have hw : awayR (m : Int) E (u : Int) = (distOf (tabG m E) m u, 0) := by
      unfold awayR
      rw [if_pos h0]
      simp only [Int.toNat_natCast]
    rw [hw]
    exact ⟨_, _, _, rfl, ho.len.symm, ho.rd, hb⟩
  · have hw : awayR N E v = ([], askE N E v) := by unfold awayR; rw [if_neg h0]
    rw [hw]
    have HE : Hid (askE N E v = 2 ∨ askE N E v = 20) := by
      rcases askE_cases N v E with h | h | h
      · exact absurd h h0
      · exact .inl h
      · exact .inr h
    obtain ⟨W, hW⟩ : ∃ W, W = w.alloc (.cells #[.int .i64 N, .slice A n c] 24) := ⟨_, rfl⟩
    have hb : Below w.heap.size w W := by rw [hW]; exact (Below.refl _ _).alloc (Nat.le_refl _) _
    have HRF := Lib.hid (asked_any A c n N v E W (hr.below hb) hn hs)
    have HB := Lib.hid hb
    have HW := Lib.hid hW
    obtain ⟨q, hq⟩ : ∃ q, askE N E v = q := ⟨_, rfl⟩
    rw [hq] at HRF HE ⊢
    have hq0 : (q != 0) = true := by rw [bne_iff_ne]; rcases HE.out with h | h <;> omega
    clear hr hn hb hW h0 hw hq
    go_enter Try.func15, Try.ntmps15
    go_wp2_with fail
    rw [← HW.out]
    refine HRF.out.mono ?_
    rintro e w1 ⟨rfl, hb1⟩
    have HB1 := Lib.hid hb1
    clear hb1
    go_wp2_with fail
    go_ret2
    exact ⟨none, 0, 0, rfl, rfl, rdz_nil _ _, HB.out.trans (HB1.out.mono HB.out.size)⟩
set_option maxRecDepth 100000 in
set_option maxHeartbeats 8000000 in
theorem refParts_yes (A : Option Addr) (c n N : Nat) (E : List (Int × Int)) (w : World) (hr : RdP w A E) (hn : n = E.length) (hg : rightG (N : Nat) E = true) :
    Calls Try.prog 21 #[.agg #[.int .i64 (N : Nat), .slice A n c]] w fun e w' => ∃ (B : Option Addr) (k cap : Nat) (us : List Value), e = .returned (.slice B k cap) ∧ k = (prun (tabG N E) N N).2.length ∧ PRows w' w.heap.size (.slice B k cap) us (prun (tabG N E) N N).2 ∧ Below w.heap.size w w' := by
  obtain ⟨i0, hi0, hz0, hz1, hz2⟩ := info_partsI i64info
  obtain ⟨i1, hi1, hy0, hy1, hy2⟩ := info_partsI rowinfo
  obtain ⟨W, hW⟩ : ∃ W, W = w.alloc (.cells #[.int .i64 (N : Nat), .slice A n c] 24) := ⟨_, rfl⟩
  have hb : Below w.heap.size w W := by rw [hW]; exact (Below.refl _ _).alloc (Nat.le_refl _) _
  have hWS : w.heap.size < W.heap.size := by rw [hW]; simp
  obtain ⟨j0, j1, _, _⟩ := cells_two (w := W) (by rw [hW]; exact heap_alloc_new w _)
  have HJ : Hid (∀ w', Below W.heap.size W w' → w'.cell? ⟨w.heap.size, 0, none⟩ = some (.int .i64 (N : Nat)) ∧ w'.cell? ⟨w.heap.size, 1, none⟩ = some (.slice A n c)) := fun w' hb =>
    ⟨by rw [hb.cell (by show w.heap.size < _; omega)]; exact j0, by rw [hb.cell (by show w.heap.size < _; omega)]; exact j1⟩
  have hn6 : n ≤ 594 := by have := rightG_bounds hg; omega
  have hN200 : N ≤ 200 := by have := rightG_bounds hg; omega
  obtain ⟨T, hT⟩ : ∃ T, T = tabG N E := ⟨_, rfl⟩
  have HCOV : Hid (∀ v, v < N → decide ((v : Int) ∈ (prun T N v).2.flatten) = (prun T N v).1.getD v false) := fun v hv => by
    have h := (pinv hg v (by omega)).cover v hv
    rw [hT]
    rw [Bool.eq_iff_iff, decide_eq_true_iff, h, List.mem_flatten]
    constructor
    · rintro ⟨p, hp, hx⟩
      obtain ⟨i, hi⟩ := List.getElem?_of_mem hp
      exact ⟨i, p, hi, hx⟩
    · rintro ⟨i, p, hi, hx⟩
      exact ⟨p, List.mem_of_getElem? hi, hx⟩
  have HSELF : Hid (∀ v, v < N → (v : Int) ∈ reachN (distOf T N v) N) := fun v hv => by
    rw [reachN_mem, hT, (dist_is hg hv).zero]
    exact ⟨hv, Int.le_refl _⟩
  have HAW : Hid (∀ (v : Nat) (w' : World), v < N → Below W.heap.size W w' → Calls Try.prog 15 #[.agg #[.int .i64 (N : Nat), .slice A n c], .int .i64 (v : Nat)] w' fun e w'' => ∃ (gu cu : Nat), e = .returned (.tuple #[.slice (some ⟨gu, 0, none⟩) N cu, .int .i64 0]) ∧
      OwnI w'' w'.heap.size (some ⟨gu, 0, none⟩) cu (distOf T N v) N ∧ Below w'.heap.size w' w'') := fun v w' hv hb' => by
    rw [hT]
    exact (refAway_yes A c n N v E w' ((hr.below hb).below hb') hn hg hv).mono fun e w'' ⟨gu, cu, h1, h2, _, h3⟩ => ⟨gu, cu, h1, h2, h3⟩
  rw [← hT]
  have HRT := Lib.hid (refRight_any A c n (N : Nat) E W (hr.below hb) hn (by omega))
  rw [hg] at HRT
  have HB := Lib.hid hb
  have HW := Lib.hid hW
  clear hr hn hg hb hW hT j0 j1
  go_enter Try.func21, Try.ntmps21
  go_wp2_with fail
  rw [← HW.out]
  refine HRT.out.mono ?_
  rintro e w1 ⟨rfl, hb1⟩
  have HB1 := Lib.hid hb1
  clear hb1
  have HBW0 := Lib.hid (Below.refl w1.heap.size w1)
  have HP0 : Hid (PRows w1 w1.heap.size (.slice none 0 0) [] (prun T N 0).2) := ⟨⟨rfl, .inl ⟨rfl, rfl⟩⟩, rfl, fun j u xs a => by simp at a, fun i j u v g _ a => by simp at a⟩
  have HS0 : Hid (OwnI w1 w1.heap.size none 0 (prun T N 0).2.flatten 0) := ⟨rfl, .inl ⟨rfl, rfl⟩⟩
  go_wp2_with fail
  go_loopw [3, 4, 5] (fun s3 s4 s5 wr => ∃ (v : Nat) (Bv : Option Addr) (kv cv : Nat) (us : List Value) (Bs : Option Addr) (ns cs : Nat), v ≤ N ∧ s3 = .slice Bv kv cv ∧ s4 = .slice Bs ns cs ∧ s5 = .int .i64 v ∧ ns ≤ v * 200 ∧ Hid (kv = (prun T N v).2.length) ∧ Hid (PRows wr w1.heap.size (.slice Bv kv cv) us (prun T N v).2) ∧
      Hid (OwnI wr w1.heap.size Bs cs (prun T N v).2.flatten ns) ∧ Hid (∀ u ∈ us, ∀ g, u.ownBlock = some g → (Value.slice Bs ns cs).ownBlock ≠ some g) ∧ Hid (Below w1.heap.size w1 wr)) (fun _ _ s5 _ => N - (intOf s5).toNat)
  case atStart => exact ⟨0, none, 0, 0, [], none, 0, 0, Nat.zero_le _, rfl, rfl, rfl, Nat.zero_le _, rfl, HP0, HS0, (fun u hu => by cases hu), HBW0⟩
  case round =>
    obtain ⟨v, Bv, kv, cv, us, Bs, ns, cs, hv, rfl, rfl, rfl, hns, hkv, hP, hS, hap, hb⟩ := hrel
    have HBW := Lib.hid (next_below HB1.out hb.out)
    obtain ⟨j0, j1⟩ := HJ.out wr HBW.out
    by_cases h1 : v < N
    · have t1 : decide ((v : Int) < (N : Int)) = true := by simp; omega
      have HIN := Lib.hid (refin_any Bs cs ns (prun T N v).2.flatten (v : Int) wr hS.out.rd hS.out.len.symm (by omega))
      rw [HCOV.out v h1] at HIN
      have hps : prun T N (v + 1) = pstep T N (prun T N v) v := rfl
      by_cases hm : (prun T N v).1.getD v false = true
      · rw [hm] at HIN
        have hps2 : prun T N (v + 1) = prun T N v := by
          rw [hps]
          unfold pstep
          rw [if_pos hm]
        have HPS := Lib.hid hps2
        clear hps hps2 hm
        go_wp2_with fail
        refine HIN.out.mono ?_
        rintro e w5 ⟨rfl, hb5⟩
        have HB5 := Lib.hid hb5
        clear hb5
        go_wp2_with fail
        go_roundw
        case rel => exact ⟨v + 1, Bv, kv, cv, us, Bs, ns, cs, by omega, rfl, rfl, by go_num, by omega, by rw [HPS.out]; exact hkv, by rw [HPS.out]; exact Lib.hid (hP.out.below HB5.out), by rw [HPS.out]; exact Lib.hid (row_below hS.out HB5.out), hap, Lib.hid (next_below hb.out HB5.out)⟩
        case measure => simp [intOf]; omega
      · have hmf : (prun T N v).1.getD v false = false := by simpa using hm
        rw [hmf] at HIN
        have hps2 : prun T N (v + 1) = (metN (prun T N v).1 (distOf T N v) N, (prun T N v).2 ++ [reachN (distOf T N v) N]) := by
          rw [hps]
          unfold pstep
          rw [if_neg hm]
        have HPS := Lib.hid (congrArg Prod.snd hps2)
        have HPOS := Lib.hid (List.length_pos_of_mem (HSELF.out v h1))
        clear hps hps2 hm hmf
        go_wp2_with fail
        refine HIN.out.mono ?_
        rintro e w5 ⟨rfl, hb5⟩
        have HB5 := Lib.hid hb5
        have HBW5 := Lib.hid (next_below HBW.out hb5)
        clear hb5 j0 j1
        obtain ⟨j0, j1⟩ := HJ.out w5 HBW5.out
        go_wp2_with fail
        refine (HAW.out v w5 h1 HBW5.out).mono ?_
        rintro e w6 ⟨gd_, cd, rfl, hd, hb6⟩
        obtain ⟨ds, hds⟩ : ∃ ds, distOf T N v = ds := ⟨_, rfl⟩
        rw [hds] at hd HPS HPOS
        have HD := Lib.hid hd
        have HB6 := Lib.hid (next_below HB5.out hb6)
        have HBW6 := Lib.hid (next_below HBW5.out hb6)
        have hgd := hd.lt gd_ rfl
        have HP6 := Lib.hid (hP.out.below HB6.out)
        have HS6 := Lib.hid (row_below hS.out HB6.out)
        have HBB6 := Lib.hid (next_below hb.out HB6.out)
        have HLOW : Hid (∀ u ∈ us, ∀ g, u.ownBlock = some g → g < w6.heap.size) := fun u hu g hg => by
          obtain ⟨j, hj⟩ := List.getElem?_of_mem hu
          have hjl := (List.getElem?_eq_some_iff.1 hj).1
          obtain ⟨xs, hxs⟩ : ∃ xs, (prun T N v).2[j]? = some xs := ⟨_, List.getElem?_eq_getElem (by rw [← hP.out.2.1]; exact hjl)⟩
          exact ((HP6.out.2.2.1 j u xs hj hxs).lt g hg).2
        have hsl := HS6.out.lt
        have HSL := Lib.hid hsl
        have HP00 : Hid (OwnI w6 w6.heap.size none 0 (reachN ds 0) (reachN ds 0).length) := ⟨rfl, .inl ⟨rfl, rfl⟩⟩
        have HB00 := Lib.hid (Below.refl w6.heap.size w6)
        clear hb6 hd hds hsl j0 j1 hP hS hb
        go_wp2_with fail
        go_loopw [8, 9] (fun s8 s9 wr => ∃ (i : Nat) (Bp : Option Addr) (cp : Nat), i ≤ N ∧ s8 = .slice Bp (reachN ds i).length cp ∧ s9 = .int .i64 i ∧ Hid (OwnI wr w6.heap.size Bp cp (reachN ds i) (reachN ds i).length) ∧ Hid (Below w6.heap.size w6 wr)) (fun _ s9 _ => N - (intOf s9).toNat)
        case atStart => exact ⟨0, none, 0, Nat.zero_le _, rfl, rfl, HP00, HB00⟩
        case round =>
          obtain ⟨i, Bp, cp, hi, rfl, rfl, hp, hb7⟩ := hrel
          obtain ⟨j0, j1⟩ := HJ.out wr (next_below HBW6.out hb7.out)
          by_cases h2 : i < N
          · have t2 : decide ((i : Int) < (N : Int)) = true := by simp; omega
            have hI0 : (0 : Int) ≤ (i : Int) := by omega
            have hI1 : (i : Int) < (N : Nat) := by omega
            have hdl := HD.out.len
            have e0 : wr.cell? ⟨gd_, i, none⟩ = some (.int .i64 (gd ds i)) := OwnI.at_ (l := ds) (row_below HD.out hb7.out) (by simp [gd, List.getD, List.getElem?_eq_getElem (show i < ds.length by omega)])
            have hrl := reachN_le ds i
            have HST := Lib.hid (reachN_step ds i)
            have hsz := hb7.out.size
            by_cases hge : 0 ≤ gd ds i
            · have dg : decide (0 ≤ gd ds i) = true := by simpa using hge
              rw [if_pos hge] at HST
              have HPA := Lib.hid (hp.out.alloc (.cells #[.int .i64 (i : Int)] 3))
              have HC : Hid ((wr.alloc (.cells #[.int .i64 (i : Int)] 3)).cell? ⟨wr.heap.size, 0, none⟩ = some (.int .i64 (i : Int))) := by show _ = _; exact World.cell?_alloc_at _ _ _ _ rfl
              have HLE := Lib.hid (hb7.out.alloc hb7.out.size (.cells #[.int .i64 (i : Int)] 3))
              generalize gd ds i = gv at *
              clear hge hdl
              go_wp2_with (at_builtin; refine wpList_append_lies _ rfl (.tmp 39) (.tmp 41) 27 rfl w6.heap.size 3 i0 (.int .i64 0) 1 8 Try.underlying27 hi0 hz0 hz1 hz2 rfl (by decide) (.slice Bp (reachN ds i).length cp) (reachN ds i).length (zs (reachN ds i)) rfl HPA.out ⟨wr.heap.size, 0, none⟩ 1 1 [.int .i64 (i : Int)] (by simp [Act.eval]) rfl (by intro j u hj; have hj0 : j = 0 := (by have := (List.getElem?_eq_some_iff.1 hj).1; simp at this; omega); subst hj0; rw [← hj, add_off]; exact HC.out) (by simp [Value.oneCell']) (by omega) (by simp [maxLen]; omega) (by omega) (by simp; omega) (wr.heap.size + 1) (by simp) ?_; intro g' cap' w7 hrow7 hgr7 hor7 hlt7)
              go_roundw
              case rel =>
                have hb8 : Below w6.heap.size w6 w7 := HLE.out.grown hgr7 (by simp; omega) (fun m e => (hp.out.lt m e).1)
                refine ⟨i + 1, some ⟨g', 0, none⟩, cap', by omega, by rw [HST.out, List.length_append, List.length_singleton], by go_num, ?_, Lib.hid hb8⟩
                rw [HST.out, List.length_append, List.length_singleton]
                exact Lib.hid (OwnI.push hrow7)
              case measure => simp [intOf]; omega
            · have dg : decide (0 ≤ gd ds i) = false := by simpa using hge
              rw [if_neg hge, List.append_nil] at HST
              generalize gd ds i = gv at *
              clear hge hdl
              go_wp2_with fail
              go_roundw
              case rel => exact ⟨i + 1, Bp, cp, by omega, by rw [HST.out], by go_num, by rw [HST.out]; exact hp, hb7⟩
              case measure => simp [intOf]; omega
          · obtain rfl : i = N := by omega
            have t2 : decide ((i : Int) < (i : Int)) = false := by simp
            have hrl := reachN_le ds i
            generalize hnp : (reachN ds i).length = np at *
            obtain ⟨gp, cp2, ev⟩ := Joins.ownsRow_form hp.out HPOS.out
            have hBp : Bp = some ⟨gp, 0, none⟩ ∧ cp = cp2 := by injection ev with a b d; exact ⟨a, d⟩
            obtain ⟨rfl, rfl⟩ := hBp
            have hgp := hp.out.lt gp rfl
            have hsz := hb7.out.size
            have hsz6 := HBB6.out.size
            have hpos := HPOS.out
            have HSR := Lib.hid (row_below HS6.out hb7.out)
            have HN1 : Hid (∀ (j : Nat) (u : Value), (zs (reachN ds i))[j]? = some u → wr.cell? ((⟨gp, 0, none⟩ : Addr).add j) = some u) := fun j u hj => hp.out.cells rfl j u hj
            have HNL : Hid ((zs (reachN ds i)).length = np * 1) := by show _ = _; rw [zs_length, hnp, Nat.mul_one]
            have HX7 : Hid (∀ (w7 : World) (g' cap' : Nat), w7.ownsRow w1.heap.size 3 1 (.slice (some ⟨g', 0, none⟩) (ns + np) cap') (ns + np) (zs (prun T i v).2.flatten ++ zs (reachN ds i)) → wr.grownBy w7 (Value.slice Bs ns cs).ownBlock → ((Value.slice Bs ns cs).ownBlock = some g' ∨ g' = wr.heap.size) →
                PRows w7 w1.heap.size (.slice Bv kv cv) us (prun T i v).2 ∧ w7.ownsRow w1.heap.size 3 1 (.slice (some ⟨gp, 0, none⟩) np cp) np (zs (reachN ds i)) ∧ Below w1.heap.size w1 w7 ∧ w7.ownsRow w1.heap.size 27 1 (.slice Bv kv cv) kv us ∧
                (∀ u ∈ us ++ [Value.slice (some ⟨gp, 0, none⟩) np cp], ∀ g, u.ownBlock = some g → (Value.slice (some ⟨g', 0, none⟩) (ns + np) cap').ownBlock ≠ some g)) := by
              intro w7 g' cap' hr7 hg7 ho7
              have hPr := HP6.out.below hb7.out
              have e1 : PRows w7 w1.heap.size (.slice Bv kv cv) us (prun T i v).2 := hPr.kept hg7 (row_apart hPr.1 HSR.out (by decide)) (fun u hu => by
                cases hub : u.ownBlock with
                | none => exact .inl rfl
                | some g => exact .inr (fun e => hap.out u hu g hub e.symm))
              refine ⟨e1, ?_, (next_below HBB6.out hb7.out).grown hg7 (by omega) (fun m e => (HSR.out.lt m e).1), by have h := e1.1; rw [← hkv.out] at h; exact h, fun u hu g hg => ?_⟩
              · refine Go.Joins.ownsRow_le (hp.out.kept hg7 (.inr ?_)) hsz6
                show some gp ≠ _
                intro e
                have := (HSL.out gp e.symm).2
                omega
              · intro e
                have e : g' = g := by simpa [Value.ownBlock] using e
                subst e
                rcases List.mem_append.1 hu with hu | hu
                · rcases ho7 with h | h
                  · exact hap.out u hu g' hg h
                  · have := HLOW.out u hu g' hg
                    omega
                · rw [List.mem_singleton] at hu
                  subst hu
                  have e2 : gp = g' := by simpa [Value.ownBlock] using hg
                  rcases ho7 with h | h
                  · have := (HSL.out g' h).2
                    omega
                  · omega
            have HAP7 : Hid (∀ u ∈ us, u.ownBlock ≠ some gp) := fun u hu e => by
              have := HLOW.out u hu gp e
              omega
            have HNP := Lib.hid hnp
            have HKV : Hid (kv ≤ 200) := by show kv ≤ 200; rw [hkv.out]; have := prun_out T i v; omega
            have hkv2 := HKV.out
            clear hnp ev
            go_wp2_with (first
              | (at_builtin; refine wpList_append_lies _ rfl (.tmp 43) (.tmp 44) 27 rfl w1.heap.size 3 i0 (.int .i64 0) 1 8 Try.underlying27 hi0 hz0 hz1 hz2 rfl (by decide) (.slice Bs ns cs) ns (zs (prun T i v).2.flatten) rfl HSR.out ⟨gp, 0, none⟩ np cp (zs (reachN ds i)) (by simp [Act.eval]) HNL.out HN1.out (by intro u hu; obtain ⟨x, _, rfl⟩ := List.mem_map.1 hu; rfl) (by omega) (by simp [maxLen]; omega) (by omega) (by omega) wr.heap.size rfl ?_; intro g' cap' w7 hrow7 hgr7 hor7 hlt7; obtain ⟨f1, f2, f3, f4, f5⟩ := HX7.out w7 g' cap' hrow7 hgr7 hor7; have F1 := Lib.hid f1; have F2 := Lib.hid f2; have F3 := Lib.hid f3; have F4 := Lib.hid (f4.alloc (.cells #[.slice (some ⟨gp, 0, none⟩) np cp] 27)); have F5 := Lib.hid f5; have F6 := Lib.hid hrow7; have f3s := f3.size; have F7 : Hid (∀ (j : Nat) (u : Value), [Value.slice (some ⟨gp, 0, none⟩) np cp][j]? = some u → (w7.alloc (.cells #[.slice (some ⟨gp, 0, none⟩) np cp] 27)).cell? ((⟨w7.heap.size, 0, none⟩ : Addr).add j) = some u) := (fun j u hj => by have hj0 : j = 0 := (by have := (List.getElem?_eq_some_iff.1 hj).1; simp at this; omega); subst hj0; rw [← hj, add_off]; exact World.cell?_alloc_at _ _ _ _ rfl); clear f1 f2 f3 f4 f5 hrow7 hgr7 hor7)
              | (at_builtin; refine wpList_append_lies _ rfl (.tmp 46) (.tmp 48) 36 rfl w1.heap.size 27 i1 (.slice none 0 0) 1 24 Try.underlying36 hi1 hy0 hy1 hy2 rfl (by decide) (.slice Bv kv cv) kv us rfl F4.out ⟨w7.heap.size, 0, none⟩ 1 1 [.slice (some ⟨gp, 0, none⟩) np cp] (by simp [Act.eval]) rfl F7.out (by simp [Value.oneCell']) (by omega) (by simp [maxLen]; omega) (by omega) (by simp only [World.size_alloc]; omega) (w7.heap.size + 1) (by simp only [World.size_alloc]) ?_; intro g2 cap2 w8 hrow8 hgr8 hor8 hlt8))
            go_roundw
            case rel =>
              have hlen : ((prun T i v).2 ++ [reachN ds i]).flatten = (prun T i v).2.flatten ++ reachN ds i := by simp
              refine ⟨v + 1, some ⟨g2, 0, none⟩, kv + 1, cap2, us ++ [.slice (some ⟨gp, 0, none⟩) np cp], some ⟨g', 0, none⟩, ns + np, cap', by omega, rfl, rfl, by go_num, by omega, ?_, ?_, ?_, F5, ?_⟩
              · rw [HPS.out]
                exact Lib.hid (by rw [List.length_append, List.length_singleton, hkv.out])
              · rw [HPS.out]
                exact Lib.hid (PRows.push F1.out hkv.out HNP.out.symm F2.out HAP7.out hgr8 hrow8)
              · rw [HPS.out, hlen]
                refine Lib.hid ?_
                show World.ownsRow _ _ _ _ _ _ _
                rw [show zs ((prun T i v).2.flatten ++ reachN ds i) = zs (prun T i v).2.flatten ++ zs (reachN ds i) by simp [zs]]
                exact (F6.out.alloc _).kept hgr8 (row_apart F6.out F1.out.1 (by decide))
              · exact Lib.hid ((F3.out.alloc F3.out.size _).grown hgr8 (by simp only [World.size_alloc]; omega) (fun k e => (F4.out.lt k e).1))
            case measure => simp [intOf]; omega
    · obtain rfl : v = N := by omega
      have t1 : decide ((v : Int) < (v : Int)) = false := by simp
      go_wp2_with fail
      go_ret
      have h1 := (next_below HB.out HB1.out).size
      exact ⟨Bv, kv, cv, us, rfl, hkv.out, ⟨Go.Joins.ownsRow_le hP.out.1 h1, hP.out.2.1, fun j u xs a b => Go.Joins.ownsRow_le (hP.out.2.2.1 j u xs a b) h1, hP.out.2.2.2⟩, next_below (next_below HB.out HB1.out) hb.out⟩
end Go.Proofs.Ytpkiogcedfmodaa
