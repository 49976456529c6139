/- All blocks: low.Blocks (layer 5). -/
import Derived.Test.YtlkddjpjhchjfaaDA
import Derived.Test.YtlkddjpjhchjfaaHB
namespace Go.Proofs.Ytlkddjpjhchjfaa
set_option maxRecDepth 100000
open Go.RowKit Go.Maps

theorem lw_lowL {N v : Nat} (A : List Nat) (U : Nat → Option Nat) (F : Nat → Nat) (h : v < N) : lw (lowL N A U F) v = (((numF A v : Nat) : Int), upZ U v, ((F v : Nat) : Int)) := by
  have h1 := lw_at (L := lowL N A U F) (v := v) (by rw [lowL_length]; exact h)
  rw [lowL_at A U F h] at h1
  injection h1 with h1
  exact h1.symm
set_option maxHeartbeats 64000000 in
theorem blocks_any (A0 : Option Addr) (c n N : Nat) (E : List (Int × Int)) (w : World) (hr : RdP w A0 E) (hn : n = E.length) (hg : rightG (N : Nat) E = true) :
    Calls Try.prog 22 #[.agg #[.int .i64 (N : Nat), .slice A0 n c]] w fun e w' => ∃ (V : Value) (us : List Value) (A : List Nat) (U : Nat → Option Nat) (F : Nat → Nat) (O : List Int), e = .returned (.tuple #[V, .int .i64 0]) ∧ Blks w' w.heap.size V us (blkG N E) ∧ BlkS N E A U F O ∧ Below w.heap.size w w' := by
  have hN2 : N ≤ 200 := by have := (rightG_bounds hg).2.1; omega
  have hn6 : n ≤ 594 := by have := (rightG_bounds hg).2.2; omega
  obtain ⟨X, hX⟩ : ∃ X, X = w.alloc (.cells #[.int .i64 (N : Nat), .slice A0 n c] 24) := ⟨_, rfl⟩
  have hb : Below w.heap.size w X := by rw [hX]; exact (Below.refl _ _).alloc (Nat.le_refl _) _
  have hXS : w.heap.size < X.heap.size := by rw [hX]; simp
  obtain ⟨j0, j1, _, _⟩ := cells_two (w := X) (by rw [hX]; exact heap_alloc_new w _)
  have HJ : Hid (∀ w', Below X.heap.size X w' → w'.cell? ⟨w.heap.size, 0, none⟩ = some (.int .i64 (N : Nat)) ∧ w'.cell? ⟨w.heap.size, 1, none⟩ = some (.slice A0 n c)) := fun w' hb =>
    ⟨by rw [hb.cell (by show w.heap.size < _; omega)]; exact j0, by rw [hb.cell (by show w.heap.size < _; omega)]; exact j1⟩
  have HE := Lib.hid (hr.below hb)
  have HN := Lib.hid hn
  have HG := Lib.hid hg
  have HX := Lib.hid hX
  have HB := Lib.hid hb
  have HXS := Lib.hid hXS
  have hmm := @run_makeMap Try.prog
  obtain ⟨i1, hi1, hy0, hy1, hy2⟩ := info_partsI pinfo5
  obtain ⟨i2, hi2, hx0, hx1, hx2⟩ := info_partsI prowinfo
  have HS := Lib.hid (search_any A0 c n N E X HE.out hn hg)
  clear hr hn hg hX hb hXS
  go_enter Try.func22, Try.ntmps22
  go_wp2_with fail
  rw [← HX.out]
  refine HS.out.mono ?_
  rintro e w3 ⟨B, A, U, F, rfl, hOT, hNR, hLF, hBX, hb3⟩
  have HNR := Lib.hid hNR
  have HLF := Lib.hid hLF
  have HP := Lib.hid hNR.toNI.perm
  have hBl : B < w3.heap.size := lt_of_block hOT
  obtain ⟨W4, hW4⟩ : ∃ W4, W4 = w3.alloc (.cells #[.slice (some ⟨B, 0, none⟩) N N] 27) := ⟨_, rfl⟩
  have hb4 : Below w3.heap.size w3 W4 := by rw [hW4]; exact (Below.refl _ _).alloc (Nat.le_refl _) _
  have hpo : W4.heap[w3.heap.size]? = some (.cells #[.slice (some ⟨B, 0, none⟩) N N] 27 (0, 0)) := by rw [hW4]; exact heap_alloc_new w3 _
  have HB4 := Lib.hid (next_below hb3 hb4)
  have HO4 := Lib.hid (hOT.below hb4)
  have h4s : W4.heap.size = w3.heap.size + 1 := by rw [hW4]; simp
  have HPO := Lib.hid hpo
  have HW4 := Lib.hid hW4
  have c0 : W4.cell? ⟨w3.heap.size, 0, none⟩ = some (.slice (some ⟨B, 0, none⟩) N N) := by rw [cell_of hpo]; rfl
  clear hOT hNR hLF hb3 hpo hb4 hW4 j0 j1 HS
  go_upto_region 5 with fail
  rw [← HW4.out]
  go_wp2_with fail
  refine (begin_any N B A U F (lowL N A U F) W4 HO4.out (lowL_length N A U F) (by omega) HP.out (fun v u h => (HNR.out.ups v u h).2) (fun v hv => lw_lowL A U F hv)).mono ?_
  rintro e w5 ⟨Bo, O, rfl, hOZ, hOI, hBo, hb5⟩
  have HOZ := Lib.hid hOZ
  have HOI := Lib.hid hOI
  have h5s := hb5.size
  have hBol : Bo < w5.heap.size := lt_of_block hOZ
  have HB5 := Lib.hid (next_below HB4.out hb5)
  have HO5 := Lib.hid (HO4.out.below hb5)
  have HPO5 := Lib.hid (blk_below HPO.out hb5)
  obtain ⟨W, hW⟩ : ∃ W, W = w5.alloc (.map #[] 0) := ⟨_, rfl⟩
  have hbW : Below w5.heap.size w5 W := by rw [hW]; exact (Below.refl _ _).alloc (Nat.le_refl _) _
  obtain ⟨own, hown⟩ : ∃ own, own = bkey A O E := ⟨_, rfl⟩
  have HOWN := Lib.hid hown
  have HG0 : Hid (BI w5 own 0 (blkO E own 0) (.slice none 0 0) [] W) := by
    refine ⟨Blks.nil _ _, ⟨0, 0, fun _ => none, Nat.le_refl _, by rw [hW]; exact MapZ.made w5, fun z => by rw [plcZ_zero]⟩, hbW, by rw [hW]; simp⟩
  have HW := Lib.hid hW
  have HF5 : Hid (∀ w', Below w5.heap.size w5 w' → w'.cell? ⟨w.heap.size, 1, none⟩ = some (.slice A0 n c) ∧ RdP w' A0 E ∧ OwnZ w' Bo O ∧ OwnT w' B (lowL N A U F) ∧ w'.cell? ⟨w3.heap.size, 0, none⟩ = some (.slice (some ⟨B, 0, none⟩) N N)) := fun w' hb =>
    ⟨(HJ.out w' (next_below HB5.out hb)).2, HE.out.below (next_below HB5.out hb), blk_below HOZ.out hb, HO5.out.below hb, by rw [cell_of (blk_below HPO5.out hb)]; rfl⟩
  have HED : Hid (∀ e ∈ E, ∃ x y : Nat, e = ((x : Int), (y : Int)) ∧ x < N ∧ y < N) := fun e he => by
    obtain ⟨k, hk⟩ := List.getElem?_of_mem he
    obtain ⟨h1, h2, h3⟩ := rightG_edge HG.out hk
    obtain ⟨a, b⟩ := e
    simp only at h1 h2 h3
    exact ⟨a.toNat, b.toNat, by simp; omega, by omega, by omega⟩
  have HOB : Hid (∀ k e, E[k]? = some e → ∃ o : Nat, gd O (loE A e) = (o : Int) ∧ o < N ∧ own k = o ∧ loE A e < N) := fun k e he => by
    obtain ⟨x, y, rfl, hx, hy⟩ := HED.out e (List.mem_of_getElem? he)
    have hl : loE A ((x : Int), (y : Int)) < N := by unfold loE; simp only [Int.toNat_natCast]; split <;> omega
    obtain ⟨o, h1, h2⟩ := HOI.out.val (loE A ((x : Int), (y : Int))) (by rw [List.take_of_length_le (by rw [HP.out.len]; omega)]; exact HP.out.mem hl)
    refine ⟨o, h1, h2, ?_, hl⟩
    rw [hown]
    unfold bkey
    rw [show E.getD k (0, 0) = ((x : Int), (y : Int)) by simp [List.getD, he], h1]
    rfl
  clear hOZ hOI hb5 hbW hW hown c0
  obtain ⟨j1, _⟩ := HF5.out W HG0.out.on
  go_upto_region 8 with fail
  rw [← HW.out]
  go_wp2_with fail
  clear j1
  go_loopw [30, 9] (fun s30 s9 wr => ∃ (k : Nat) (V : Value) (us : List Value), k ≤ n ∧ s30 = .int .i64 k ∧ s9 = V ∧ Hid (BI w5 own k (blkO E own k) V us wr)) (fun s30 _ _ => n - (intOf s30).toNat)
  case atStart => exact ⟨0, _, [], Nat.zero_le _, rfl, rfl, HG0⟩
  case round =>
    obtain ⟨k, V, us, hk, rfl, rfl, hG⟩ := hrel
    by_cases h1 : k < n
    · have t1 : decide ((k : Int) < (n : Int)) = true := by simp; omega
      have hK0 : (0 : Int) ≤ (k : Int) := by omega
      have hK1 : (k : Int) < (n : Nat) := by omega
      obtain ⟨e, he⟩ : ∃ e, E[k]? = some e := ⟨_, List.getElem?_eq_getElem (by rw [← HN.out]; exact h1)⟩
      obtain ⟨x, y, rfl, hxN, hyN⟩ := HED.out e (List.mem_of_getElem? he)
      obtain ⟨_, q2, _, _, _⟩ := HF5.out wr hG.out.on
      obtain ⟨ad, rfl, _, p0, p1⟩ := q2 k _ he
      simp only at p0 p1
      obtain ⟨wo, hwo1, hwo2, hwo3, hlo⟩ := HOB.out k _ he
      have HE1 := Lib.hid he
      have hbY : Below wr.heap.size wr (wr.alloc (.cells #[.int .i64 (x : Nat), .int .i64 (y : Nat)] 51)) := (Below.refl _ _).alloc (Nat.le_refl _) _
      have hEB : (wr.alloc (.cells #[.int .i64 (x : Nat), .int .i64 (y : Nat)] 51)).heap[wr.heap.size]? = some (.cells #[.int .i64 (x : Nat), .int .i64 (y : Nat)] 51 (0, 0)) := heap_alloc_new wr _
      have HGY := Lib.hid (hG.out.below hbY)
      have HNP : Hid (∀ u ∈ us, u.ownBlock ≠ some wr.heap.size) := by
        intro u hu e
        obtain ⟨j, hj⟩ := List.getElem?_of_mem hu
        obtain ⟨z, hz⟩ : ∃ z, (blkO E own k)[j]? = some z := ⟨_, List.getElem?_eq_getElem (by have := (List.getElem?_eq_some_iff.1 hj).1; have := hG.out.bl.len; omega)⟩
        have := ((hG.out.bl.each j u z hj hz).lt _ e).2
        omega
      have hpe0 : w5.heap.size + 1 ≤ wr.heap.size := hG.out.sz
      clear he hbY hG q2
      go_upto_region 11 with fail
      obtain ⟨pe, hpe⟩ : ∃ pe, wr.heap.size = pe := ⟨_, rfl⟩
      generalize wr.alloc (.cells #[.int .i64 (x : Nat), .int .i64 (y : Nat)] 51) = Y at *
      rw [hpe] at hEB HNP hpe0 ⊢
      clear p0 p1 hpe
      obtain ⟨r0, r1, _, _⟩ := cells_two hEB
      have HEB := Lib.hid hEB
      obtain ⟨_, _, q3, q4, q5⟩ := HF5.out Y HGY.out.on
      have HLO : Hid (Calls Try.prog 53 #[.agg #[.int .i64 (x : Nat), .int .i64 (y : Nat)], .pointer (some ⟨w3.heap.size, 0, none⟩)] Y fun e w' => e = .returned (.int .i64 ((loE A ((x : Int), (y : Int)) : Nat) : Int)) ∧ Below Y.heap.size Y w') := by
        have h := lower_any x y N B w3.heap.size (lowL N A U F) Y q4 (lowL_length N A U F) hxN hyN q5
        refine h.mono ?_
        rintro e w' ⟨rfl, hb⟩
        refine ⟨?_, hb⟩
        rw [lw_lowL A U F hxN, lw_lowL A U F hyN]
        unfold loE
        simp only [Int.toNat_natCast, Int.ofNat_lt]
      obtain ⟨lo, hloe⟩ : ∃ lo, loE A ((x : Int), (y : Int)) = lo := ⟨_, rfl⟩
      rw [hloe] at HLO hwo1 hlo
      have hL0 : (0 : Int) ≤ (lo : Int) := by omega
      have hL1 : (lo : Int) < (N : Nat) := by omega
      have hOl : O.length = N := HOI.out.len
      have HRO : Hid (∀ w', Below Y.heap.size Y w' → w'.cell? ⟨Bo, lo, none⟩ = some (.int .i64 (wo : Nat))) := fun w' hb => by
        rw [← hwo1]
        exact OwnZ.at_ (blk_below q3 hb) (gd_at O lo (by rw [hOl]; exact hlo))
      have HWO := Lib.hid hwo3
      clear q3 q4 q5 hEB hwo3 hloe hwo1 hlo
      go_wp2_with fail
      refine HLO.out.mono ?_
      rintro e Y2 ⟨rfl, hb2⟩
      have q6 := HRO.out Y2 hb2
      have HG2 := Lib.hid (HGY.out.below hb2)
      have HE2 : Hid (Y2.heap[pe]? = some (.cells #[.int .i64 (x : Nat), .int .i64 (y : Nat)] 51 (0, 0))) := blk_below HEB.out hb2
      clear hb2 HLO HRO HGY HEB r0 r1
      obtain ⟨nn, kk, f, hnn, hM, hf⟩ := HG2.out.mp
      have hlk := hM.look_ok (x := (wo : Int)) (by unfold inI; omega)
      have hfp : f (wo : Int) = (place own k wo).map fun (a : Nat) => (a : Int) := by rw [hf, plcZ_nat]
      rw [hfp] at hlk
      have HMM := Lib.hid hM
      have HFF := Lib.hid hf
      clear hM hf hfp
      obtain ⟨gd', hgd⟩ : ∃ gd', ((place own k wo).map fun (a : Nat) => (a : Int)).getD 0 = gd' := ⟨_, rfl⟩
      obtain ⟨sm, hsm⟩ : ∃ sm, ((place own k wo).map fun (a : Nat) => (a : Int)).isSome = sm := ⟨_, rfl⟩
      rw [hgd, hsm] at hlk
      have HGD := Lib.hid hgd
      have HSM := Lib.hid hsm
      clear hgd hsm
      obtain ⟨lk, hlkk⟩ : ∃ lk, (blkO E own k).length = lk := ⟨_, rfl⟩
      obtain ⟨Av, cv, rfl⟩ : ∃ Av cv, u9 = .slice Av lk cv := by
        rcases Joins.ownsRow_forms HG2.out.bl.row with ⟨e, h0⟩ | ⟨g, cap, e⟩
        · exact ⟨none, 0, by rw [e, ← hlkk, h0]⟩
        · exact ⟨_, cap, by rw [e, ← hlkk]⟩
      have hlkb : lk ≤ k := by rw [← hlkk]; exact blkO_le _ _ _
      have HLK := Lib.hid hlkk
      clear hlkk
      go_upto_if 47 with fail
      clear hlk q6
      go_cut [9, 13] from 31 to 66 (fun s9 s13 wx => ∃ (V1 : Value) (us1 : List Value) (F1 : List (List (Int × Int))) (at1 : Nat) (x1 : List (Int × Int)), s9 = V1 ∧ s13 = .int .i64 at1 ∧ Hid (BI w5 own (k + 1) F1 V1 us1 wx) ∧ Hid (wx.heap[pe]? = some (.cells #[.int .i64 (x : Nat), .int .i64 (y : Nat)] 51 (0, 0))) ∧ Hid (∀ u ∈ us1, u.ownBlock ≠ some pe) ∧
        Hid (F1[at1]? = some x1) ∧ Hid (F1.set at1 (x1 ++ [((x : Int), (y : Int))]) = blkO E own (k + 1)) ∧ x1.length ≤ n)
      case first =>
        cases hpl : place own k wo with
        | none =>
          have hg0 := HGD.out
          have hs0 := HSM.out
          rw [hpl] at hg0 hs0
          simp only [Option.map_none, Option.getD_none, Option.isSome_none] at hg0 hs0
          subst hg0
          subst hs0
          have HPL : Hid (place own k (own k) = none) := by show _ = _; rw [HWO.out]; exact hpl
          have HXI : Hid (inI (wo : Int)) := by show inI _; unfold inI; omega
          have HII : Hid (inI (lk : Int)) := by show inI _; unfold inI; omega
          clear hpl
          have HN6 : Hid (∀ (w6 : World) (kk2 : Nat), MapZ w6 w5.heap.size (nn + 1) (upd f (wo : Int) (lk : Int)) kk2 → Y2.grownBy w6 (some w5.heap.size) →
              Hid (BI w5 own (k + 1) (blkO E own k) (.slice Av lk cv) us w6) ∧ Hid (w6.heap[pe]? = some (.cells #[.int .i64 (x : Nat), .int .i64 (y : Nat)] 51 (0, 0))) ∧
              Hid ((w6.alloc (.cells #[.slice none 0 0] 22)).ownsRow (w5.heap.size + 1) 22 1 (.slice Av lk cv) lk us) ∧
              Hid (∀ (i : Nat) (u : Value), [Value.slice none 0 0][i]? = some u → (w6.alloc (.cells #[.slice none 0 0] 22)).cell? ((⟨w6.heap.size, 0, none⟩ : Addr).add i) = some u) ∧ w5.heap.size + 1 ≤ w6.heap.size) := by
            intro w6 kk2 hM6 hg6
            rw [← HLK.out, blkO_length, ← HWO.out] at hM6
            have h6 := HG2.out.mapped HPL.out hnn HFF.out hM6 hg6
            have h7 := h6.bl.row.alloc (.cells #[.slice none 0 0] 22)
            rw [HLK.out] at h7
            refine ⟨h6, ?_, h7, fun i u hi => ?_, h6.sz⟩
            · show _ = _
              rw [hg6.block pe (lt_of_block HE2.out) (by simp; omega)]
              exact HE2.out
            · rw [← hi, add_off, World.cell?_alloc_at _ _ _ _ rfl]
              simp
          go_wp2_with (first
            | (at_mapUpdate; refine wpList_putZ _ rfl _ _ _ rfl w5.heap.size nn kk f rfl HMM.out (by omega) (wo : Int) (lk : Int) rfl rfl HXI.out HII.out ?_; intro w6 hM6 hg6; obtain ⟨HG6, HE6, HFR, HLT, hsz6⟩ := HN6.out w6 _ hM6 hg6; clear hM6 hg6)
            | (at_builtin; refine wpList_append_lies _ rfl (.tmp 53) (.tmp 54) 38 rfl (w5.heap.size + 1) 22 i2 (.slice none 0 0) 1 24 Try.underlying38 hi2 hx0 hx1 hx2 rfl (by decide) _ lk us rfl HFR.out ⟨w6.heap.size, 0, none⟩ 1 1 [.slice none 0 0] (by simp [Act.eval]) rfl HLT.out (by simp [Value.oneCell']) (by omega) (by simp [maxLen]; omega) (by omega) (by simp; omega) (w6.heap.size + 1) (by simp) ?_; intro g7 c7 w7 hr7 hg7 _ _))
          clear HN6
          go_meet
          have hb6 : Below w6.heap.size w6 (w6.alloc (.cells #[.slice none 0 0] 22)) := (Below.refl _ _).alloc (Nat.le_refl _) _
          have hadd := HG6.out.bl.add (k := lk) HLK.out.symm hb6 hg7 hr7
          have hown6 := HG6.out.bl.row
          have hb7 : Below (w5.heap.size + 1) w6 w7 := (hb6.mono hsz6).grown hg7 (by simp; omega) (fun q e => (hown6.lt q e).1)
          have hE7 : w7.heap[pe]? = some (.cells #[.int .i64 (x : Nat), .int .i64 (y : Nat)] 51 (0, 0)) := by
            rw [hg7.block pe (by simp; exact Nat.lt_succ_of_lt (lt_of_block HE6.out)) (fun e => bown_ne8 hown6 HE6.out (by decide) e.symm), blk_below HE6.out hb6]
          refine ⟨_, _, _, lk, [], rfl, rfl, Lib.hid (HG6.out.next hb7 hadd), hE7, ?_, ?_, ?_, by simp⟩
          · intro u hu
            rcases List.mem_append.1 hu with h | h
            · exact HNP.out u h
            · simp at h
              subst h
              simp [Value.ownBlock]
          · show _ = _
            rw [List.getElem?_append_right (by rw [HLK.out]; exact Nat.le_refl _), HLK.out, Nat.sub_self]
            rfl
          · show _ = _
            have := blkO_new HE1.out HPL.out
            rw [HLK.out] at this
            exact this
        | some a =>
          have hg0 := HGD.out
          have hs0 := HSM.out
          rw [hpl] at hg0 hs0
          simp only [Option.map_some, Option.getD_some, Option.isSome_some] at hg0 hs0
          subst hg0
          subst hs0
          have HPL : Hid (place own k (own k) = some a) := by show _ = _; rw [HWO.out]; exact hpl
          clear hpl
          go_wp2_with fail
          go_meet
          obtain ⟨z, hz1, hz2⟩ := blkO_old HE1.out HPL.out
          have hzs := blkO_sz hz1
          exact ⟨_, us, _, a, z, rfl, rfl, Lib.hid (HG2.out.again HPL.out), HE2, HNP, Lib.hid hz1, Lib.hid hz2, by omega⟩
      case rest =>
        obtain ⟨V1, us1, F1, at1, x1, rfl, rfl, HG3, HE3, HN3, HX1, HXF, hl1⟩ := hcut
        obtain ⟨eu, hp⟩ : ∃ eu, us1[at1]? = some eu := ⟨_, List.getElem?_eq_getElem (by have h2 := (List.getElem?_eq_some_iff.1 HX1.out).1; have h3 := HG3.out.bl.len; omega)⟩
        obtain ⟨l1, hl1'⟩ : ∃ l1, F1.length = l1 := ⟨_, rfl⟩
        have hat : at1 < l1 := by rw [← hl1']; exact (List.getElem?_eq_some_iff.1 HX1.out).1
        obtain ⟨G, cap1, hv⟩ := HG3.out.bl.form (by rw [hl1']; omega)
        rw [hl1'] at hv
        subst hv
        have HL1 := Lib.hid hl1'
        have HP1 := Lib.hid hp
        have hatI : (at1 : Int) < (l1 : Nat) := by omega
        have hatJ : (0 : Int) ≤ (at1 : Int) := by omega
        have hnp := HN3.out eu (List.mem_of_getElem? hp)
        have hrow := HG3.out.bl.row
        rw [hl1'] at hrow
        have hGlt := hrow.lt G rfl
        have hpelt := lt_of_block HE3.out
        have hGpe : G ≠ pe := fun e => bown_ne8 hrow HE3.out (by decide) (by rw [← e]; rfl)
        clear hl1' hp
        go_upto_region 17 with fail
        have hou := HG3.out.bl.each at1 _ x1 HP1.out HX1.out
        have hbu : eu.ownBlock ≠ some G := fun e => bown_typ hou hrow (by decide) e rfl
        have r2 : wc.cell? ⟨G, at1, none⟩ = some eu := by
          have := hrow.cells rfl at1 _ HP1.out
          rwa [add_off] at this
        obtain ⟨r0, r1, _, _⟩ := cells_two HE3.out
        have HOW := Lib.hid (World.ownsRow.alloc (World.ownsRow.drew hou) (.cells #[.int .i64 (x : Nat), .int .i64 (y : Nat)] 51))
        have hXA : Below wc.heap.size wc (wc.drew.alloc (.cells #[.int .i64 (x : Nat), .int .i64 (y : Nat)] 51)) := (Below.refl _ _).drew.alloc (by simp only [World.size_drew]; omega) _
        have hrlt : ∀ q, eu.ownBlock = some q → w5.heap.size + 1 ≤ q := fun q e => (hou.lt q e).1
        have HNB : Hid (∀ (w' : World), (wc.drew.alloc (.cells #[.int .i64 (x : Nat), .int .i64 (y : Nat)] 51)).grownBy w' eu.ownBlock → w'.cell? ⟨G, at1, none⟩ = some eu ∧ w'.frozen? ⟨G, at1, none⟩ = false ∧ w'.cell? ⟨pe, 0, none⟩ = some (.int .i64 (x : Nat)) ∧ w'.cell? ⟨pe, 1, none⟩ = some (.int .i64 (y : Nat)) ∧ pe < w'.heap.size ∧ Below (w5.heap.size + 1) wc w' ∧ w'.heap[pe]? = some (.cells #[.int .i64 (x : Nat), .int .i64 (y : Nat)] 51 (0, 0))) := by
          intro w' hg
          have he : w'.heap[pe]? = some (.cells #[.int .i64 (x : Nat), .int .i64 (y : Nat)] 51 (0, 0)) := by
            rw [hg.block _ (by simp only [World.size_alloc, World.size_drew]; omega) (fun e => hnp e.symm)]
            exact blk_below HE3.out hXA
          obtain ⟨cur, hcur⟩ := bown_block hrow
          have hh : w'.heap[G]? = wc.heap[G]? := by
            rw [hg.block _ (by simp only [World.size_alloc, World.size_drew]; omega) (fun e => hbu e.symm)]
            exact hXA.block G hGlt.2
          obtain ⟨e1, e2, _, _⟩ := cells_two he
          have hz := hg.size
          simp only [World.size_alloc, World.size_drew] at hz
          refine ⟨(World.cell?_of_block hh).trans r2, free_of (hh.trans hcur) _, e1, e2, by omega, (hXA.mono HG3.out.sz).grown hg (by simp only [World.size_alloc, World.size_drew]; have := HG3.out.sz; omega) hrlt, he⟩
        have hfin : Hid (∀ (w7 : World) (g' cap' : Nat), w7.ownsRow (w5.heap.size + 1) 51 2 (.slice (some ⟨g', 0, none⟩) (x1.length + 1) cap') (x1.length + 1) (pcells x1 ++ [.int .i64 (x : Nat), .int .i64 (y : Nat)]) → (wc.drew.alloc (.cells #[.int .i64 (x : Nat), .int .i64 (y : Nat)] 51)).grownBy w7 eu.ownBlock → (eu.ownBlock = some g' ∨ g' = wc.heap.size + 1) →
            BI w5 own (k + 1) (F1.set at1 (x1 ++ [((x : Int), (y : Int))])) (.slice (some ⟨G, 0, none⟩) l1 cap1) (us1.set at1 (.slice (some ⟨g', 0, none⟩) (x1.length + 1) cap')) (w7.setCell ⟨G, at1, none⟩ (.slice (some ⟨g', 0, none⟩) (x1.length + 1) cap')) ∧
            (w7.setCell ⟨G, at1, none⟩ (.slice (some ⟨g', 0, none⟩) (x1.length + 1) cap')).heap[pe]? = some (.cells #[.int .i64 (x : Nat), .int .i64 (y : Nat)] 51 (0, 0))) := by
          intro w7 g' cap' ho hg hor
          obtain ⟨_, _, _, _, _, hb7, he7⟩ := HNB w7 hg
          refine ⟨HG3.out.next (hb7.setCell (by show w5.heap.size + 1 ≤ G; omega) _) ?_, ?_⟩
          · refine HG3.out.bl.set HL1.out.symm HP1.out HX1.out hXA hg ?_ ?_
            · rw [pcells_one, List.length_append]
              exact ho
            · rcases hor with h | h
              · exact .inl (by rw [h]; rfl)
              · exact .inr ⟨g', rfl, by omega⟩
          · rw [Below.heap_setCell _ _ _ _ (by show pe ≠ G; exact fun e => hGpe e.symm)]
            exact he7
        obtain ⟨xl, hxl⟩ : ∃ xl, x1.length = xl := ⟨_, rfl⟩
        rw [hxl] at HOW hfin hl1
        have HXLL := Lib.hid hxl
        have hGL : G < wc.heap.size := hGlt.2
        clear hou hbu hXA hrlt hxl hGlt hrow hnp
        refine wp_region_held_drew (S := fun w' => w'.cell? ⟨pe, 0, none⟩ = some (.int .i64 (x : Nat)) ∧ w'.cell? ⟨pe, 1, none⟩ = some (.int .i64 (y : Nat))) (by kernel_rfl) ⟨r0, r1⟩ (fun hS => ?_)
        refine wpAnyH_take (i := 0) (v := ?_) rfl (by kernel_rfl) (by kernel_rfl) (by kernel_rfl) (fun _ _ _ h => h) (Or.inl ⟨by rfl, ?_⟩) hS ?_
        rotate_left
        · intro wz hSw; (try dsimp only at hSw); obtain ⟨hz1, hz2⟩ := hSw; go_simp; (try with_reducible rfl)
        try simp only [List.getElem_toArray, List.getElem_cons_zero, Act.put, List.setIfInBounds_toArray, List.set_cons_zero, List.set_cons_succ]
        refine wpAnyH_take (i := 1) (v := ?_) rfl (by kernel_rfl) (by kernel_rfl) (by kernel_rfl) (fun _ _ _ h => h) (Or.inl ⟨by rfl, ?_⟩) hS ?_
        rotate_left
        · intro wz hSw; (try dsimp only at hSw); obtain ⟨hz1, hz2⟩ := hSw; go_simp; (try with_reducible rfl)
        try simp only [List.getElem_toArray, List.getElem_cons_zero, List.getElem_cons_succ, Act.put, List.setIfInBounds_toArray, List.set_cons_zero, List.set_cons_succ]
        refine wpAnyH_take (i := 2) (v := ?_) rfl (by kernel_rfl) (by kernel_rfl) (by kernel_rfl) (fun _ _ _ h => h) (Or.inl ⟨by rfl, ?_⟩) hS ?_
        rotate_left
        · intro wz hSw; (try dsimp only at hSw); obtain ⟨hz1, hz2⟩ := hSw; go_simp; (try with_reducible rfl)
        try simp only [List.getElem_toArray, List.getElem_cons_zero, List.getElem_cons_succ, Act.put, List.setIfInBounds_toArray, List.set_cons_zero, List.set_cons_succ]
        refine wpAnyH_take (i := 3) (v := ?_) rfl (by kernel_rfl) (by kernel_rfl) (by kernel_rfl) (fun _ _ _ h => h) (Or.inl ⟨by rfl, ?_⟩) hS ?_
        rotate_left
        · intro wz hSw; (try dsimp only at hSw); obtain ⟨hz1, hz2⟩ := hSw; go_simp; (try with_reducible rfl)
        try simp only [List.getElem_toArray, List.getElem_cons_zero, List.getElem_cons_succ, Act.put, List.setIfInBounds_toArray, List.set_cons_zero, List.set_cons_succ]
        refine wpAnyH_take (i := 4) (v := ?_) rfl (by kernel_rfl) (by kernel_rfl) (by kernel_rfl) (fun _ _ _ h => h) (Or.inl ⟨by rfl, ?_⟩) hS ?_
        rotate_left
        · intro wz hSw; (try dsimp only at hSw); obtain ⟨hz1, hz2⟩ := hSw; go_simp; (try with_reducible rfl)
        try simp only [List.getElem_toArray, List.getElem_cons_zero, List.getElem_cons_succ, Act.put, List.setIfInBounds_toArray, List.set_cons_zero, List.set_cons_succ]
        refine wpAnyH_take (i := 6) (v := ?_) rfl (by kernel_rfl) (by kernel_rfl) (by kernel_rfl) (fun _ _ _ h => h) (Or.inl ⟨by rfl, ?_⟩) hS ?_
        rotate_left
        · intro wz hSw; (try dsimp only at hSw); obtain ⟨hz1, hz2⟩ := hSw; go_simp; (try with_reducible rfl)
        try simp only [List.getElem_toArray, List.getElem_cons_zero, List.getElem_cons_succ, Act.put, List.setIfInBounds_toArray, List.set_cons_zero, List.set_cons_succ]
        refine wpAnyH_ready (rs := [5, 7]) (by kernel_rfl) (by simp) (AllReadyH.cons rfl (fun K hK => ?_) (AllReadyH.cons rfl (fun K hK => ?_) AllReadyH.nil))
        · go_simp
          refine hK.out _ _ hS (fun _ => ?_)
          clear hK K
          try simp only [List.getElem_toArray, List.getElem_cons_zero, List.getElem_cons_succ, Act.put, List.setIfInBounds_toArray, List.set_cons_zero, List.set_cons_succ]
          refine wpAnyH_ready (rs := [7]) (by kernel_rfl) (by simp) (AllReadyH.cons rfl (fun K hK => ?_) AllReadyH.nil)
          go_simp
          have hS := (show _ ∧ _ from ⟨(World.cell?_alloc_lt wc.drew (.cells #[.int .i64 (x : Nat), .int .i64 (y : Nat)] 51) _ hpelt).trans hS.1, (World.cell?_alloc_lt wc.drew (.cells #[.int .i64 (x : Nat), .int .i64 (y : Nat)] 51) _ hpelt).trans hS.2⟩)
          refine hK.out _ _ hS (fun _ => ?_)
          clear hK K
          try simp only [List.getElem_toArray, List.getElem_cons_zero, List.getElem_cons_succ, Act.put, List.setIfInBounds_toArray, List.set_cons_zero, List.set_cons_succ]
          refine wpAnyH_ready (rs := [8]) (by kernel_rfl) (by simp) (AllReadyH.cons rfl (fun K hK => ?_) AllReadyH.nil)
          refine step_append_lies _ rfl (.tmp 61) (.tmp 63) 22 rfl (w5.heap.size + 1) 51 i1 (.agg #[.int .i64 0, .int .i64 0]) 2 16 Try.underlying22 hi1 hy0 hy1 hy2 rfl (by decide) eu xl (pcells x1) (by simp [Act.eval]) HOW.out ⟨wc.heap.size, 0, none⟩ 1 1 [.int .i64 (x : Nat), .int .i64 (y : Nat)] (by simp [Act.eval]) rfl (by intro j u hj; rw [← hj, add_off]; exact (show (wc.alloc (.cells #[.int .i64 (x : Nat), .int .i64 (y : Nat)] 51)).cell? ⟨wc.heap.size, j, none⟩ = _ from (by rw [World.cell?_alloc_at _ _ _ _ rfl]; simp))) (by simp [Value.oneCell']) (by omega) (by simp [maxLen]; omega) (by omega) (by simp only [World.size_alloc, World.size_drew]; have := HG3.out.sz; omega) (wc.heap.size + 1) (by simp only [World.size_alloc, World.size_drew]) ?_
          intro g' cap' w7 hrow7 hgr7 hor7 hlt7
          obtain ⟨s1, s2, s3, s4, _, _, _⟩ := HNB.out w7 hgr7
          have hS := (show _ ∧ _ from ⟨s3, s4⟩)
          refine hK.out _ _ hS (fun _ => ?_)
          clear hK K
          try simp only [List.getElem_toArray, List.getElem_cons_zero, List.getElem_cons_succ, Act.put, List.setIfInBounds_toArray, List.set_cons_zero, List.set_cons_succ]
          refine wpAnyH_ready (rs := [9]) (by kernel_rfl) (by simp) (AllReadyH.cons rfl (fun K hK => ?_) AllReadyH.nil)
          go_simp
          refine hK.out _ _ hS (fun _ => ?_)
          clear hK K
          try simp only [List.getElem_toArray, List.getElem_cons_zero, List.getElem_cons_succ, Act.put, List.setIfInBounds_toArray, List.set_cons_zero, List.set_cons_succ]
          refine wpAnyH_ready (rs := [10]) (by kernel_rfl) (by simp) (AllReadyH.cons rfl (fun K hK => ?_) AllReadyH.nil)
          go_simp
          obtain ⟨_, fe⟩ := hfin.out w7 g' cap' hrow7 hgr7 hor7
          obtain ⟨f0, f1, _, _⟩ := cells_two fe
          have hS := (show _ ∧ _ from ⟨f0, f1⟩)
          refine hK.out _ _ hS (fun _ => ?_)
          clear hK K
          try simp only [List.getElem_toArray, List.getElem_cons_zero, List.getElem_cons_succ, Act.put, List.setIfInBounds_toArray, List.set_cons_zero, List.set_cons_succ]
          refine wpAnyH_done (by kernel_rfl) ?_ _
          go_wp2_with fail
          go_roundw
          case rel =>
            obtain ⟨f1, f2⟩ := hfin.out w7 g' cap' hrow7 hgr7 hor7
            exact ⟨k + 1, _, _, by omega, by go_num, rfl, by rw [← HXF.out]; exact f1⟩
          case measure => simp [intOf]; omega
        · go_simp
          have hS := (show _ ∧ _ from ⟨(World.cell?_alloc_lt wc.drew (.cells #[.int .i64 (x : Nat), .int .i64 (y : Nat)] 51) _ hpelt).trans hS.1, (World.cell?_alloc_lt wc.drew (.cells #[.int .i64 (x : Nat), .int .i64 (y : Nat)] 51) _ hpelt).trans hS.2⟩)
          refine hK.out _ _ hS (fun _ => ?_)
          clear hK K
          try simp only [List.getElem_toArray, List.getElem_cons_zero, List.getElem_cons_succ, Act.put, List.setIfInBounds_toArray, List.set_cons_zero, List.set_cons_succ]
          refine wpAnyH_ready (rs := [5]) (by kernel_rfl) (by simp) (AllReadyH.cons rfl (fun K hK => ?_) AllReadyH.nil)
          go_simp
          refine hK.out _ _ hS (fun _ => ?_)
          clear hK K
          try simp only [List.getElem_toArray, List.getElem_cons_zero, List.getElem_cons_succ, Act.put, List.setIfInBounds_toArray, List.set_cons_zero, List.set_cons_succ]
          refine wpAnyH_ready (rs := [8]) (by kernel_rfl) (by simp) (AllReadyH.cons rfl (fun K hK => ?_) AllReadyH.nil)
          refine step_append_lies _ rfl (.tmp 61) (.tmp 63) 22 rfl (w5.heap.size + 1) 51 i1 (.agg #[.int .i64 0, .int .i64 0]) 2 16 Try.underlying22 hi1 hy0 hy1 hy2 rfl (by decide) eu xl (pcells x1) (by simp [Act.eval]) HOW.out ⟨wc.heap.size, 0, none⟩ 1 1 [.int .i64 (x : Nat), .int .i64 (y : Nat)] (by simp [Act.eval]) rfl (by intro j u hj; rw [← hj, add_off]; exact (show (wc.alloc (.cells #[.int .i64 (x : Nat), .int .i64 (y : Nat)] 51)).cell? ⟨wc.heap.size, j, none⟩ = _ from (by rw [World.cell?_alloc_at _ _ _ _ rfl]; simp))) (by simp [Value.oneCell']) (by omega) (by simp [maxLen]; omega) (by omega) (by simp only [World.size_alloc, World.size_drew]; have := HG3.out.sz; omega) (wc.heap.size + 1) (by simp only [World.size_alloc, World.size_drew]) ?_
          intro g' cap' w7 hrow7 hgr7 hor7 hlt7
          obtain ⟨s1, s2, s3, s4, _, _, _⟩ := HNB.out w7 hgr7
          have hS := (show _ ∧ _ from ⟨s3, s4⟩)
          refine hK.out _ _ hS (fun _ => ?_)
          clear hK K
          try simp only [List.getElem_toArray, List.getElem_cons_zero, List.getElem_cons_succ, Act.put, List.setIfInBounds_toArray, List.set_cons_zero, List.set_cons_succ]
          refine wpAnyH_ready (rs := [9]) (by kernel_rfl) (by simp) (AllReadyH.cons rfl (fun K hK => ?_) AllReadyH.nil)
          go_simp
          refine hK.out _ _ hS (fun _ => ?_)
          clear hK K
          try simp only [List.getElem_toArray, List.getElem_cons_zero, List.getElem_cons_succ, Act.put, List.setIfInBounds_toArray, List.set_cons_zero, List.set_cons_succ]
          refine wpAnyH_ready (rs := [10]) (by kernel_rfl) (by simp) (AllReadyH.cons rfl (fun K hK => ?_) AllReadyH.nil)
          go_simp
          obtain ⟨_, fe⟩ := hfin.out w7 g' cap' hrow7 hgr7 hor7
          obtain ⟨f0, f1, _, _⟩ := cells_two fe
          have hS := (show _ ∧ _ from ⟨f0, f1⟩)
          refine hK.out _ _ hS (fun _ => ?_)
          clear hK K
          try simp only [List.getElem_toArray, List.getElem_cons_zero, List.getElem_cons_succ, Act.put, List.setIfInBounds_toArray, List.set_cons_zero, List.set_cons_succ]
          refine wpAnyH_done (by kernel_rfl) ?_ _
          go_wp2_with fail
          go_roundw
          case rel =>
            obtain ⟨f1, f2⟩ := hfin.out w7 g' cap' hrow7 hgr7 hor7
            exact ⟨k + 1, _, _, by omega, by go_num, rfl, by rw [← HXF.out]; exact f1⟩
          case measure => simp [intOf]; omega
    · obtain rfl : n = k := by omega
      have t1 : decide ((n : Int) < (n : Int)) = false := by simp
      go_wp2_with fail
      go_ret2
      have hS : BlkS N E A U F O := ⟨HNR.out, HLF.out, HOI.out⟩
      exact ⟨_, us, A, U, F, O, rfl, by rw [hS.blk HG.out, ← HOWN.out, ← HN.out]; exact hG.out.bl.less (by have := HXS.out; have := HB5.out.size; omega), hS, HB.out.trans ((HB5.out.trans (hG.out.on.mono HB5.out.size)).mono (Nat.le_of_lt HXS.out))⟩
end Go.Proofs.Ytlkddjpjhchjfaa
