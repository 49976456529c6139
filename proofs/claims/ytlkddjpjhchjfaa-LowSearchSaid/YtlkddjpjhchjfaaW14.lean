/- All parts. -/
import Derived.Test.YtlkddjpjhchjfaaW13
namespace Go.Proofs.Ytlkddjpjhchjfaa
set_option maxRecDepth 100000
open Go.RowKit

theorem boolinfo : (Try.prog.info? 4).map (fun i => (i.zero, i.size, i.bytes)) = some (some (.bool false), 1, 1) := by kernel_rfl
def bs (m : List Bool) : List Value := m.map Value.bool
theorem set_grown (w : World) (p : Addr) (u : Value) : w.grownBy (w.setCell p u) (some p.block) :=
  ⟨rfl, rfl, rfl, by simp [World.setCell], fun k _ hne => Below.heap_setCell _ _ _ _ (fun e => hne (by rw [e]))⟩
theorem own_cells {w : World} {base size n k : Nat} {e : TypeId} {v : Value} {xs : List Value} (h : w.ownsRow base e size v n xs) (hk : v.ownBlock = some k) : ∃ cur, w.heap[k]? = some (.cells cur e (0, 0)) := by
  obtain ⟨_, h0 | ⟨g', cap, cur, ev, _, h2, _⟩⟩ := h
  · rw [h0.1] at hk; cases hk
  · rw [ev] at hk
    have : g' = k := by simpa [Value.ownBlock] using hk
    subst this
    exact ⟨cur, h2⟩
theorem row_apart {w : World} {base base' size size' n n' : Nat} {e e' : TypeId} {v v' : Value} {xs xs' : List Value} (h : w.ownsRow base e size v n xs) (h' : w.ownsRow base' e' size' v' n' xs') (hne : e ≠ e') : v.ownBlock = none ∨ v.ownBlock ≠ v'.ownBlock := by
  cases hv : v.ownBlock with
  | none => exact .inl rfl
  | some k =>
    right
    intro e2
    obtain ⟨cur, hc⟩ := own_cells h' e2.symm
    exact own_ne h hc hne hv
theorem PRows.push {w6 w8 : World} {base k g2 gp n cap cap2 : Nat} {V : Value} {us : List Value} {T : List (List Int)} {xs : List Int} (h : PRows w6 base V us T) (hk : k = T.length) (hn : n = xs.length)
    (hP : w6.ownsRow base 3 1 (.slice (some ⟨gp, 0, none⟩) n cap) n (zs xs)) (hap : ∀ u ∈ us, u.ownBlock ≠ some gp)
    (hg : (w6.alloc (.cells #[.slice (some ⟨gp, 0, none⟩) n cap] 35)).grownBy w8 V.ownBlock) (hr : w8.ownsRow base 35 1 (.slice (some ⟨g2, 0, none⟩) (k + 1) cap2) (k + 1) (us ++ [.slice (some ⟨gp, 0, none⟩) n cap])) :
    PRows w8 base (.slice (some ⟨g2, 0, none⟩) (k + 1) cap2) (us ++ [.slice (some ⟨gp, 0, none⟩) n cap]) (T ++ [xs]) := by
  subst hk; subst hn
  obtain ⟨h1, h2, h3, h4⟩ := h
  refine ⟨by simpa using hr, by simp [h2], fun j u ys a b => ?_, fun i j u v g hij a b e => ?_⟩
  · by_cases hj : j < T.length
    · rw [List.getElem?_append_left (by omega)] at a
      rw [List.getElem?_append_left hj] at b
      have hu := h3 j u ys a b
      exact (hu.alloc _).kept hg (row_apart hu h1 (by decide))
    · have hjl := (List.getElem?_eq_some_iff.1 b).1
      simp only [List.length_append, List.length_singleton] at hjl
      have hje : j = T.length := by omega
      subst hje
      rw [List.getElem?_append_right (Nat.le_refl _), Nat.sub_self] at b
      rw [List.getElem?_append_right (by omega), h2, Nat.sub_self] at a
      simp at a b
      subst a; subst b
      exact (hP.alloc _).kept hg (row_apart hP h1 (by decide))
  · have hcase : ∀ (m : Nat) (z : Value), (us ++ [Value.slice (some ⟨gp, 0, none⟩) xs.length cap])[m]? = some z → (m < us.length ∧ us[m]? = some z) ∨ (m = us.length ∧ z.ownBlock = some gp) := by
      intro m z hz
      have hml := (List.getElem?_eq_some_iff.1 hz).1
      simp only [List.length_append, List.length_singleton] at hml
      by_cases hm : m < us.length
      · rw [List.getElem?_append_left hm] at hz
        exact .inl ⟨hm, hz⟩
      · have : m = us.length := by omega
        subst this
        rw [List.getElem?_append_right (Nat.le_refl _), Nat.sub_self] at hz
        simp at hz
        subst hz
        exact .inr ⟨rfl, rfl⟩
    rcases hcase i u a with ⟨i1, a'⟩ | ⟨i1, a'⟩
    · rcases hcase j v b with ⟨j1, b'⟩ | ⟨j1, b'⟩
      · exact h4 i j u v g hij a' b' e
      · rw [b']
        intro e2
        rw [← e2] at e
        exact hap u (List.mem_of_getElem? a') e
    · rcases hcase j v b with ⟨j1, b'⟩ | ⟨j1, b'⟩
      · rw [a'] at e
        injection e with e
        subst e
        exact hap v (List.mem_of_getElem? b')
      · omega

set_option maxRecDepth 100000 in
set_option maxHeartbeats 8000000 in
theorem parts_any (A : Option Addr) (c n N : Nat) (E : List (Int × Int)) (w : World) (hr : RdP w A E) (hn : n = E.length) (hg : rightG (N : Nat) E = true) :
    Calls Try.prog 34 #[.agg #[.int .i64 (N : Nat), .slice A n c]] w fun e w' => ∃ (B : Option Addr) (k cap : Nat) (us : List Value), e = .returned (.slice B k cap) ∧ k = (prun (tabG N E) N N).2.length ∧ PRows w' w.heap.size (.slice B k cap) us (prun (tabG N E) N N).2 ∧ Below w.heap.size w w' := by
  obtain ⟨i0, hi0, hz0, hz1, hz2⟩ := info_partsI i64info
  obtain ⟨i1, hi1, hy0, hy1, hy2⟩ := info_partsI rowinfo
  obtain ⟨i2, hi2, hx0, hx1, hx2⟩ := info_partsI boolinfo
  obtain ⟨W, hW⟩ : ∃ W, W = w.alloc (.cells #[.int .i64 (N : Nat), .slice A n c] 24) := ⟨_, rfl⟩
  have hb : Below w.heap.size w W := by rw [hW]; exact (Below.refl _ _).alloc (Nat.le_refl _) _
  have hWS : w.heap.size < W.heap.size := by rw [hW]; simp
  obtain ⟨j0, j1, _, _⟩ := cells_two (w := W) (by rw [hW]; exact heap_alloc_new w _)
  have HR := Lib.hid (hr.below hb)
  have HN := Lib.hid hn
  have HG := Lib.hid hg
  have HB := Lib.hid hb
  have HW := Lib.hid hW
  have hN200 : N ≤ 200 := by have := rightG_bounds hg; omega
  have hmk : ∀ w' : World, (Instr.makeSlice 65 (.int .i64 N) (.int .i64 N)).run Try.prog w' = .ok (.slice (some ⟨w'.heap.size, 0, none⟩) N N) (w'.alloc (.cells (bs (List.replicate N false)).toArray 4)) := by
    intro w'
    have hr := run_make (P := Try.prog) w' 65 4 i2 (.bool false) Try.underlying65 hi2 hx0 .i64 .i64 N N (by omega) (by omega) (by rw [hx2]; omega) (by omega)
    rw [hx1, Nat.mul_one] at hr
    rw [hr]
    congr 3
    apply Array.ext'
    show (madeCells #[Value.bool false] N).toList = _
    rw [toList_madeCells_one]
    simp [bs]
  obtain ⟨T, hT⟩ : ∃ T, T = tabG N E := ⟨_, rfl⟩
  have HTO : Hid (OkT N T) := by show OkT N T; rw [hT]; exact tabG_okT hg
  have HTI : Hid (∀ u x, x ∈ T.getD u [] → ∃ v : Nat, x = (v : Int)) := fun u x hx => by rw [hT] at hx; obtain ⟨v, e, _⟩ := tabG_mem hg hx; exact ⟨v, e⟩
  have HTR : Hid (∀ u, (T.getD u []).length ≤ 1000) := fun u => by rw [hT]; exact tabG_row hg u
  rw [← hT]
  have HTT := Lib.hid hT
  clear hr hn hg hb hW hT hx0 hx1 hx2 hi2
  go_enter Try.func34, Try.ntmps34
  go_wp2_with fail
  rw [← HW.out]
  refine (right_any A c n (N : Nat) E W HR.out HN.out).mono ?_
  rintro e w1 ⟨rfl, hb1⟩
  rw [HG.out]
  have c0 : w1.cell? ⟨w.heap.size, 0, none⟩ = some (.int .i64 (N : Nat)) := by rw [hb1.cell (by exact hWS)]; exact j0
  have c1 : w1.cell? ⟨w.heap.size, 1, none⟩ = some (.slice A n c) := by rw [hb1.cell (by exact hWS)]; exact j1
  have hs1 : w.heap.size < w1.heap.size := Nat.lt_of_lt_of_le hWS hb1.size
  have HB1 := Lib.hid (HB.out.trans (hb1.mono (Nat.le_of_lt hWS)))
  have HR1 := Lib.hid (HR.out.below hb1)
  clear j0 j1 hb1 HR
  go_wp2_with fail
  refine (beside_any A c n N E w1 HR1.out HN.out HG.out).mono ?_
  rintro e w2 ⟨B0, us0, rfl, hrows, hB0, hb2⟩
  rw [← HTT.out] at hrows
  have c2 : w2.cell? ⟨w.heap.size, 0, none⟩ = some (.int .i64 (N : Nat)) := by rw [hb2.cell (by exact hs1)]; exact c0
  have HB2 := Lib.hid (HB1.out.trans (hb2.mono (Nat.le_of_lt hs1)))
  have hs2 : w.heap.size < w2.heap.size := Nat.lt_of_lt_of_le hs1 hb2.size
  have HRR := Lib.hid hrows.rd
  have HM0 : Hid ((w2.alloc (.cells (bs (List.replicate N false)).toArray 4)).heap[w2.heap.size]? = some (.cells (bs (List.replicate N false)).toArray 4 (0, 0))) := heap_alloc_new w2 _
  have HBA := Lib.hid ((Below.refl w2.heap.size w2).alloc (Nat.le_refl _) (.cells (bs (List.replicate N false)).toArray 4))
  clear hrows hb2 c0 c1 HR1 HN HG
  go_wp2_with fail
  clear hmk
  go_loopw [5, 20] (fun s5 s20 wr => ∃ (v : Nat) (Bv : Option Addr) (kv cv : Nat) (us : List Value), v ≤ N ∧ s20 = .int .i64 v ∧ s5 = .slice Bv kv cv ∧ Hid (kv = (prun T N v).2.length) ∧ Hid (PRows wr w2.heap.size (.slice Bv kv cv) us (prun T N v).2) ∧
    Hid (wr.heap[w2.heap.size]? = some (.cells (bs (prun T N v).1).toArray 4 (0, 0))) ∧ Hid (Below w2.heap.size w2 wr)) (fun _ s20 _ => N - (intOf s20).toNat)
  case atStart => exact ⟨0, none, 0, 0, [], Nat.zero_le _, rfl, rfl, rfl, PRows.nil _ _, HM0, HBA⟩
  case round =>
    obtain ⟨v, Bv, kv, cv, us, hv, rfl, rfl, hkv, hP, hm, hb⟩ := hrel
    by_cases hlt : v < N
    · have hml := prun_len T N v
      have hol := prun_out T N v
      have hV0 : (0 : Int) ≤ (v : Int) := by omega
      have hV1 : (v : Int) < (N : Nat) := by omega
      have g0 : wr.cell? ⟨w2.heap.size, v, none⟩ = some (.bool ((prun T N v).1.getD v false)) := by
        rw [cell_of hm.out]
        simp [bs, List.getD, List.getElem?_eq_getElem (show v < (prun T N v).1.length by omega)]
      have hps : prun T N (v + 1) = pstep T N (prun T N v) v := rfl
      have hlt2 : w2.heap.size < wr.heap.size := lt_of_block hm.out
      cases hmv : (prun T N v).1.getD v false
      · rw [hmv] at g0
        have hps2 : prun T N (v + 1) = (metN (prun T N v).1 (distOf T N v) N, (prun T N v).2 ++ [reachN (distOf T N v) N]) := by
          rw [hps]
          unfold pstep
          rw [if_neg (by rw [hmv]; simp)]
        have HPS := Lib.hid hps2
        clear hps hps2
        go_wp2_with fail
        refine (steps_any _ N N v T wr (HRR.out.below hb.out) HTO.out HTI.out HTR.out hlt (by omega)).mono ?_
        rintro e w4 ⟨Bd, ds, rfl, hBd, ⟨hD, _⟩, hBdl, hb4⟩
        have hde := distOf_eq hD
        have HDE := Lib.hid hde
        have hdl := hD.len
        have hzero := hD.zero
        have hP4 := Lib.hid (hP.out.below hb4)
        have hm4 := Lib.hid (blk_below hm.out hb4)
        have hB4 := Lib.hid (next_below hb.out hb4)
        have hBd4 := Lib.hid hBd
        have hBds : Bd < w4.heap.size := lt_of_block hBd
        have hlow : Hid (∀ u ∈ us, ∀ k, u.ownBlock = some k → k < w4.heap.size) := by
          intro u hu k hk
          obtain ⟨j, hj⟩ := List.getElem?_of_mem hu
          have hjl := (List.getElem?_eq_some_iff.1 hj).1
          obtain ⟨xs, hxs⟩ : ∃ xs, (prun T N v).2[j]? = some xs := ⟨_, List.getElem?_eq_getElem (by rw [← hP.out.2.1]; exact hjl)⟩
          have h1 := ((hP.out.2.2.1 j u xs hj hxs).lt k hk).2
          have h2 := hb4.size
          omega
        have hw4 : wr.heap.size ≤ w4.heap.size := hb4.size
        clear hP hm hBd hD hde hb4 g0 hmv
        generalize prun T N v = st at *
        obtain ⟨m, out⟩ := st
        simp only [] at hkv hml hol hP4 hm4 HPS hlow
        have hkb : kv ≤ 200 := by have := hkv.out; omega
        go_wp2_with fail
        obtain ⟨wo, rfl⟩ : ∃ wo, wo = w4 := ⟨_, rfl⟩
        go_loopw [7, 31] (fun s7 s31 wn => ∃ (i : Nat) (Bp : Option Addr) (cp : Nat), i ≤ N ∧ s31 = .int .i64 i ∧ s7 = .slice Bp (reachN ds i).length cp ∧ Hid (wn.ownsRow wo.heap.size 3 1 (.slice Bp (reachN ds i).length cp) (reachN ds i).length (zs (reachN ds i))) ∧
          Hid (wn.heap[w2.heap.size]? = some (.cells (bs (metN m ds i)).toArray 4 (0, 0))) ∧ Hid (PRows wn w2.heap.size (.slice Bv kv cv) us out) ∧ Hid (OwnZ wn Bd ds) ∧ Hid (Below w2.heap.size w2 wn) ∧ wo.heap.size ≤ wn.heap.size) (fun _ s31 _ => N - (intOf s31).toNat)
        case atStart => exact ⟨0, none, 0, Nat.zero_le _, rfl, rfl, World.ownsRow_nil _ _ _ _, by rw [metN_zero]; exact hm4, hP4, hBd4, hB4, Nat.le_refl _⟩
        case round =>
          obtain ⟨i, Bp, cp, hi, rfl, rfl, hp, hm5, hP5, hd5, hb5, hsz⟩ := hrel
          by_cases hlti : i < N
          · have hI0 : (0 : Int) ≤ (i : Int) := by omega
            have hI1 : (i : Int) < (N : Nat) := by omega
            have e0 : wr.cell? ⟨Bd, i, none⟩ = some (.int .i64 (gd ds i)) := by
              rw [cell_of hd5.out]
              simp [zs, zv, gd, List.getD, List.getElem?_eq_getElem (show i < ds.length by omega)]
            by_cases hge : 0 ≤ gd ds i
            · have dg : decide (0 ≤ gd ds i) = true := by simpa using hge
              have hml2 := metN_length m ds i
              have hr1 : reachN ds (i + 1) = reachN ds i ++ [(i : Int)] := by rw [reachN_step, if_pos hge]
              have hm1 : metN m ds (i + 1) = (metN m ds i).set i true := by rw [metN_step m ds i (by omega), if_pos hge]
              have hrl := reachN_le ds i
              have e1 : wr.cell? ⟨w2.heap.size, i, none⟩ = some (.bool ((metN m ds i).getD i false)) := by
                rw [cell_of hm5.out]
                simp [bs, List.getD, List.getElem?_eq_getElem (show i < (metN m ds i).length by omega)]
              have e2 : wr.frozen? ⟨w2.heap.size, i, none⟩ = false := free_of hm5.out i
              obtain ⟨Y, hY⟩ : ∃ Y, Y = wr.setCell ⟨w2.heap.size, i, none⟩ (.bool true) := ⟨_, rfl⟩
              have hYz : Y.heap.size = wr.heap.size := by rw [hY]; simp [World.setCell]
              have hYg : wr.grownBy Y (some w2.heap.size) := by rw [hY]; exact set_grown wr ⟨w2.heap.size, i, none⟩ _
              have hYm : Y.heap[w2.heap.size]? = some (.cells (bs (metN m ds (i + 1))).toArray 4 (0, 0)) := by
                rw [hY, Go.Joins.block_setCell hm5.out, hm1]
                simp [bs, List.map_set]
              have hBdm : Bd ≠ w2.heap.size := by
                intro e
                have h1 := hd5.out
                unfold OwnZ at h1
                rw [e, hm5.out] at h1
                injection h1 with h1
                injection h1 with _ h1
                exact absurd h1 (by decide)
              have hYd : OwnZ Y Bd ds := (hYg.block Bd (lt_of_block hd5.out) (by intro e; injection e with e; exact hBdm e)).trans hd5.out
              have hYp := hp.out.kept hYg (.inr (own_ne hp.out hm5.out (by decide)))
              have hYP : PRows Y w2.heap.size (.slice Bv kv cv) us out := hP5.out.kept hYg (.inr (own_ne hP5.out.1 hm5.out (by decide))) (fun u hu => by
                obtain ⟨j, hj⟩ := List.getElem?_of_mem hu
                have hjl := (List.getElem?_eq_some_iff.1 hj).1
                obtain ⟨xs, hxs⟩ : ∃ xs, out[j]? = some xs := ⟨_, List.getElem?_eq_getElem (by rw [← hP5.out.2.1]; exact hjl)⟩
                exact .inr (own_ne (hP5.out.2.2.1 j u xs hj hxs) hm5.out (by decide)))
              have hYb : Below w2.heap.size w2 Y := by rw [hY]; exact hb5.out.setCell (Nat.le_refl _) _
              obtain ⟨Z, hZ⟩ : ∃ Z, Z = Y.alloc (.cells #[.int .i64 (i : Int)] 3) := ⟨_, rfl⟩
              have hZz : Z.heap.size = wr.heap.size + 1 := by rw [hZ]; simp [hYz]
              have hYZ : Below Y.heap.size Y Z := by rw [hZ]; exact (Below.refl _ _).alloc (Nat.le_refl _) _
              have hZp := row_below hYp hYZ
              have hZP := hYP.below hYZ
              have hZm := blk_below hYm hYZ
              have hZd : OwnZ Z Bd ds := blk_below hYd hYZ
              have hZb := next_below hYb hYZ
              have hZn : Z.cell? ⟨wr.heap.size, 0, none⟩ = some (.int .i64 (i : Int)) := by rw [hZ]; exact World.cell?_alloc_at _ _ _ _ hYz.symm
              have HZE : Hid (Z = (wr.setCell ⟨w2.heap.size, i, none⟩ (.bool true)).alloc (.cells #[.int .i64 (i : Int)] 3)) := by show _ = _; rw [hZ, hY]
              have HZp := Lib.hid hZp
              have HZN := Lib.hid hZn
              have hplow := hZp.lt
              have HX7 : Hid (∀ w7 : World, Z.grownBy w7 (Value.slice Bp (reachN ds i).length cp).ownBlock → PRows w7 w2.heap.size (.slice Bv kv cv) us out ∧ w7.heap[w2.heap.size]? = some (.cells (bs (metN m ds (i + 1))).toArray 4 (0, 0)) ∧ OwnZ w7 Bd ds ∧ Below w2.heap.size w2 w7 ∧ wo.heap.size ≤ w7.heap.size) := by
                intro w7 hg7
                refine ⟨hZP.kept hg7 (row_apart hZP.1 hZp (by decide)) (fun u hu => ?_), ?_, ?_, hZb.grown hg7 (by omega) (fun k e => by have := (hplow k e).1; omega), by have := hg7.size; omega⟩
                · cases hub : u.ownBlock with
                  | none => exact .inl rfl
                  | some k =>
                    right
                    intro e
                    have h1 := hlow.out u hu k hub
                    have h2 := (hplow k e.symm).1
                    omega
                · rw [hg7.block _ (by omega) (fun e => own_ne hZp hZm (by decide) e.symm)]
                  exact hZm
                · show _ = _
                  rw [hg7.block Bd (by omega) (fun e => by have := (hplow Bd e.symm).1; omega)]
                  exact hZd
              have HR1 := Lib.hid hr1
              generalize gd ds i = gv at *
              generalize (metN m ds i).getD i false = mv at *
              clear hY hYg hYm hYd hYp hYP hYb hZ hYZ hZp hZP hZm hZd hZb hZn hr1 hm1
              go_wp2_with (at_builtin; refine wpList_append_lies _ rfl (.tmp 41) (.tmp 43) 35 rfl wo.heap.size 3 i0 (.int .i64 0) 1 8 Try.underlying35 hi0 hz0 hz1 hz2 rfl (by decide) (.slice Bp (reachN ds i).length cp) (reachN ds i).length (zs (reachN ds i)) rfl (by rw [← HZE.out]; exact HZp.out) ⟨wr.heap.size, 0, none⟩ 1 1 [.int .i64 (i : Int)] (by simp [Act.eval, World.setCell]) rfl (by intro j u hj; have hj0 : j = 0 := (by have := (List.getElem?_eq_some_iff.1 hj).1; simp at this; omega); subst hj0; rw [← hj, add_off, ← HZE.out]; exact HZN.out) (by simp [Value.oneCell']) (by omega) (by simp [maxLen]; omega) (by omega) (by rw [← HZE.out, hZz]; omega) (wr.heap.size + 1) (by rw [← HZE.out, hZz]) ?_
                           intro g' cap' w7 hrow7 hgr7 hor7 hlt7
                           rw [← HZE.out] at hgr7)
              go_roundw
              case rel =>
                obtain ⟨f1, f2, f3, f4, f5⟩ := HX7.out w7 hgr7
                refine ⟨i + 1, some ⟨g', 0, none⟩, cap', by omega, by go_num, by rw [HR1.out]; simp, ?_, Lib.hid f2, Lib.hid f1, Lib.hid f3, Lib.hid f4, f5⟩
                rw [HR1.out]
                show World.ownsRow _ _ _ _ _ _ _
                rw [List.length_append, List.length_singleton, show zs (reachN ds i ++ [(i : Int)]) = zs (reachN ds i) ++ [.int .i64 (i : Int)] by simp [zs, zv]]
                exact hrow7
              case measure => simp [intOf]; omega
            · have dg : decide (0 ≤ gd ds i) = false := by simpa using hge
              have hr1 : reachN ds (i + 1) = reachN ds i := by rw [reachN_step, if_neg hge, List.append_nil]
              have hm1 : metN m ds (i + 1) = metN m ds i := by rw [metN_step m ds i (by omega), if_neg hge]
              have HR1 := Lib.hid hr1
              have HM1 := Lib.hid hm1
              generalize gd ds i = gv at *
              clear hr1 hm1
              go_wp2_with fail
              go_roundw
              case rel => exact ⟨i + 1, Bp, cp, by omega, by go_num, by rw [HR1.out], by rw [HR1.out]; exact hp, by rw [HM1.out]; exact hm5, hP5, hd5, hb5, hsz⟩
              case measure => simp [intOf]; omega
          · have hiN : i = N := by omega
            subst hiN
            have hpos : 0 < (reachN ds i).length := by
              have h1 : (v : Int) ∈ reachN ds i := by
                unfold reachN
                exact List.mem_map.2 ⟨v, List.mem_filter.2 ⟨List.mem_range.2 hlt, by simp [hzero]⟩, rfl⟩
              exact List.length_pos_of_mem h1
            obtain ⟨gp, cp2, ev⟩ := Joins.ownsRow_form hp.out hpos
            have hBp : Bp = some ⟨gp, 0, none⟩ := by injection ev
            subst hBp
            have hrl := reachN_le ds i
            have hgp := hp.out.lt gp rfl
            have hwo2 : w2.heap.size ≤ wo.heap.size := by omega
            have hPw := Go.Joins.ownsRow_le hp.out hwo2
            have hV := hP5.out.1
            rw [← hkv.out] at hV
            have hWb : Below wr.heap.size wr (wr.alloc (.cells #[.slice (some ⟨gp, 0, none⟩) (reachN ds i).length cp] 35)) := (Below.refl _ _).alloc (Nat.le_refl _) _
            have HV := Lib.hid (hV.alloc (.cells #[.slice (some ⟨gp, 0, none⟩) (reachN ds i).length cp] 35))
            have hap : ∀ u ∈ us, u.ownBlock ≠ some gp := fun u hu e => by
              have h1 := hlow.out u hu gp e
              omega
            have hRE : (metN m ds i, out ++ [reachN ds i]) = prun T i (v + 1) := by rw [HPS.out, HDE.out]
            have HRE := Lib.hid hRE
            have hNW : Hid (∀ (j : Nat) (u : Value), [Value.slice (some ⟨gp, 0, none⟩) (reachN ds i).length cp][j]? = some u → (wr.alloc (.cells #[.slice (some ⟨gp, 0, none⟩) (reachN ds i).length cp] 35)).cell? ((⟨wr.heap.size, 0, none⟩ : Addr).add j) = some u) := by
              intro j u hj
              have hj0 : j = 0 := by have := (List.getElem?_eq_some_iff.1 hj).1; simp at this; omega
              subst hj0
              rw [← hj, add_off]
              exact World.cell?_alloc_at _ _ _ _ rfl
            have HFIN : Hid (∀ (w8 : World) (g2 cap2 : Nat), w8.ownsRow w2.heap.size 35 1 (.slice (some ⟨g2, 0, none⟩) (kv + 1) cap2) (kv + 1) (us ++ [.slice (some ⟨gp, 0, none⟩) (reachN ds i).length cp]) → (wr.alloc (.cells #[.slice (some ⟨gp, 0, none⟩) (reachN ds i).length cp] 35)).grownBy w8 (Value.slice Bv kv cv).ownBlock →
                PRows w8 w2.heap.size (.slice (some ⟨g2, 0, none⟩) (kv + 1) cap2) (us ++ [.slice (some ⟨gp, 0, none⟩) (reachN ds i).length cp]) (prun T i (v + 1)).2 ∧ w8.heap[w2.heap.size]? = some (.cells (bs (prun T i (v + 1)).1).toArray 4 (0, 0)) ∧ Below w2.heap.size w2 w8 ∧ kv + 1 = (prun T i (v + 1)).2.length) := by
              intro w8 g2 cap2 hr8 hg8
              rw [← hRE]
              refine ⟨PRows.push hP5.out hkv.out rfl hPw hap hg8 hr8, ?_, (next_below hb5.out hWb).grown hg8 (by simp only [World.size_alloc]; omega) (fun k e => (hV.lt k e).1), by simp [hkv.out]⟩
              rw [hg8.block _ (by simp only [World.size_alloc]; omega) (fun e => own_ne hV hm5.out (by decide) e.symm)]
              exact blk_below hm5.out hWb
            generalize (reachN ds i).length = np at *
            clear hP5 hm5 hV hPw hWb hap hp ev hRE
            go_wp2_with (at_builtin; refine wpList_append_lies _ rfl (.tmp 46) (.tmp 48) 48 rfl w2.heap.size 35 i1 (.slice none 0 0) 1 24 Try.underlying48 hi1 hy0 hy1 hy2 rfl (by decide) (.slice Bv kv cv) kv us rfl HV.out ⟨wr.heap.size, 0, none⟩ 1 1 [.slice (some ⟨gp, 0, none⟩) np cp] (by simp [Act.eval]) rfl hNW.out (by simp [Value.oneCell']) (by omega) (by simp [maxLen]; omega) (by omega) (by simp only [World.size_alloc]; omega) (wr.heap.size + 1) (by simp only [World.size_alloc]) ?_
                         intro g2 cap2 w8 hrow8 hgr8 hor8 hlt8)
            go_roundw
            case rel =>
              obtain ⟨f1, f2, f3, f4⟩ := HFIN.out w8 g2 cap2 hrow8 hgr8
              exact ⟨v + 1, some ⟨g2, 0, none⟩, kv + 1, cap2, _, by omega, by go_num, rfl, Lib.hid f4, Lib.hid f1, Lib.hid f2, Lib.hid f3⟩
            case measure => simp [intOf]; omega
      · rw [hmv] at g0
        have hps2 : prun T N (v + 1) = prun T N v := by
          rw [hps]
          unfold pstep
          rw [if_pos hmv]
        have HPS := Lib.hid hps2
        clear hps hps2 hmv
        go_wp2_with fail
        go_roundw
        case rel => exact ⟨v + 1, Bv, kv, cv, us, by omega, by go_num, rfl, by rw [HPS.out]; exact hkv, by rw [HPS.out]; exact hP, by rw [HPS.out]; exact hm, hb⟩
        case measure => simp [intOf]; omega
    · obtain rfl : v = N := by omega
      go_wp2_with fail
      go_ret
      have h1 := HB2.out.size
      exact ⟨Bv, kv, cv, us, rfl, hkv.out, ⟨Go.Joins.ownsRow_le hP.out.1 h1, hP.out.2.1, fun j u xs a b => Go.Joins.ownsRow_le (hP.out.2.2.1 j u xs a b) h1, hP.out.2.2.2⟩, HB2.out.trans (hb.out.mono h1)⟩
end Go.Proofs.Ytlkddjpjhchjfaa
