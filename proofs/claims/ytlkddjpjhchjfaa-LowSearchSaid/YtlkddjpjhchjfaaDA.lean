/- What a search tells: low.Search (layer 5). -/
import Derived.Test.YtlkddjpjhchjfaaD5
import Derived.Test.YtlkddjpjhchjfaaBK
import Derived.Test.YtlkddjpjhchjfaaDD
import Derived.Test.YtlkddjpjhchjfaaPR
namespace Go.Proofs.Ytlkddjpjhchjfaa
set_option maxRecDepth 100000
open Go.RowKit
attribute [local go_sem] Oper.semAt_some
attribute [local go_sem ↓] min_run

theorem own_bar {w w' : World} {base size n B : Nat} {e : TypeId} {v : Value} {cs : List Value} (h : w.ownsRow base e size v n cs) (hb : Bar B 1 w w') (hv : v.ownBlock ≠ some B) : w'.ownsRow base e size v n cs := by
  obtain ⟨hl, h0 | ⟨g, cap, cur, ev, h1, h2, h3⟩⟩ := h
  · exact ⟨hl, .inl h0⟩
  · refine ⟨hl, .inr ⟨g, cap, cur, ev, h1, (hb.same g (lt_of_block h2) ?_).trans h2, h3⟩⟩
    have : g ≠ B := fun e => hv (by rw [ev, e]; rfl)
    omega
theorem Rows.bar {w w' : World} {base B B2 : Nat} {us : List Value} {T : List (List Int)} (h : Rows w base B2 us T) (hb : Bar B 1 w w') (h1 : B < base) (h2 : B < B2) : Rows w' base B2 us T := by
  obtain ⟨a, b, c, d⟩ := h
  refine ⟨(hb.same B2 (lt_of_block a) (by omega)).trans a, b, fun j u xs hu hx => ⟨own_bar (c j u xs hu hx).1 hb (fun e => ?_), (c j u xs hu hx).2⟩, d⟩
  have := ((c j u xs hu hx).1.lt B e).1
  omega
theorem numL_low {N : Nat} {A : List Nat} (U : Nat → Option Nat) (h : ∀ v, v < N → v ∈ A) : numL N A U = lowL N A U (numF A) := by
  unfold numL lowL
  apply List.map_congr_left
  intro v hv
  rw [if_pos (h v (List.mem_range.1 hv))]
/-- What lies between two rounds. -/
def SrI (w2 : World) (B N : Nat) (T : List (List Int)) (A : List Nat) (U : Nat → Option Nat) (j : Nat) (X : World) : Prop :=
  Bar B 1 w2 X ∧ ∃ F, SI T A U j F ∧ OwnT X B (lowL N A U F)
theorem SrI.bar {w2 : World} {B N : Nat} {T : List (List Int)} {A : List Nat} {U : Nat → Option Nat} {j : Nat} {X Y : World} (h : SrI w2 B N T A U j X) (hB : B < w2.heap.size) (hb : Bar w2.heap.size 2 X Y) : SrI w2 B N T A U j Y := by
  obtain ⟨h1, F, h2, h3⟩ := h
  refine ⟨⟨hb.os.trans h1.os, hb.tape.trans h1.tape, hb.output.trans h1.output, Nat.le_trans h1.size hb.size, fun b hl hd => (hb.same b (by have := h1.size; omega) (.inl hl)).trans (h1.same b hl hd)⟩, F, h2, ?_⟩
  exact (hb.same B (lt_of_block h3) (.inl hB)).trans h3
set_option maxHeartbeats 32000000 in
theorem search_any (A0 : Option Addr) (c n N : Nat) (E : List (Int × Int)) (w : World) (hr : RdP w A0 E) (hn : n = E.length) (hg : rightG (N : Nat) E = true) :
    Calls Try.prog 14 #[.agg #[.int .i64 (N : Nat), .slice A0 n c]] w fun e w' => ∃ (B : Nat) (A : List Nat) (U : Nat → Option Nat) (F : Nat → Nat), e = .returned (.tuple #[.slice (some ⟨B, 0, none⟩) N N, .int .i64 0]) ∧ OwnT w' B (lowL N A U F) ∧ NR (tabG N E) N N A U ∧ (∀ v, LowFix (adj (tabG N E)) U (numF A) F v) ∧ w.heap.size ≤ B ∧ Below w.heap.size w w' := by
  have hN2 : N ≤ 200 := by have := (rightG_bounds hg).2.1; omega
  obtain ⟨X, hX⟩ : ∃ X, X = w.alloc (.cells #[.int .i64 (N : Nat), .slice A0 n c] 24) := ⟨_, rfl⟩
  have hb : Below w.heap.size w X := by rw [hX]; exact (Below.refl _ _).alloc (Nat.le_refl _) _
  have hXS : w.heap.size < X.heap.size := by rw [hX]; simp
  obtain ⟨j0, j1, _, _⟩ := cells_two (w := X) (by rw [hX]; exact heap_alloc_new w _)
  have HJ : Hid (∀ w', Below X.heap.size X w' → w'.cell? ⟨w.heap.size, 0, none⟩ = some (.int .i64 (N : Nat)) ∧ w'.cell? ⟨w.heap.size, 1, none⟩ = some (.slice A0 n c)) := fun w' hb =>
    ⟨by rw [hb.cell (by show w.heap.size < _; omega)]; exact j0, by rw [hb.cell (by show w.heap.size < _; omega)]; exact j1⟩
  have HE := Lib.hid (hr.below hb)
  have HN := Lib.hid hn
  have HG := Lib.hid hg
  have HX := Lib.hid hX
  have HB := Lib.hid hb
  have HXS := Lib.hid hXS
  have HSY : Hid (∀ a b, adj (tabG N E) a b → adj (tabG N E) b a) := fun a b h => tabG_sym hg h
  have HT := Lib.hid (tab_is hg)
  have HIR := Lib.hid (adj_irr hg)
  clear hr hn hg hX hb hXS
  refine callsIn_wide (n := 0).1 (callsIn_of_wp_marks Try.func14 rfl trivial ?_ rfl)
  refine wpIn_wide.2 ?_
  simp only [Try.ntmps14, List.size_toArray, List.length_cons, List.length_nil, Nat.reduceAdd, Nat.reduceSub, Array.replicate_succ, Array.replicate_zero, List.push_toArray, List.append_toArray, List.nil_append, List.cons_append]
  go_wp2_with fail
  rw [← HX.out]
  refine (right_any A0 c n N E X HE.out HN.out).mono ?_
  rintro e w1 ⟨rfl, hb1⟩
  rw [HG.out]
  have HB1 := Lib.hid hb1
  clear hb1 j0 j1
  obtain ⟨j0, j1⟩ := HJ.out w1 HB1.out
  go_wp2_with fail
  refine (numbered_any A0 c n N E w1 (HE.out.below HB1.out) HN.out HG.out HSY.out).mono ?_
  rintro e w3 ⟨B, V, A, U, rfl, hNB, hNR, hB1⟩
  have HP := Lib.hid hNR.toNI.perm
  have hAl : A.length = N := HP.out.len
  have hOT0 : OwnT w3 B (lowL N A U (numF A)) := by
    rw [← numL_low U (fun v hv => hNR.done v hv hv)]
    exact hNB.out
  have hvb := hNB.apart
  obtain ⟨AV, cv, rfl⟩ : ∃ AV cv, V = .slice AV N cv := by
    rcases Joins.ownsRow_forms hNB.row with ⟨e, h0⟩ | ⟨g, cap, e⟩
    · exact ⟨none, 0, by rw [e, ← hAl, h0]⟩
    · exact ⟨_, cap, by rw [e, hAl]⟩
  have hrow3 := hNB.row
  rw [hAl] at hrow3
  have HRW3 := Lib.hid hrow3
  have HO3 := Lib.hid hOT0
  have HVB := Lib.hid hvb
  have HB3 := Lib.hid (next_below HB1.out (hNB.bel))
  have HNR := Lib.hid hNR
  have hBl : B < w3.heap.size := lt_of_block hOT0
  have HBW : Hid (w.heap.size ≤ B) := by have := HB1.out.size; have := HXS.out; show _ ≤ _; omega
  obtain ⟨W4, hW4⟩ : ∃ W4, W4 = w3.alloc (.cells #[.slice (some ⟨B, 0, none⟩) N N] 27) := ⟨_, rfl⟩
  have hb4 : Below w3.heap.size w3 W4 := by rw [hW4]; exact (Below.refl _ _).alloc (Nat.le_refl _) _
  have hpo : W4.heap[w3.heap.size]? = some (.cells #[.slice (some ⟨B, 0, none⟩) N N] 27 (0, 0)) := by rw [hW4]; exact heap_alloc_new w3 _
  have HB4 := Lib.hid (next_below HB3.out hb4)
  have h4s : W4.heap.size = w3.heap.size + 1 := by rw [hW4]; simp
  have HPO := Lib.hid hpo
  have HB34 := Lib.hid hb4
  have HW4 := Lib.hid hW4
  clear hNB hNR hOT0 hvb hrow3 j0 j1 hB1 hpo hb4 hW4
  obtain ⟨j0, j1⟩ := HJ.out W4 HB4.out
  go_upto_region 4 with fail
  rw [← HW4.out]
  go_wp2_with fail
  refine (beside_any A0 c n N E W4 (HE.out.below HB4.out) HN.out HG.out).mono ?_
  rintro e w5 ⟨B2, us, rfl, hRo, hB2, hb5⟩
  have HRO := Lib.hid hRo
  have h5s := hb5.size
  have hB2l : B2 < w5.heap.size := lt_of_block hRo.1
  obtain ⟨w6, hw6⟩ : ∃ w6, w6 = w5.alloc (.cells #[.slice (some ⟨B2, 0, none⟩) N N] 48) := ⟨_, rfl⟩
  have hb6 : Below w5.heap.size w5 w6 := by rw [hw6]; exact (Below.refl _ _).alloc (Nat.le_refl _) _
  have h6s : w6.heap.size = w5.heap.size + 1 := by rw [hw6]; simp
  have hpb : w6.heap[w5.heap.size]? = some (.cells #[.slice (some ⟨B2, 0, none⟩) N N] 48 (0, 0)) := by rw [hw6]; exact heap_alloc_new w5 _
  obtain ⟨w7, hw7⟩ : ∃ w7, w7 = w6.alloc (.cells #[.slice AV N cv] 35) := ⟨_, rfl⟩
  have hb7 : Below w6.heap.size w6 w7 := by rw [hw7]; exact (Below.refl _ _).alloc (Nat.le_refl _) _
  have h7s : w7.heap.size = w6.heap.size + 1 := by rw [hw7]; simp
  have hpv : w7.heap[w6.heap.size]? = some (.cells #[.slice AV N cv] 35 (0, 0)) := by rw [hw7]; exact heap_alloc_new w6 _
  have hb47 : Below W4.heap.size W4 w7 := (hb5.trans (hb6.mono h5s)).trans (hb7.mono (by omega))
  have hb37 : Below w3.heap.size w3 w7 := next_below HB34.out hb47
  have HB7 := Lib.hid (next_below HB4.out hb47)
  have HO7 : Hid (OwnT w7 B (lowL N A U (numF A))) := HO3.out.below hb37
  have HRW7 := Lib.hid (row_below HRW3.out hb37)
  have HRO7 : Hid (Rows w7 W4.heap.size B2 us (tabG N E)) := HRO.out.below (hb6.trans (hb7.mono (by omega)))
  have HC7 : Hid (∀ X', Bar B 1 w7 X' → X'.cell? ⟨w3.heap.size, 0, none⟩ = some (.slice (some ⟨B, 0, none⟩) N N) ∧ X'.cell? ⟨w5.heap.size, 0, none⟩ = some (.slice (some ⟨B2, 0, none⟩) N N) ∧ X'.cell? ⟨w6.heap.size, 0, none⟩ = some (.slice AV N cv) ∧ RdZ X' AV (iz A) ∧ RdR X' (some ⟨B2, 0, none⟩) (tabG N E)) := by
    intro X' hB
    refine ⟨?_, ?_, ?_, ?_, ?_⟩
    · rw [hB.cell (by show w3.heap.size < _; omega) (.inr (by show B + 1 ≤ w3.heap.size; omega)), hb47.cell (by show w3.heap.size < _; omega), cell_of HPO.out]
      rfl
    · rw [hB.cell (by show w5.heap.size < _; omega) (.inr (by show B + 1 ≤ w5.heap.size; omega)), hb7.cell (by show w5.heap.size < _; omega), cell_of hpb]
      rfl
    · rw [hB.cell (by show w6.heap.size < _; omega) (.inr (by show B + 1 ≤ w6.heap.size; omega)), cell_of hpv]
      rfl
    · have h := own_bar HRW7.out hB HVB.out
      exact owns_rd (n := N) (by rw [show zs (iz A) = zn A by simp only [zn, zs, iz, List.map_map]; rfl]; exact h)
    · exact (HRO7.out.bar hB (by omega) (by omega)).rd
  have HWE : Hid (w7 = (w5.alloc (.cells #[.slice (some ⟨B2, 0, none⟩) N N] 48)).alloc (.cells #[.slice AV N cv] 35)) := by show _ = _; rw [hw7, hw6]
  have hB7l : B < w7.heap.size := by omega
  clear hRo hb5 hb6 hb7 hpb hpv hb47 hb37 hw6 hw7 j0 j1
  go_wp2_with fail
  refine (backward_any AV N cv _).mono ?_
  rintro e w7' ⟨rfl, hw7'⟩
  rw [← HWE.out] at hw7'
  subst hw7'
  have HI0 : Hid (SrI w7' B N (tabG N E) A U N w7') := ⟨Bar.refl _ _ _, numF A, SI.start _ A U N hAl, HO7.out⟩
  go_wp2_with fail
  refine wpIn_wide.1 (range_back (w := w7') AV (w5.heap.size + 1) N cv A rfl rfl (enters_of Try.func70 (by kernel_rfl) rfl) (fun W => back1_any AV _ N cv A W hAl.symm (by omega))
    (SrI w7' B N (tabG N E) A U) (fun j X h => ⟨(HC7.out X h.1).2.2.2.1, by rw [← h6s]; exact (HC7.out X h.1).2.2.1⟩) (fun j X Y h hb => h.bar hB7l hb) HI0.out ?a1 ?assign ?body ?done)
  case assign =>
    intro l j v W K hK
    gi_wp2
    exact hK
  case body =>
    rintro l j v W1 hv hI hsz
    obtain ⟨hBar, F, hSI, hOT⟩ := hI
    have hvN : v < N := HP.out.lt v (List.mem_of_getElem? hv)
    obtain ⟨xs, hxs⟩ : ∃ xs, (tabG N E)[v]? = some xs := ⟨_, List.getElem?_eq_getElem (by rw [(tabG_okT HG.out).1]; exact hvN)⟩
    have hTv : (tabG N E).getD v [] = xs := by simp [List.getD, hxs]
    have hxl : xs.length ≤ 1000 := by rw [← hTv]; exact tabG_row HG.out v
    have hxn : ∀ x ∈ xs, ∃ y : Nat, x = (y : Int) ∧ y < N ∧ y ≠ v := fun x hx => by
      obtain ⟨y, e, hy⟩ := HT.out.nat v x (by rw [hTv]; exact hx)
      refine ⟨y, e, hy, fun e2 => HIR.out v ?_⟩
      show (v : Int) ∈ _
      rw [hTv, ← e2, ← e]
      exact hx
    obtain ⟨c1, c2, _, _, hRR⟩ := HC7.out W1 hBar
    obtain ⟨ad, Bx, cx, hA, hadl, hadc, hrow⟩ := hRR v xs hxs
    injection hA with hA
    subst hA
    rw [add_off] at hadc
    have HFA : Hid (∀ X', Bar B 1 W1 X' → X'.cell? ⟨w3.heap.size, 0, none⟩ = some (.slice (some ⟨B, 0, none⟩) N N) ∧ RdZ X' Bx xs) := by
      intro X' hX
      obtain ⟨d1, _, _, _, hR2⟩ := HC7.out X' (hBar.trans hX)
      obtain ⟨ad2, Bx2, cx2, hA2, _, hadc2, hrow2⟩ := hR2 v xs hxs
      injection hA2 with hA2
      subst hA2
      rw [add_off, hX.cell (by exact hadl) (.inr (by show B + 1 ≤ B2; omega)), hadc] at hadc2
      injection hadc2 with hadc2
      injection hadc2 with h1 _ _
      rw [h1]
      exact ⟨d1, hrow2⟩
    have hFv : F v = numF A v := hSI.rest v (fun hm => by
      obtain ⟨i, hi⟩ := List.getElem?_of_mem hm
      rw [List.getElem?_drop] at hi
      have h1 := idx_at HP.out.nod hi
      have h2 := idx_at HP.out.nod hv
      omega)
    have HSJ0 := Lib.hid (SJ.start xs A U v hFv)
    have HSI := Lib.hid hSI
    have HOT := Lib.hid hOT
    have HBA := Lib.hid hBar
    have HV := Lib.hid hv
    have HXN := Lib.hid hxn
    have HTV := Lib.hid hTv
    have HB0 := Lib.hid (Bar.refl B 1 W1)
    obtain ⟨xl, hxle⟩ : ∃ xl, xs.length = xl := ⟨_, rfl⟩
    have HXL := Lib.hid hxle
    rw [hxle] at hadc hxl
    have hV0 : (0 : Int) ≤ (v : Int) := by omega
    have hV1 : (v : Int) < (N : Nat) := by omega
    have HVN := Lib.hid hvN
    clear hBar hSI hOT hv hxn hTv hxs hRR hadl hrow hFv hxle
    gi_wp2
    clear c1 c2 hadc
    gi_loopw [30] (fun s30 wr => ∃ (i : Nat) (G : Nat → Nat), i ≤ xl ∧ s30 = .int .i64 i ∧ Hid (Bar B 1 W1 wr) ∧ Hid (SJ xs A U v i F G) ∧ Hid (OwnT wr B (lowL N A U G))) (fun s30 _ => xl - (intOf s30).toNat)
    case atStart => exact ⟨0, F, Nat.zero_le _, rfl, HB0, HSJ0, HOT⟩
    case round =>
      obtain ⟨i, G, hi, rfl, hb, hJ, hO⟩ := hrel
      by_cases h1 : i < xl
      · have t1 : decide ((i : Int) < (xl : Int)) = true := by simp; omega
        obtain ⟨x, hx⟩ : ∃ x, xs[i]? = some x := ⟨_, List.getElem?_eq_getElem (by rw [HXL.out]; exact h1)⟩
        obtain ⟨y, rfl, hyN, hyv⟩ := HXN.out x (List.mem_of_getElem? hx)
        obtain ⟨d1, hrw⟩ := HFA.out wr hb.out
        obtain ⟨ad, rfl, _, e1⟩ := hrw i _ hx
        obtain ⟨n1, u1, g1⟩ := hO.out.at_ (lowL_at A U G hyN)
        obtain ⟨n2, u2, g2⟩ := hO.out.at_ (lowL_at A U G HVN.out)
        have fz : wr.frozen? ⟨B, v * 3 + 2, none⟩ = false := free_of hO.out _
        have hI0 : (0 : Int) ≤ (i : Int) := by omega
        have hI1 : (i : Int) < (xl : Nat) := by omega
        have hY0 : (0 : Int) ≤ (y : Int) := by omega
        have hY1 : (y : Int) < (N : Nat) := by omega
        have HX := Lib.hid hx
        have HYV := Lib.hid hyv
        have HYN := Lib.hid hyN
        have hFIN : Hid (∀ z : Nat, Hid (Bar B 1 W1 (wr.setCell ⟨B, v * 3 + 2, none⟩ (.int .i64 (z : Int))).drew) ∧ Hid (OwnT (wr.setCell ⟨B, v * 3 + 2, none⟩ (.int .i64 (z : Int))).drew B (lowL N A U (putF G v z)))) := fun z => by
          have h0 : Bar B 1 W1 (wr.setCell ⟨B, v * 3 + 2, none⟩ (.int .i64 (z : Int))) := hb.out.setCell (.inr ⟨Nat.le_refl _, by show B < B + 1; omega⟩) _
          refine ⟨⟨h0.os, h0.tape, h0.output, h0.size, h0.same⟩, ?_⟩
          have h := hO.out.set2 (lowL_at A U G HVN.out) (z : Int)
          rw [lowL_put] at h
          exact h
        clear hx hyv hyN
        by_cases q1 : U y = some v
        · have e2 : (upZ U y == (v : Int)) = true := by simp [(upZ_is U y v).2 q1]
          obtain ⟨z, hz⟩ : ∃ z, z = min (G v) (G y) := ⟨_, rfl⟩
          have HJ2 := Lib.hid (hJ.out.low HX.out HYV.out q1 hz)
          have HF := hFIN.out z
          have hmz : min (((G v : Nat) : Int)) ((G y : Nat) : Int) = (z : Int) := by rw [hz]; omega
          have HOT2 : Hid (∀ u : Value, (wr.setCell ⟨B, v * 3 + 2, none⟩ u).cell? ⟨B, y * 3 + 2, none⟩ = wr.cell? ⟨B, y * 3 + 2, none⟩) := fun u => World.cell?_setCell_other _ _ _ _ (fun e => by
            have h9 : v * 3 + 2 = y * 3 + 2 := by injection e
            have := HYV.out
            omega)
          have HNE : Hid (B ≠ w3.heap.size) := by show _ ≠ _; omega
          clear hz q1 hJ hFIN
          generalize upZ U y = uy at *
          generalize numF A y = ny at *
          generalize numF A v = nv at *
          generalize upZ U v = uv at *
          generalize G y = gy at *
          generalize G v = gv at *
          clear hN2 hAl hBl h4s h5s hB2l h6s h7s hB7l hsz
          gi_wp2
          refine round_region_held (S := fun X' => X'.cell? ⟨w3.heap.size, 0, none⟩ = some (.slice (some ⟨B, 0, none⟩) N N) ∧ X'.cell? ⟨B, y * 3 + 2, none⟩ = some (.int .i64 gy)) (by kernel_rfl) (by kernel_rfl) (fun hh => by obtain ⟨a9, w9, h9⟩ := hh; rcases h9 with ⟨h9, -⟩; cases h9) ⟨d1, g1⟩ (fun hS => ?_)
          refine wpAnyH_take (i := 0) (v := ?_) rfl (by kernel_rfl) (by kernel_rfl) (by kernel_rfl) (fun _ _ _ h => h) (Or.inl ⟨by rfl, ?_⟩) hS ?_
          rotate_left
          · intro wz hSw; (try dsimp only at hSw); obtain ⟨s1, s2⟩ := hSw; go_simp; (try with_reducible rfl)
          try simp only [List.getElem_toArray, List.getElem_cons_zero, List.getElem_cons_succ, Act.put, List.setIfInBounds_toArray, List.set_cons_zero, List.set_cons_succ]
          refine wpAnyH_take (i := 1) (v := ?_) rfl (by kernel_rfl) (by kernel_rfl) (by kernel_rfl) (fun _ _ _ h => h) (Or.inl ⟨by rfl, ?_⟩) hS ?_
          rotate_left
          · intro wz hSw; (try dsimp only at hSw); obtain ⟨s1, s2⟩ := hSw; go_simp; (try with_reducible rfl)
          try simp only [List.getElem_toArray, List.getElem_cons_zero, List.getElem_cons_succ, Act.put, List.setIfInBounds_toArray, List.set_cons_zero, List.set_cons_succ]
          refine wpAnyH_take (i := 2) (v := ?_) rfl (by kernel_rfl) (by kernel_rfl) (by kernel_rfl) (fun _ _ _ h => h) (Or.inl ⟨by rfl, ?_⟩) hS ?_
          rotate_left
          · intro wz hSw; (try dsimp only at hSw); obtain ⟨s1, s2⟩ := hSw; go_simp; (try with_reducible rfl)
          try simp only [List.getElem_toArray, List.getElem_cons_zero, List.getElem_cons_succ, Act.put, List.setIfInBounds_toArray, List.set_cons_zero, List.set_cons_succ]
          refine wpAnyH_take (i := 3) (v := ?_) rfl (by kernel_rfl) (by kernel_rfl) (by kernel_rfl) (fun _ _ _ h => h) (Or.inl ⟨by rfl, ?_⟩) hS ?_
          rotate_left
          · intro wz hSw; (try dsimp only at hSw); obtain ⟨s1, s2⟩ := hSw; go_simp; (try with_reducible rfl)
          try simp only [List.getElem_toArray, List.getElem_cons_zero, List.getElem_cons_succ, Act.put, List.setIfInBounds_toArray, List.set_cons_zero, List.set_cons_succ]
          refine wpAnyH_take (i := 4) (v := ?_) rfl (by kernel_rfl) (by kernel_rfl) (by kernel_rfl) (fun _ _ _ h => h) (Or.inl ⟨by rfl, ?_⟩) hS ?_
          rotate_left
          · intro wz hSw; (try dsimp only at hSw); obtain ⟨s1, s2⟩ := hSw; go_simp; (try with_reducible rfl)
          try simp only [List.getElem_toArray, List.getElem_cons_zero, List.getElem_cons_succ, Act.put, List.setIfInBounds_toArray, List.set_cons_zero, List.set_cons_succ]
          refine wpAnyH_take (i := 5) (v := ?_) rfl (by kernel_rfl) (by kernel_rfl) (by kernel_rfl) (fun _ _ _ h => h) (Or.inl ⟨by rfl, ?_⟩) hS ?_
          rotate_left
          · intro wz hSw; (try dsimp only at hSw); obtain ⟨s1, s2⟩ := hSw; go_simp; (try with_reducible rfl)
          try simp only [List.getElem_toArray, List.getElem_cons_zero, List.getElem_cons_succ, Act.put, List.setIfInBounds_toArray, List.set_cons_zero, List.set_cons_succ]
          refine wpAnyH_take (i := 7) (v := ?_) rfl (by kernel_rfl) (by kernel_rfl) (by kernel_rfl) (fun _ _ _ h => h) (Or.inl ⟨by rfl, ?_⟩) hS ?_
          rotate_left
          · intro wz hSw; (try dsimp only at hSw); obtain ⟨s1, s2⟩ := hSw; go_simp; (try with_reducible rfl)
          try simp only [List.getElem_toArray, List.getElem_cons_zero, List.getElem_cons_succ, Act.put, List.setIfInBounds_toArray, List.set_cons_zero, List.set_cons_succ]
          refine wpAnyH_take (i := 8) (v := ?_) rfl (by kernel_rfl) (by kernel_rfl) (by kernel_rfl) (fun _ _ _ h => h) (Or.inl ⟨by rfl, ?_⟩) hS ?_
          rotate_left
          · intro wz hSw; (try dsimp only at hSw); obtain ⟨s1, s2⟩ := hSw; go_simp; (try with_reducible rfl)
          try simp only [List.getElem_toArray, List.getElem_cons_zero, List.getElem_cons_succ, Act.put, List.setIfInBounds_toArray, List.set_cons_zero, List.set_cons_succ]
          refine wpAnyH_take (i := 9) (v := ?_) rfl (by kernel_rfl) (by kernel_rfl) (by kernel_rfl) (fun _ _ _ h => h) (Or.inl ⟨by rfl, ?_⟩) hS ?_
          rotate_left
          · intro wz hSw; (try dsimp only at hSw); obtain ⟨s1, s2⟩ := hSw; go_simp; (try with_reducible rfl)
          try simp only [List.getElem_toArray, List.getElem_cons_zero, List.getElem_cons_succ, Act.put, List.setIfInBounds_toArray, List.set_cons_zero, List.set_cons_succ]
          refine wpAnyH_take (i := 10) (v := ?_) rfl (by kernel_rfl) (by kernel_rfl) (by kernel_rfl) (fun _ _ _ h => h) (Or.inl ⟨by rfl, ?_⟩) hS ?_
          rotate_left
          · intro wz hSw; (try dsimp only at hSw); obtain ⟨s1, s2⟩ := hSw; go_simp; (try with_reducible rfl)
          try simp only [List.getElem_toArray, List.getElem_cons_zero, List.getElem_cons_succ, Act.put, List.setIfInBounds_toArray, List.set_cons_zero, List.set_cons_succ]
          refine wpAnyH_take (i := 11) (v := ?_) rfl (by kernel_rfl) (by kernel_rfl) (by kernel_rfl) (fun _ _ _ h => h) (Or.inl ⟨by rfl, ?_⟩) hS ?_
          rotate_left
          · intro wz hSw; (try dsimp only at hSw); obtain ⟨s1, s2⟩ := hSw; go_simp; (try with_reducible rfl)
          try simp only [List.getElem_toArray, List.getElem_cons_zero, List.getElem_cons_succ, Act.put, List.setIfInBounds_toArray, List.set_cons_zero, List.set_cons_succ]
          refine wpAnyH_ready (rs := [6]) (by kernel_rfl) (by simp) (AllReadyH.cons rfl (fun K hK => ?_) AllReadyH.nil)
          go_simp
          refine hK.out _ _ hS (fun _ => ?_)
          clear hK K
          try simp only [List.getElem_toArray, List.getElem_cons_zero, List.getElem_cons_succ, Act.put, List.setIfInBounds_toArray, List.set_cons_zero, List.set_cons_succ]
          refine wpAnyH_take (i := 12) (v := ?_) rfl (by kernel_rfl) (by kernel_rfl) (by kernel_rfl) (fun _ _ _ h => h) (Or.inl ⟨by rfl, ?_⟩) hS ?_
          rotate_left
          · intro wz hSw; (try dsimp only at hSw); obtain ⟨s1, s2⟩ := hSw; go_simp; (try with_reducible rfl)
          try simp only [List.getElem_toArray, List.getElem_cons_zero, List.getElem_cons_succ, Act.put, List.setIfInBounds_toArray, List.set_cons_zero, List.set_cons_succ]
          refine wpAnyH_take (i := 13) (v := ?_) rfl (by kernel_rfl) (by kernel_rfl) (by kernel_rfl) (fun _ _ _ h => h) (Or.inl ⟨by rfl, ?_⟩) hS ?_
          rotate_left
          · intro wz hSw; (try dsimp only at hSw); obtain ⟨s1, s2⟩ := hSw; go_simp; (try with_reducible rfl)
          try simp only [List.getElem_toArray, List.getElem_cons_zero, List.getElem_cons_succ, Act.put, List.setIfInBounds_toArray, List.set_cons_zero, List.set_cons_succ]
          refine wpAnyH_take (i := 14) (v := ?_) rfl (by kernel_rfl) (by kernel_rfl) (by kernel_rfl) (fun _ _ _ h => h) (Or.inl ⟨by rfl, ?_⟩) hS ?_
          rotate_left
          · intro wz hSw; (try dsimp only at hSw); obtain ⟨s1, s2⟩ := hSw; go_simp; (try with_reducible rfl)
          try simp only [List.getElem_toArray, List.getElem_cons_zero, List.getElem_cons_succ, Act.put, List.setIfInBounds_toArray, List.set_cons_zero, List.set_cons_succ]
          refine wpAnyH_ready (rs := [15]) (by kernel_rfl) (by simp) (AllReadyH.cons rfl (fun K hK => ?_) AllReadyH.nil)
          go_simp
          refine hK.out _ _ ?hs (fun _ => ?_)
          case hs =>
            refine ⟨?_, ?_⟩
            · exact (World.cell?_setCell_far wr ⟨B, v * 3 + 2, none⟩ ⟨w3.heap.size, 0, none⟩ _ HNE.out).trans d1
            · exact (HOT2.out _).trans g1
          clear hK K
          refine wpAnyH_done (by kernel_rfl) ?_ _
          clear d1 u1 n1 g1 u2 n2 g2 fz e1
          gi_wp2
          go_roundw
          case rel => exact ⟨i + 1, _, by omega, by go_num, HF.1, HJ2, HF.2⟩
          case measure => simp [intOf]; omega
        · have e2 : (upZ U y == (v : Int)) = false := by simp [upZ_is U y v, q1]
          by_cases q2 : U v = some y
          · have e3 : (upZ U v != (y : Int)) = false := by simp [(upZ_is U v y).2 q2]
            have HJ2 := Lib.hid (hJ.out.skip HX.out q1 q2)
            clear q1 q2 hJ hFIN
            generalize upZ U y = uy at *
            generalize upZ U v = uv at *
            gi_wp2
            go_roundw
            case rel => exact ⟨i + 1, _, by omega, by go_num, hb, HJ2, hO⟩
            case measure => simp [intOf]; omega
          have e3 : (upZ U v != (y : Int)) = true := by simp [upZ_is U v y, q2]
          obtain ⟨z, hz⟩ : ∃ z, z = min (G v) (numF A y) := ⟨_, rfl⟩
          have HJ2 := Lib.hid (hJ.out.num HX.out q1 q2 hz)
          have HF := hFIN.out z
          have hmz : min (((G v : Nat) : Int)) ((numF A y : Nat) : Int) = (z : Int) := by rw [hz]; omega
          have HOT2 : Hid (∀ u : Value, (wr.setCell ⟨B, v * 3 + 2, none⟩ u).cell? ⟨B, y * 3, none⟩ = wr.cell? ⟨B, y * 3, none⟩) := fun u => World.cell?_setCell_other _ _ _ _ (fun e => by
            have h9 : v * 3 + 2 = y * 3 := by injection e
            have := HYV.out
            omega)
          have HNE : Hid (B ≠ w3.heap.size) := by show _ ≠ _; omega
          clear hz q1 q2 hJ hFIN
          generalize upZ U y = uy at *
          generalize numF A y = ny at *
          generalize numF A v = nv at *
          generalize upZ U v = uv at *
          generalize G y = gy at *
          generalize G v = gv at *
          clear hN2 hAl hBl h4s h5s hB2l h6s h7s hB7l hsz
          gi_wp2
          refine round_region_held (S := fun X' => X'.cell? ⟨w3.heap.size, 0, none⟩ = some (.slice (some ⟨B, 0, none⟩) N N) ∧ X'.cell? ⟨B, y * 3, none⟩ = some (.int .i64 ny)) (by kernel_rfl) (by kernel_rfl) (fun hh => by obtain ⟨a9, w9, h9⟩ := hh; rcases h9 with ⟨h9, -⟩; cases h9) ⟨d1, n1⟩ (fun hS => ?_)
          refine wpAnyH_take (i := 0) (v := ?_) rfl (by kernel_rfl) (by kernel_rfl) (by kernel_rfl) (fun _ _ _ h => h) (Or.inl ⟨by rfl, ?_⟩) hS ?_
          rotate_left
          · intro wz hSw; (try dsimp only at hSw); obtain ⟨s1, s2⟩ := hSw; go_simp; (try with_reducible rfl)
          try simp only [List.getElem_toArray, List.getElem_cons_zero, List.getElem_cons_succ, Act.put, List.setIfInBounds_toArray, List.set_cons_zero, List.set_cons_succ]
          refine wpAnyH_take (i := 1) (v := ?_) rfl (by kernel_rfl) (by kernel_rfl) (by kernel_rfl) (fun _ _ _ h => h) (Or.inl ⟨by rfl, ?_⟩) hS ?_
          rotate_left
          · intro wz hSw; (try dsimp only at hSw); obtain ⟨s1, s2⟩ := hSw; go_simp; (try with_reducible rfl)
          try simp only [List.getElem_toArray, List.getElem_cons_zero, List.getElem_cons_succ, Act.put, List.setIfInBounds_toArray, List.set_cons_zero, List.set_cons_succ]
          refine wpAnyH_take (i := 2) (v := ?_) rfl (by kernel_rfl) (by kernel_rfl) (by kernel_rfl) (fun _ _ _ h => h) (Or.inl ⟨by rfl, ?_⟩) hS ?_
          rotate_left
          · intro wz hSw; (try dsimp only at hSw); obtain ⟨s1, s2⟩ := hSw; go_simp; (try with_reducible rfl)
          try simp only [List.getElem_toArray, List.getElem_cons_zero, List.getElem_cons_succ, Act.put, List.setIfInBounds_toArray, List.set_cons_zero, List.set_cons_succ]
          refine wpAnyH_take (i := 3) (v := ?_) rfl (by kernel_rfl) (by kernel_rfl) (by kernel_rfl) (fun _ _ _ h => h) (Or.inl ⟨by rfl, ?_⟩) hS ?_
          rotate_left
          · intro wz hSw; (try dsimp only at hSw); obtain ⟨s1, s2⟩ := hSw; go_simp; (try with_reducible rfl)
          try simp only [List.getElem_toArray, List.getElem_cons_zero, List.getElem_cons_succ, Act.put, List.setIfInBounds_toArray, List.set_cons_zero, List.set_cons_succ]
          refine wpAnyH_take (i := 4) (v := ?_) rfl (by kernel_rfl) (by kernel_rfl) (by kernel_rfl) (fun _ _ _ h => h) (Or.inl ⟨by rfl, ?_⟩) hS ?_
          rotate_left
          · intro wz hSw; (try dsimp only at hSw); obtain ⟨s1, s2⟩ := hSw; go_simp; (try with_reducible rfl)
          try simp only [List.getElem_toArray, List.getElem_cons_zero, List.getElem_cons_succ, Act.put, List.setIfInBounds_toArray, List.set_cons_zero, List.set_cons_succ]
          refine wpAnyH_take (i := 5) (v := ?_) rfl (by kernel_rfl) (by kernel_rfl) (by kernel_rfl) (fun _ _ _ h => h) (Or.inl ⟨by rfl, ?_⟩) hS ?_
          rotate_left
          · intro wz hSw; (try dsimp only at hSw); obtain ⟨s1, s2⟩ := hSw; go_simp; (try with_reducible rfl)
          try simp only [List.getElem_toArray, List.getElem_cons_zero, List.getElem_cons_succ, Act.put, List.setIfInBounds_toArray, List.set_cons_zero, List.set_cons_succ]
          refine wpAnyH_take (i := 7) (v := ?_) rfl (by kernel_rfl) (by kernel_rfl) (by kernel_rfl) (fun _ _ _ h => h) (Or.inl ⟨by rfl, ?_⟩) hS ?_
          rotate_left
          · intro wz hSw; (try dsimp only at hSw); obtain ⟨s1, s2⟩ := hSw; go_simp; (try with_reducible rfl)
          try simp only [List.getElem_toArray, List.getElem_cons_zero, List.getElem_cons_succ, Act.put, List.setIfInBounds_toArray, List.set_cons_zero, List.set_cons_succ]
          refine wpAnyH_take (i := 8) (v := ?_) rfl (by kernel_rfl) (by kernel_rfl) (by kernel_rfl) (fun _ _ _ h => h) (Or.inl ⟨by rfl, ?_⟩) hS ?_
          rotate_left
          · intro wz hSw; (try dsimp only at hSw); obtain ⟨s1, s2⟩ := hSw; go_simp; (try with_reducible rfl)
          try simp only [List.getElem_toArray, List.getElem_cons_zero, List.getElem_cons_succ, Act.put, List.setIfInBounds_toArray, List.set_cons_zero, List.set_cons_succ]
          refine wpAnyH_take (i := 9) (v := ?_) rfl (by kernel_rfl) (by kernel_rfl) (by kernel_rfl) (fun _ _ _ h => h) (Or.inl ⟨by rfl, ?_⟩) hS ?_
          rotate_left
          · intro wz hSw; (try dsimp only at hSw); obtain ⟨s1, s2⟩ := hSw; go_simp; (try with_reducible rfl)
          try simp only [List.getElem_toArray, List.getElem_cons_zero, List.getElem_cons_succ, Act.put, List.setIfInBounds_toArray, List.set_cons_zero, List.set_cons_succ]
          refine wpAnyH_take (i := 10) (v := ?_) rfl (by kernel_rfl) (by kernel_rfl) (by kernel_rfl) (fun _ _ _ h => h) (Or.inl ⟨by rfl, ?_⟩) hS ?_
          rotate_left
          · intro wz hSw; (try dsimp only at hSw); obtain ⟨s1, s2⟩ := hSw; go_simp; (try with_reducible rfl)
          try simp only [List.getElem_toArray, List.getElem_cons_zero, List.getElem_cons_succ, Act.put, List.setIfInBounds_toArray, List.set_cons_zero, List.set_cons_succ]
          refine wpAnyH_take (i := 11) (v := ?_) rfl (by kernel_rfl) (by kernel_rfl) (by kernel_rfl) (fun _ _ _ h => h) (Or.inl ⟨by rfl, ?_⟩) hS ?_
          rotate_left
          · intro wz hSw; (try dsimp only at hSw); obtain ⟨s1, s2⟩ := hSw; go_simp; (try with_reducible rfl)
          try simp only [List.getElem_toArray, List.getElem_cons_zero, List.getElem_cons_succ, Act.put, List.setIfInBounds_toArray, List.set_cons_zero, List.set_cons_succ]
          refine wpAnyH_ready (rs := [6]) (by kernel_rfl) (by simp) (AllReadyH.cons rfl (fun K hK => ?_) AllReadyH.nil)
          go_simp
          refine hK.out _ _ hS (fun _ => ?_)
          clear hK K
          try simp only [List.getElem_toArray, List.getElem_cons_zero, List.getElem_cons_succ, Act.put, List.setIfInBounds_toArray, List.set_cons_zero, List.set_cons_succ]
          refine wpAnyH_take (i := 12) (v := ?_) rfl (by kernel_rfl) (by kernel_rfl) (by kernel_rfl) (fun _ _ _ h => h) (Or.inl ⟨by rfl, ?_⟩) hS ?_
          rotate_left
          · intro wz hSw; (try dsimp only at hSw); obtain ⟨s1, s2⟩ := hSw; go_simp; (try with_reducible rfl)
          try simp only [List.getElem_toArray, List.getElem_cons_zero, List.getElem_cons_succ, Act.put, List.setIfInBounds_toArray, List.set_cons_zero, List.set_cons_succ]
          refine wpAnyH_take (i := 13) (v := ?_) rfl (by kernel_rfl) (by kernel_rfl) (by kernel_rfl) (fun _ _ _ h => h) (Or.inl ⟨by rfl, ?_⟩) hS ?_
          rotate_left
          · intro wz hSw; (try dsimp only at hSw); obtain ⟨s1, s2⟩ := hSw; go_simp; (try with_reducible rfl)
          try simp only [List.getElem_toArray, List.getElem_cons_zero, List.getElem_cons_succ, Act.put, List.setIfInBounds_toArray, List.set_cons_zero, List.set_cons_succ]
          refine wpAnyH_take (i := 14) (v := ?_) rfl (by kernel_rfl) (by kernel_rfl) (by kernel_rfl) (fun _ _ _ h => h) (Or.inl ⟨by rfl, ?_⟩) hS ?_
          rotate_left
          · intro wz hSw; (try dsimp only at hSw); obtain ⟨s1, s2⟩ := hSw; go_simp; (try with_reducible rfl)
          try simp only [List.getElem_toArray, List.getElem_cons_zero, List.getElem_cons_succ, Act.put, List.setIfInBounds_toArray, List.set_cons_zero, List.set_cons_succ]
          refine wpAnyH_ready (rs := [15]) (by kernel_rfl) (by simp) (AllReadyH.cons rfl (fun K hK => ?_) AllReadyH.nil)
          go_simp
          refine hK.out _ _ ?hs (fun _ => ?_)
          case hs =>
            refine ⟨?_, ?_⟩
            · exact (World.cell?_setCell_far wr ⟨B, v * 3 + 2, none⟩ ⟨w3.heap.size, 0, none⟩ _ HNE.out).trans d1
            · exact (HOT2.out _).trans n1
          clear hK K
          refine wpAnyH_done (by kernel_rfl) ?_ _
          clear d1 u1 n1 g1 u2 n2 g2 fz e1
          gi_wp2
          go_roundw
          case rel => exact ⟨i + 1, _, by omega, by go_num, HF.1, HJ2, HF.2⟩
          case measure => simp [intOf]; omega
      · obtain rfl : xl = i := by omega
        have t1 : decide ((xl : Int) < (xl : Int)) = false := by simp
        gi_wp2
        exact ⟨⟨HBA.out.trans hb.out, G, HSI.out.next HNR.out.toNI HIR.out HV.out (by rw [HTV.out, HXL.out]; exact hJ.out), hO.out⟩, hb.out.size, fun k h3 h4 => hb.out.same k (by omega) (.inr (by omega))⟩
  case done =>
    intro W hI hK
    dsimp only
    obtain ⟨d1, _⟩ := HC7.out W hI.1
    go_wp2_with fail
    refine ⟨by simp, .inl ⟨_, _, rfl, run_takeDeferred hK, ?_⟩⟩
    obtain ⟨hb2, F, hS, hO⟩ := hI.bar hB7l (Bar.put W (.deferred none) (Nat.le_refl _) (by omega))
    exact ⟨_, results_tmp2 rfl _ _ _, B, A, U, F, rfl, hO, HNR.out, fun v => hS.all HT.out HSY.out HNR.out.toNI v, HBW.out, (HB.out.trans (HB7.out.mono (Nat.le_of_lt HXS.out))).trans (hb2.below HBW.out (by have := HXS.out; have := HB7.out.size; omega))⟩
end Go.Proofs.Ytlkddjpjhchjfaa
