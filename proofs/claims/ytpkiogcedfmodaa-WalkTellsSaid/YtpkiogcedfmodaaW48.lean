/- How far, by the reference (fretworkref04.Away). -/
import Derived.Test.YtpkiogcedfmodaaW47
import Derived.BigQuiet
namespace Go.Proofs.Ytpkiogcedfmodaa
open Go.RowKit

/-- Within one round over all edges. -/
structure Pass (N fr : Nat) (ds out0 : List Int) (E : List (Int × Int)) (i : Nat) (ch : Bool) (out : List Int) : Prop where
  bf : BF N fr ds out
  no : ch = false → out = out0 ∧ ∀ (j : Nat) (e : Int × Int), j < i → E[j]? = some e → calm out e.1.toNat e.2.toNat ∧ calm out e.2.toNat e.1.toNat
  yes : ch = true → wsum N out < wsum N out0
theorem Pass.start {N fr : Nat} {ds out0 : List Int} {E : List (Int × Int)} (h : BF N fr ds out0) : Pass N fr ds out0 E 0 false out0 := ⟨h, fun _ => ⟨rfl, fun j e hj => absurd hj (by omega)⟩, fun h => by cases h⟩
theorem Pass.put {N fr i a b : Nat} {ds out0 out : List Int} {E : List (Int × Int)} {ch : Bool} (h : Pass N fr ds out0 E i ch out) (ha : a < N) (hb : b < N) (hD : 0 ≤ gd ds a → 0 ≤ gd ds b ∧ gd ds b ≤ gd ds a + 1) (h1 : 0 ≤ gd out a) (h2 : gd out b < 0 ∨ gd out a + 1 < gd out b) :
    Pass N fr ds out0 E (i + 1) true (out.set b (gd out a + 1)) := by
  obtain ⟨a1, a2, _⟩ := h.bf.step ha hb hD h1 h2
  refine ⟨a1, fun e => (by cases e), fun _ => ?_⟩
  cases ch with
  | true => have := h.yes rfl; omega
  | false => rw [← (h.no rfl).1]; exact a2
theorem Pass.calm_ {N fr i a b : Nat} {ds out0 out : List Int} {E : List (Int × Int)} {ch : Bool} (h : Pass N fr ds out0 E i ch out) (he : E[i]? = some ((a : Int), (b : Int))) (h1 : calm out a b) (h2 : calm out b a) : Pass N fr ds out0 E (i + 1) ch out :=
  ⟨h.bf, fun e => ⟨(h.no e).1, fun j x hj hx => by
    by_cases hji : j = i
    · subst hji
      rw [he] at hx
      injection hx with hx
      rw [← hx]
      exact ⟨by simpa using h1, by simpa using h2⟩
    · exact (h.no e).2 j x (by omega) hx⟩, h.yes⟩
def boN : Value → Nat
  | .bool true => 1
  | _ => 0
set_option maxRecDepth 100000 in
set_option maxHeartbeats 8000000 in
theorem refAway_yes (A : Option Addr) (c n N fr : Nat) (E : List (Int × Int)) (w : World) (hr : RdP w A E) (hn : n = E.length) (hg : rightG (N : Nat) E = true) (hf : fr < N) :
    Calls Try.prog 15 #[.agg #[.int .i64 (N : Nat), .slice A n c], .int .i64 (fr : Nat)] w fun e w' => ∃ (gu cu : Nat), e = .returned (.tuple #[.slice (some ⟨gu, 0, none⟩) N cu, .int .i64 0]) ∧
      OwnI w' w.heap.size (some ⟨gu, 0, none⟩) cu (distOf (tabG N E) N fr) N ∧ (∀ x, x < N → gd (distOf (tabG N E) N fr) x ≤ N) ∧ Below w.heap.size w w' := by
  obtain ⟨i0, hi0, hz0, hz1, hz2⟩ := info_partsI i64info
  obtain ⟨W, hW⟩ : ∃ W, W = w.alloc (.cells #[.int .i64 (N : Nat), .slice A n c] 24) := ⟨_, rfl⟩
  have hb : Below w.heap.size w W := by rw [hW]; exact (Below.refl _ _).alloc (Nat.le_refl _) _
  have hWS : w.heap.size < W.heap.size := by rw [hW]; simp
  obtain ⟨j0, j1, _, _⟩ := cells_two (w := W) (by rw [hW]; exact heap_alloc_new w _)
  have HJ : Hid (∀ w', Below W.heap.size W w' → w'.cell? ⟨w.heap.size, 0, none⟩ = some (.int .i64 (N : Nat)) ∧ w'.cell? ⟨w.heap.size, 1, none⟩ = some (.slice A n c)) := fun w' hb =>
    ⟨by rw [hb.cell (by show w.heap.size < _; omega)]; exact j0, by rw [hb.cell (by show w.heap.size < _; omega)]; exact j1⟩
  have hn6 : n ≤ 594 := by have := rightG_bounds hg; omega
  have hN200 : N ≤ 200 := by have := rightG_bounds hg; omega
  have hF0 : (0 : Int) ≤ (fr : Int) := by omega
  obtain ⟨T, hT⟩ : ∃ T, T = tabG N E := ⟨_, rfl⟩
  obtain ⟨ds, hds⟩ : ∃ ds, distOf (tabG N E) N fr = ds := ⟨_, rfl⟩
  have hDD : Dist T N fr ds := by rw [hT, ← hds]; exact dist_is hg hf
  have HDD := Lib.hid hDD
  have HSTEP : Hid (∀ (k a b : Nat), E[k]? = some ((a : Int), (b : Int)) → (0 ≤ gd ds a → 0 ≤ gd ds b ∧ gd ds b ≤ gd ds a + 1) ∧ (0 ≤ gd ds b → 0 ≤ gd ds a ∧ gd ds a ≤ gd ds b + 1)) := fun k a b he => by
    obtain ⟨b1, b2, b3⟩ := rightG_edge hg he
    simp only [] at b1 b2 b3
    have h1 : hasG E a b = true := by
      unfold hasG
      rw [decide_eq_true_iff, show min (a : Int) (b : Int) = a by omega, show max (a : Int) (b : Int) = b by omega]
      exact List.mem_of_getElem? he
    have h2 : adj T a b := by rw [hT]; exact (hasG_adj hg (by omega) (by omega)).1 h1
    have h3 : adj T b a := by rw [hT] at h2 ⊢; exact tabG_sym hg h2
    exact ⟨fun h => hDD.step a (by omega) h b h2, fun h => hDD.step b (by omega) h a h3⟩
  have HCALM : Hid (∀ out : List Int, (∀ (j : Nat) (e : Int × Int), E[j]? = some e → calm out e.1.toNat e.2.toNat ∧ calm out e.2.toNat e.1.toNat) → ∀ u v, u < N → adj T u v → calm out u v) := fun out h u v hu ha => by
    have hv : v < N := by rw [hT] at ha; exact (tab_is hg).lt ha
    have h1 : hasG E u v = true := by rw [hT] at ha; exact (hasG_adj hg hu hv).2 ha
    unfold hasG at h1
    rw [decide_eq_true_iff] at h1
    obtain ⟨j, hj⟩ := List.getElem?_of_mem h1
    obtain ⟨h2, h3⟩ := h j _ hj
    simp only [] at h2 h3
    by_cases huv : u ≤ v
    · rw [show (min (u : Int) (v : Int)).toNat = u by omega, show (max (u : Int) (v : Int)).toNat = v by omega] at h2
      exact h2
    · rw [show (min (u : Int) (v : Int)).toNat = v by omega, show (max (u : Int) (v : Int)).toNat = u by omega] at h3
      exact h3
  rw [hds]
  have HASK := Lib.hid (asked_any A c n (N : Nat) (fr : Nat) E W (hr.below hb) hn (by omega))
  have hask := askE_ok hg (v := (fr : Int)) ⟨by omega, by omega⟩
  rw [hask] at HASK
  have HR := Lib.hid (hr.below hb)
  have HN := Lib.hid hn
  have HG := Lib.hid hg
  have HB := Lib.hid hb
  have HW := Lib.hid hW
  clear hr hn hg hb hW hT hask j0 j1 hDD hds
  go_enter Try.func15, Try.ntmps15
  go_wp2_with fail
  rw [← HW.out]
  refine HASK.out.mono ?_
  rintro e w1 ⟨rfl, hb1⟩
  have HB1 := Lib.hid hb1
  clear hb1
  have HBW0 := Lib.hid (Below.refl w1.heap.size w1)
  go_wp2_with fail
  go_loopw [7, 8] (fun s7 s8 wr => ∃ (k : Nat) (Bp : Option Addr) (cp : Nat), k ≤ N ∧ s7 = .slice Bp k cp ∧ s8 = .int .i64 k ∧ Hid (OwnI wr w1.heap.size Bp cp (List.replicate k (-1)) k) ∧ Hid (Below w1.heap.size w1 wr)) (fun _ s8 _ => N - (intOf s8).toNat)
  case atStart => exact ⟨0, none, 0, Nat.zero_le _, rfl, rfl, ⟨rfl, .inl ⟨rfl, rfl⟩⟩, HBW0⟩
  case round =>
    obtain ⟨k, Bp, cp, hk, rfl, rfl, hp, hb⟩ := hrel
    have HBW := Lib.hid (next_below HB1.out hb.out)
    obtain ⟨j0, j1⟩ := HJ.out wr HBW.out
    have hs1 := hb.out.size
    by_cases h1 : k < N
    · have t1 : decide ((k : Int) < (N : Int)) = true := by simp; omega
      have HP := Lib.hid (hp.out.alloc (.cells #[.int .i64 (-1)] 3))
      have HC : Hid ((wr.alloc (.cells #[.int .i64 (-1)] 3)).cell? ⟨wr.heap.size, 0, none⟩ = some (.int .i64 (-1))) := by show _ = _; exact World.cell?_alloc_at _ _ _ _ rfl
      go_wp2_with (at_builtin; refine wpList_append_lies _ rfl (.tmp 25) (.tmp 26) 27 rfl w1.heap.size 3 i0 (.int .i64 0) 1 8 Try.underlying27 hi0 hz0 hz1 hz2 rfl (by decide) (.slice Bp k cp) k (zs (List.replicate k (-1))) rfl HP.out ⟨wr.heap.size, 0, none⟩ 1 1 [.int .i64 (-1)] (by simp [Act.eval]) rfl (by intro j u hj; have hj0 : j = 0 := (by have := (List.getElem?_eq_some_iff.1 hj).1; simp at this; omega); subst hj0; rw [← hj, add_off]; exact HC.out) (by simp [Value.oneCell']) (by omega) (by simp [maxLen]; omega) (by omega) (by simp; omega) (wr.heap.size + 1) (by simp) ?_; intro g' cap' w7 hrow7 hgr7 hor7 hlt7)
      go_roundw
      case rel =>
        have hb7 : Below w1.heap.size w1 w7 := (hb.out.alloc hb.out.size _).grown hgr7 (by simp; omega) (fun m e => (hp.out.lt m e).1)
        refine ⟨k + 1, some ⟨g', 0, none⟩, cap', by omega, rfl, by go_num, ?_, Lib.hid hb7⟩
        show OwnI _ _ _ _ _ _
        rw [List.replicate_succ']
        exact OwnI.push hrow7
      case measure => simp [intOf]; omega
    · obtain rfl : k = N := by omega
      have t1 : decide ((k : Int) < (k : Int)) = false := by simp
      obtain ⟨gu, cu, ev⟩ := Joins.ownsRow_form hp.out (by omega)
      have hBp : Bp = some ⟨gu, 0, none⟩ ∧ cp = cu := by injection ev with a b d; exact ⟨a, d⟩
      obtain ⟨rfl, rfl⟩ := hBp
      clear ev
      obtain ⟨wo, rfl⟩ : ∃ wo, wo = wr := ⟨_, rfl⟩
      have hgu := hp.out.lt gu rfl
      have hl0 : fr < (List.replicate k (-1 : Int)).length := by simpa using hf
      have e0 : wo.cell? ⟨gu, fr, none⟩ = some (.int .i64 (gd (List.replicate k (-1)) fr)) := hp.out.at_ (by simp [gd, List.getD, List.getElem?_eq_getElem hl0])
      have e2 : wo.frozen? ⟨gu, fr, none⟩ = false := (row_at hp.out).2.2.2.2 fr
      have hF1 : (fr : Int) < (k : Nat) := by omega
      obtain ⟨W5, hW5⟩ : ∃ W5, W5 = wo.setCell ⟨gu, fr, none⟩ (.int .i64 0) := ⟨_, rfl⟩
      have HUP : Hid (OwnI W5 w1.heap.size (some ⟨gu, 0, none⟩) cp ((List.replicate k (-1)).set fr 0) k) := by show OwnI _ _ _ _ _ _; rw [hW5]; exact hp.out.set_
      have HB5 : Hid (Below w1.heap.size w1 W5) := by show Below _ _ _; rw [hW5]; exact hb.out.setCell (by show w1.heap.size ≤ gu; omega) _
      have HW5 := Lib.hid hW5
      have HBF := Lib.hid (BF.start hf HDD.out.zero)
      generalize gd (List.replicate k (-1)) fr = g9 at *
      clear hW5 hp
      go_wp2_with fail
      rw [← HW5.out]
      go_wp2_with fail
      clear e0 e2
      go_loopw [9] (fun s9 wr => ∃ (ch : Bool) (out : List Int), s9 = .bool ch ∧ Hid (OwnI wr w1.heap.size (some ⟨gu, 0, none⟩) cp out k) ∧ Hid (BF k fr ds out) ∧ Hid (Below w1.heap.size w1 wr) ∧
          Hid (ch = false → ∀ (j : Nat) (e : Int × Int), E[j]? = some e → calm out e.1.toNat e.2.toNat ∧ calm out e.2.toNat e.1.toNat)) (fun s9 wr => 2 * sumW k wr gu + boN s9)
      case atStart => exact ⟨true, _, rfl, HUP, HBF, HB5, fun h => by cases h⟩
      case round =>
        obtain ⟨ch, out0, rfl, hu0, hF0, hb6, hc0⟩ := hrel
        cases ch with
        | false =>
          have hout : out0 = ds := hF0.out.done HDD.out (HCALM.out out0 (hc0.out rfl))
          go_wp2_with fail
          go_ret2
          rw [hout] at hu0 hF0
          exact ⟨gu, cp, rfl, Go.Joins.ownsRow_le hu0.out (HB.out.trans (HB1.out.mono HB.out.size)).size, fun x hx => (by rcases hF0.out.each x hx with h | h <;> omega), next_below (next_below HB.out HB1.out) hb6.out⟩
        | true =>
          have HS0 := Lib.hid (sumW_eq hu0.out)
          have HP0 : Hid (Pass k fr ds out0 E 0 false out0) := Pass.start hF0.out
          obtain ⟨wx, rfl⟩ : ∃ wx, wx = wr := ⟨_, rfl⟩
          go_wp2_with fail
          go_loopw [9, 10] (fun s9 s10 wr => ∃ (i : Nat) (ch : Bool) (out : List Int), s9 = .bool ch ∧ s10 = .int .i64 i ∧ i ≤ n ∧ Hid (OwnI wr w1.heap.size (some ⟨gu, 0, none⟩) cp out k) ∧ Hid (Pass k fr ds out0 E i ch out) ∧ Hid (Below w1.heap.size w1 wr)) (fun _ s10 _ => n - (intOf s10).toNat)
          case atStart => exact ⟨0, false, out0, rfl, rfl, Nat.zero_le _, hu0, HP0, hb6⟩
          case round =>
            obtain ⟨i, ch, out, rfl, rfl, hi, hu, hP, hb7⟩ := hrel
            obtain ⟨j2, j3⟩ := HJ.out wr (next_below HB1.out hb7.out)
            by_cases h2 : i < n
            · have t2 : decide ((i : Int) < (n : Int)) = true := by simp; omega
              have hI0 : (0 : Int) ≤ (i : Int) := by omega
              have hI1 : (i : Int) < (n : Nat) := by omega
              obtain ⟨e, he⟩ : ∃ e, E[i]? = some e := ⟨_, List.getElem?_eq_getElem (by rw [← HN.out]; exact h2)⟩
              obtain ⟨b1, b2, b3⟩ := rightG_edge HG.out he
              obtain ⟨ad, hA, hal, p0, p1⟩ := (HR.out.below (next_below HB1.out hb7.out)) i e he
              obtain ⟨x, y⟩ := e
              simp only [] at b1 b2 b3 p0 p1
              obtain ⟨a, rfl⟩ := Int.eq_ofNat_of_zero_le b1
              obtain ⟨b, rfl⟩ := Int.eq_ofNat_of_zero_le (show 0 ≤ y by omega)
              have HST := Lib.hid (HSTEP.out i a b he)
              have HE := Lib.hid he
              have hak : a < k := by omega
              have hbk : b < k := by omega
              have hnab : ¬ a = b := by omega
              have ha0 : (0 : Int) ≤ (a : Int) := by omega
              have hb0 : (0 : Int) ≤ (b : Int) := by omega
              have ha1 : (a : Int) < (k : Nat) := by omega
              have hb1 : (b : Int) < (k : Nat) := by omega
              have HQ : Hid (∀ q : Nat, OwnI (wr.drewN q) w1.heap.size (some ⟨gu, 0, none⟩) cp out k ∧ Below w1.heap.size w1 (wr.drewN q)) := fun q => ⟨row_below hu.out (below_drewN (Below.refl _ _) q), below_drewN hb7.out q⟩
              subst hA
              clear he b1 b2 b3
              go_upto_region 16 with fail
              go_quiet (fail)
              obtain ⟨hu4, hb4⟩ := HQ.out nq
              generalize wr.drewN nq = w4 at hu4 hb4 ⊢
              clear j2 j3 p0 p1 HQ hu hb7 hal
              have hl := hP.out.bf.len
              obtain ⟨da, hda⟩ : ∃ da, gd out a = da := ⟨_, rfl⟩
              obtain ⟨db, hdb⟩ : ∃ db, gd out b = db := ⟨_, rfl⟩
              have HDA := Lib.hid hda
              have HDB := Lib.hid hdb
              have ea : w4.cell? ⟨gu, a, none⟩ = some (.int .i64 da) := by rw [← hda]; exact hu4.at_ (by simp [gd, List.getD, List.getElem?_eq_getElem (show a < out.length by omega)])
              have eb : w4.cell? ⟨gu, b, none⟩ = some (.int .i64 db) := by rw [← hdb]; exact hu4.at_ (by simp [gd, List.getD, List.getElem?_eq_getElem (show b < out.length by omega)])
              have hba : -1 ≤ da ∧ da ≤ 1000 := by
                rw [← hda]
                rcases hP.out.bf.each a hak with h | h
                · omega
                · have := h.2.2; omega
              have hbb : -1 ≤ db ∧ db ≤ 1000 := by
                rw [← hdb]
                rcases hP.out.bf.each b hbk with h | h
                · omega
                · have := h.2.2; omega
              obtain ⟨pa, hpa⟩ : ∃ pa, da + 1 = pa := ⟨_, rfl⟩
              obtain ⟨pb, hpb⟩ : ∃ pb, db + 1 = pb := ⟨_, rfl⟩
              have HPA := Lib.hid hpa
              have HPB := Lib.hid hpb
              have hwa : IntKind.i64.wrap (da + 1) = pa := by rw [← hpa]; exact IntWalk.i64_in _ (by omega)
              have hwb : IntKind.i64.wrap (db + 1) = pb := by rw [← hpb]; exact IntWalk.i64_in _ (by omega)
              have HU4 := Lib.hid hu4
              have HB4 := Lib.hid hb4
              have HQ4 : Hid (∀ q : Nat, OwnI (w4.drewN q) w1.heap.size (some ⟨gu, 0, none⟩) cp out k ∧ Below w1.heap.size w1 (w4.drewN q)) := fun q => ⟨row_below hu4 (below_drewN (Below.refl _ _) q), below_drewN hb4 q⟩
              clear hda hdb hu4 hb4 hl
              by_cases c1 : da < 0
              · have g1 : decide (0 ≤ da) = false := by simp; omega
                have g2 : decide (da < 0) = true := by simpa using c1
                go_upto_region 17 with fail
                go_quiet (fail)
                obtain ⟨hu5, hb5⟩ := HQ4.out nq
                generalize w4.drewN nq = w5 at hu5 hb5 ⊢
                clear ea eb
                have ea : w5.cell? ⟨gu, a, none⟩ = some (.int .i64 da) := by have h := hu5.at_ (j := a) (x := da) (by rw [List.getElem?_eq_getElem (show a < out.length by rw [hP.out.bf.len]; exact hak)]; have h := HDA.out; simpa [gd, List.getD, List.getElem?_eq_getElem (show a < out.length by rw [hP.out.bf.len]; exact hak)] using h); exact h
                have eb : w5.cell? ⟨gu, b, none⟩ = some (.int .i64 db) := by have h := hu5.at_ (j := b) (x := db) (by rw [List.getElem?_eq_getElem (show b < out.length by rw [hP.out.bf.len]; exact hbk)]; have h := HDB.out; simpa [gd, List.getD, List.getElem?_eq_getElem (show b < out.length by rw [hP.out.bf.len]; exact hbk)] using h); exact h
                by_cases c2 : db < 0
                · have g3 : decide (0 ≤ db) = false := by simp; omega
                  have HQ5 : Hid (∀ q : Nat, OwnI (w5.drewN q) w1.heap.size (some ⟨gu, 0, none⟩) cp out k ∧ Below w1.heap.size w1 (w5.drewN q)) := fun q => ⟨row_below hu5 (below_drewN (Below.refl _ _) q), below_drewN hb5 q⟩
                  have HPP : Hid (Pass k fr ds out0 E (i + 1) ch out) := hP.out.calm_ HE.out (by unfold calm; rw [HDA.out, HDB.out]; omega) (by unfold calm; rw [HDA.out, HDB.out]; omega)
                  clear hu5 hb5 hpa hpb hba hbb
                  go_upto_region 20 with fail
                  go_quiet (fail)
                  obtain ⟨hu6, hb6y⟩ := HQ5.out nq
                  generalize w5.drewN nq = w6 at hu6 hb6y ⊢
                  have HU6 := Lib.hid hu6
                  have HB6 := Lib.hid hb6y
                  clear hu6 hb6y ea eb
                  go_wp2_with fail
                  go_roundw
                  case rel => exact ⟨i + 1, ch, out, rfl, by go_num, by omega, HU6, HPP, HB6⟩
                  case measure => simp [intOf]; omega
                · have g3 : decide (0 ≤ db) = true := by simp; omega
                  have HQ5 : Hid (∀ q : Nat, OwnI (w5.drewN q) w1.heap.size (some ⟨gu, 0, none⟩) cp out k ∧ Below w1.heap.size w1 (w5.drewN q)) := fun q => ⟨row_below hu5 (below_drewN (Below.refl _ _) q), below_drewN hb5 q⟩
                  have HPP : Hid (Pass k fr ds out0 E (i + 1) true (out.set a pb)) := by
                    have h := hP.out.put hbk hak HST.out.2 (by rw [HDB.out]; omega) (by rw [HDA.out, HDB.out]; omega)
                    rw [HDB.out, HPB.out] at h
                    exact h
                  have HGU : Hid (w1.heap.size ≤ gu) := (hu5.lt gu rfl).1
                  clear hu5 hb5 hpa hpb hba hbb
                  go_upto_region 20 with fail
                  go_quiet (fail)
                  obtain ⟨hu6, hb6y⟩ := HQ5.out nq
                  generalize w5.drewN nq = w6 at hu6 hb6y ⊢
                  clear ea eb
                  have ea : w6.cell? ⟨gu, a, none⟩ = some (.int .i64 da) := by have h := hu6.at_ (j := a) (x := da) (by rw [List.getElem?_eq_getElem (show a < out.length by rw [hP.out.bf.len]; exact hak)]; have h := HDA.out; simpa [gd, List.getD, List.getElem?_eq_getElem (show a < out.length by rw [hP.out.bf.len]; exact hak)] using h); exact h
                  have eb : w6.cell? ⟨gu, b, none⟩ = some (.int .i64 db) := by have h := hu6.at_ (j := b) (x := db) (by rw [List.getElem?_eq_getElem (show b < out.length by rw [hP.out.bf.len]; exact hbk)]; have h := HDB.out; simpa [gd, List.getD, List.getElem?_eq_getElem (show b < out.length by rw [hP.out.bf.len]; exact hbk)] using h); exact h
                  have e2 : w6.frozen? ⟨gu, a, none⟩ = false := (row_at hu6).2.2.2.2 a
                  obtain ⟨Y, hY⟩ : ∃ Y, Y = w6.setCell ⟨gu, a, none⟩ (.int .i64 pb) := ⟨_, rfl⟩
                  have HU7 : Hid (OwnI Y w1.heap.size (some ⟨gu, 0, none⟩) cp (out.set a pb) k) := by show OwnI _ _ _ _ _ _; rw [hY]; exact hu6.set_
                  have HB7 : Hid (Below w1.heap.size w1 Y) := by show Below _ _ _; rw [hY]; exact hb6y.setCell (by have := HGU.out; exact this) _
                  have HY := Lib.hid hY
                  clear hu6 hb6y hY
                  go_wp2_with fail
                  rw [← HY.out]
                  try go_wp2_with fail
                  go_roundw
                  case rel => exact ⟨i + 1, true, out.set a pb, rfl, by go_num, by omega, HU7, HPP, HB7⟩
                  case measure => simp [intOf]; omega
              · have g1 : decide (0 ≤ da) = true := by simp; omega
                have g2 : decide (da < 0) = false := by simp; omega
                by_cases c2 : db < 0
                · have g3 : decide (db < 0) = true := by simpa using c2
                  go_upto_region 17 with fail
                  go_quiet (fail)
                  obtain ⟨hu5, hb5⟩ := HQ4.out nq
                  generalize w4.drewN nq = w5 at hu5 hb5 ⊢
                  clear ea eb
                  have ea : w5.cell? ⟨gu, a, none⟩ = some (.int .i64 da) := by have h := hu5.at_ (j := a) (x := da) (by rw [List.getElem?_eq_getElem (show a < out.length by rw [hP.out.bf.len]; exact hak)]; have h := HDA.out; simpa [gd, List.getD, List.getElem?_eq_getElem (show a < out.length by rw [hP.out.bf.len]; exact hak)] using h); exact h
                  have eb : w5.cell? ⟨gu, b, none⟩ = some (.int .i64 db) := by have h := hu5.at_ (j := b) (x := db) (by rw [List.getElem?_eq_getElem (show b < out.length by rw [hP.out.bf.len]; exact hbk)]; have h := HDB.out; simpa [gd, List.getD, List.getElem?_eq_getElem (show b < out.length by rw [hP.out.bf.len]; exact hbk)] using h); exact h
                  have e2 : w5.frozen? ⟨gu, b, none⟩ = false := (row_at hu5).2.2.2.2 b
                  obtain ⟨Y, hY⟩ : ∃ Y, Y = w5.setCell ⟨gu, b, none⟩ (.int .i64 pa) := ⟨_, rfl⟩
                  have hu6 : OwnI Y w1.heap.size (some ⟨gu, 0, none⟩) cp (out.set b pa) k := by rw [hY]; exact hu5.set_
                  have hb6y : Below w1.heap.size w1 Y := by rw [hY]; exact hb5.setCell (by show w1.heap.size ≤ gu; omega) _
                  have HQY : Hid (∀ q : Nat, OwnI (Y.drewN q) w1.heap.size (some ⟨gu, 0, none⟩) cp (out.set b pa) k ∧ Below w1.heap.size w1 (Y.drewN q)) := fun q => ⟨row_below hu6 (below_drewN (Below.refl _ _) q), below_drewN hb6y q⟩
                  have HY := Lib.hid hY
                  have hlen : b < out.length := by rw [hP.out.bf.len]; exact hbk
                  have hPP : Pass k fr ds out0 E (i + 1) true (out.set b pa) := by
                    have h := hP.out.put hak hbk HST.out.1 (by rw [HDA.out]; omega) (by rw [HDA.out, HDB.out]; omega)
                    rw [HDA.out, HPA.out] at h
                    exact h
                  have HPP := Lib.hid hPP
                  have ya : Y.cell? ⟨gu, a, none⟩ = some (.int .i64 da) := hu6.at_ (by rw [List.getElem?_set_ne (by omega)]; rw [List.getElem?_eq_getElem (show a < out.length by rw [hP.out.bf.len]; exact hak)]; have h := HDA.out; simpa [gd, List.getD, List.getElem?_eq_getElem (show a < out.length by rw [hP.out.bf.len]; exact hak)] using h)
                  have yb : Y.cell? ⟨gu, b, none⟩ = some (.int .i64 pa) := hu6.at_ (by rw [List.getElem?_set_self hlen])
                  obtain ⟨pp, hpp⟩ : ∃ pp, pa + 1 = pp := ⟨_, rfl⟩
                  have hwp : IntKind.i64.wrap (pa + 1) = pp := by rw [← hpp]; exact IntWalk.i64_in _ (by omega)
                  have k1 : decide (0 ≤ pa) = true := by simp; omega
                  have k3 : decide (pp < da) = false := by simp; omega
                  clear hY hu6 hb6y hPP hpp hpa hpb hba hbb hlen
                  go_upto_region 20 with fail
                  rw [← HY.out]
                  clear ea eb e2
                  go_quiet (fail)
                  obtain ⟨huz, hbz⟩ := HQY.out nq
                  generalize Y.drewN nq = wz at huz hbz ⊢
                  have HUZ := Lib.hid huz
                  have HBZ := Lib.hid hbz
                  clear huz hbz ya yb
                  go_wp2_with fail
                  go_roundw
                  case rel => exact ⟨i + 1, true, out.set b pa, rfl, by go_num, by omega, HUZ, HPP, HBZ⟩
                  case measure => simp [intOf]; omega
                · have g3 : decide (db < 0) = false := by simp; omega
                  have g4 : decide (0 ≤ db) = true := by simp; omega
                  by_cases c3 : pa < db
                  · have g5 : decide (pa < db) = true := by simpa using c3
                    go_upto_region 17 with fail
                    go_quiet (fail)
                    obtain ⟨hu5, hb5⟩ := HQ4.out nq
                    generalize w4.drewN nq = w5 at hu5 hb5 ⊢
                    clear ea eb
                    have ea : w5.cell? ⟨gu, a, none⟩ = some (.int .i64 da) := by have h := hu5.at_ (j := a) (x := da) (by rw [List.getElem?_eq_getElem (show a < out.length by rw [hP.out.bf.len]; exact hak)]; have h := HDA.out; simpa [gd, List.getD, List.getElem?_eq_getElem (show a < out.length by rw [hP.out.bf.len]; exact hak)] using h); exact h
                    have eb : w5.cell? ⟨gu, b, none⟩ = some (.int .i64 db) := by have h := hu5.at_ (j := b) (x := db) (by rw [List.getElem?_eq_getElem (show b < out.length by rw [hP.out.bf.len]; exact hbk)]; have h := HDB.out; simpa [gd, List.getD, List.getElem?_eq_getElem (show b < out.length by rw [hP.out.bf.len]; exact hbk)] using h); exact h
                    have e2 : w5.frozen? ⟨gu, b, none⟩ = false := (row_at hu5).2.2.2.2 b
                    obtain ⟨Y, hY⟩ : ∃ Y, Y = w5.setCell ⟨gu, b, none⟩ (.int .i64 pa) := ⟨_, rfl⟩
                    have hu6 : OwnI Y w1.heap.size (some ⟨gu, 0, none⟩) cp (out.set b pa) k := by rw [hY]; exact hu5.set_
                    have hb6y : Below w1.heap.size w1 Y := by rw [hY]; exact hb5.setCell (by show w1.heap.size ≤ gu; omega) _
                    have HQY : Hid (∀ q : Nat, OwnI (Y.drewN q) w1.heap.size (some ⟨gu, 0, none⟩) cp (out.set b pa) k ∧ Below w1.heap.size w1 (Y.drewN q)) := fun q => ⟨row_below hu6 (below_drewN (Below.refl _ _) q), below_drewN hb6y q⟩
                    have HY := Lib.hid hY
                    have hlen : b < out.length := by rw [hP.out.bf.len]; exact hbk
                    have hPP : Pass k fr ds out0 E (i + 1) true (out.set b pa) := by
                      have h := hP.out.put hak hbk HST.out.1 (by rw [HDA.out]; omega) (by rw [HDA.out, HDB.out]; omega)
                      rw [HDA.out, HPA.out] at h
                      exact h
                    have HPP := Lib.hid hPP
                    have ya : Y.cell? ⟨gu, a, none⟩ = some (.int .i64 da) := hu6.at_ (by rw [List.getElem?_set_ne (by omega)]; rw [List.getElem?_eq_getElem (show a < out.length by rw [hP.out.bf.len]; exact hak)]; have h := HDA.out; simpa [gd, List.getD, List.getElem?_eq_getElem (show a < out.length by rw [hP.out.bf.len]; exact hak)] using h)
                    have yb : Y.cell? ⟨gu, b, none⟩ = some (.int .i64 pa) := hu6.at_ (by rw [List.getElem?_set_self hlen])
                    obtain ⟨pp, hpp⟩ : ∃ pp, pa + 1 = pp := ⟨_, rfl⟩
                    have hwp : IntKind.i64.wrap (pa + 1) = pp := by rw [← hpp]; exact IntWalk.i64_in _ (by omega)
                    have k1 : decide (0 ≤ pa) = true := by simp; omega
                    have k3 : decide (pp < da) = false := by simp; omega
                    clear hY hu6 hb6y hPP hpp hpa hpb hba hbb hlen
                    go_upto_region 20 with fail
                    rw [← HY.out]
                    clear ea eb e2
                    go_quiet (fail)
                    obtain ⟨huz, hbz⟩ := HQY.out nq
                    generalize Y.drewN nq = wz at huz hbz ⊢
                    have HUZ := Lib.hid huz
                    have HBZ := Lib.hid hbz
                    clear huz hbz ya yb
                    go_wp2_with fail
                    go_roundw
                    case rel => exact ⟨i + 1, true, out.set b pa, rfl, by go_num, by omega, HUZ, HPP, HBZ⟩
                    case measure => simp [intOf]; omega
                  · have g5 : decide (pa < db) = false := by simpa using c3
                    go_upto_region 17 with fail
                    go_quiet (fail)
                    obtain ⟨hu5, hb5⟩ := HQ4.out nq
                    generalize w4.drewN nq = w5 at hu5 hb5 ⊢
                    clear ea eb
                    have ea : w5.cell? ⟨gu, a, none⟩ = some (.int .i64 da) := by have h := hu5.at_ (j := a) (x := da) (by rw [List.getElem?_eq_getElem (show a < out.length by rw [hP.out.bf.len]; exact hak)]; have h := HDA.out; simpa [gd, List.getD, List.getElem?_eq_getElem (show a < out.length by rw [hP.out.bf.len]; exact hak)] using h); exact h
                    have eb : w5.cell? ⟨gu, b, none⟩ = some (.int .i64 db) := by have h := hu5.at_ (j := b) (x := db) (by rw [List.getElem?_eq_getElem (show b < out.length by rw [hP.out.bf.len]; exact hbk)]; have h := HDB.out; simpa [gd, List.getD, List.getElem?_eq_getElem (show b < out.length by rw [hP.out.bf.len]; exact hbk)] using h); exact h
                    by_cases c4 : pb < da
                    · have g6 : decide (pb < da) = true := by simpa using c4
                      have HQ5 : Hid (∀ q : Nat, OwnI (w5.drewN q) w1.heap.size (some ⟨gu, 0, none⟩) cp out k ∧ Below w1.heap.size w1 (w5.drewN q)) := fun q => ⟨row_below hu5 (below_drewN (Below.refl _ _) q), below_drewN hb5 q⟩
                      have HPP : Hid (Pass k fr ds out0 E (i + 1) true (out.set a pb)) := by
                        have h := hP.out.put hbk hak HST.out.2 (by rw [HDB.out]; omega) (by rw [HDA.out, HDB.out]; omega)
                        rw [HDB.out, HPB.out] at h
                        exact h
                      have HGU : Hid (w1.heap.size ≤ gu) := (hu5.lt gu rfl).1
                      clear hu5 hb5 hpa hpb hba hbb
                      go_upto_region 20 with fail
                      go_quiet (fail)
                      obtain ⟨hu6, hb6y⟩ := HQ5.out nq
                      generalize w5.drewN nq = w6 at hu6 hb6y ⊢
                      clear ea eb
                      have ea : w6.cell? ⟨gu, a, none⟩ = some (.int .i64 da) := by have h := hu6.at_ (j := a) (x := da) (by rw [List.getElem?_eq_getElem (show a < out.length by rw [hP.out.bf.len]; exact hak)]; have h := HDA.out; simpa [gd, List.getD, List.getElem?_eq_getElem (show a < out.length by rw [hP.out.bf.len]; exact hak)] using h); exact h
                      have eb : w6.cell? ⟨gu, b, none⟩ = some (.int .i64 db) := by have h := hu6.at_ (j := b) (x := db) (by rw [List.getElem?_eq_getElem (show b < out.length by rw [hP.out.bf.len]; exact hbk)]; have h := HDB.out; simpa [gd, List.getD, List.getElem?_eq_getElem (show b < out.length by rw [hP.out.bf.len]; exact hbk)] using h); exact h
                      have e2 : w6.frozen? ⟨gu, a, none⟩ = false := (row_at hu6).2.2.2.2 a
                      obtain ⟨Y, hY⟩ : ∃ Y, Y = w6.setCell ⟨gu, a, none⟩ (.int .i64 pb) := ⟨_, rfl⟩
                      have HU7 : Hid (OwnI Y w1.heap.size (some ⟨gu, 0, none⟩) cp (out.set a pb) k) := by show OwnI _ _ _ _ _ _; rw [hY]; exact hu6.set_
                      have HB7 : Hid (Below w1.heap.size w1 Y) := by show Below _ _ _; rw [hY]; exact hb6y.setCell (by have := HGU.out; exact this) _
                      have HY := Lib.hid hY
                      clear hu6 hb6y hY
                      go_wp2_with fail
                      rw [← HY.out]
                      try go_wp2_with fail
                      go_roundw
                      case rel => exact ⟨i + 1, true, out.set a pb, rfl, by go_num, by omega, HU7, HPP, HB7⟩
                      case measure => simp [intOf]; omega
                    · have g6 : decide (pb < da) = false := by simpa using c4
                      have HQ5 : Hid (∀ q : Nat, OwnI (w5.drewN q) w1.heap.size (some ⟨gu, 0, none⟩) cp out k ∧ Below w1.heap.size w1 (w5.drewN q)) := fun q => ⟨row_below hu5 (below_drewN (Below.refl _ _) q), below_drewN hb5 q⟩
                      have HPP : Hid (Pass k fr ds out0 E (i + 1) ch out) := hP.out.calm_ HE.out (by unfold calm; rw [HDA.out, HDB.out]; omega) (by unfold calm; rw [HDA.out, HDB.out]; omega)
                      clear hu5 hb5 hpa hpb hba hbb
                      go_upto_region 20 with fail
                      go_quiet (fail)
                      obtain ⟨hu6, hb6y⟩ := HQ5.out nq
                      generalize w5.drewN nq = w6 at hu6 hb6y ⊢
                      have HU6 := Lib.hid hu6
                      have HB6 := Lib.hid hb6y
                      clear hu6 hb6y ea eb
                      go_wp2_with fail
                      go_roundw
                      case rel => exact ⟨i + 1, ch, out, rfl, by go_num, by omega, HU6, HPP, HB6⟩
                      case measure => simp [intOf]; omega
            · obtain rfl : i = n := by omega
              have t2 : decide ((i : Int) < (i : Int)) = false := by simp
              have HEND := Lib.hid (fun (e : ch = false) => hP.out.no e)
              have hle : ch = true → wsum k out < wsum k out0 := hP.out.yes
              go_wp2_with fail
              go_roundw
              case rel =>
                exact ⟨ch, out, rfl, hu, Lib.hid hP.out.bf, hb7, fun e j x hx => (hP.out.no e).2 j x (by rw [HN.out]; exact (List.getElem?_eq_some_iff.1 hx).1) hx⟩
              case measure =>
                rw [sumW_eq hu.out, HS0.out]
                cases ch with
                | true => have := hle rfl; simp [boN]; omega
                | false => rw [(hP.out.no rfl).1]; simp [boN]
end Go.Proofs.Ytpkiogcedfmodaa
