/- WalkMet. -/
import Derived.Test.YtpkiogcedfmodaaW20
import Derived.Test.YtpkiogcedfmodaaW24
import Derived.Test.YtpkiogcedfmodaaW36
import Derived.Test.YtpkiogcedfmodaaWM
namespace Go.Proofs.Ytpkiogcedfmodaa
open Go.RowKit

theorem one_lit (w : World) (a : Int) : RdZ (w.alloc (.cells #[.int .i64 a] 3)) (some ⟨w.heap.size, 0, none⟩) [a] := lit_rd w [a]
/-- What the map says behind the first ones. -/
def PosM (O : List Nat) (i : Nat) (f : Int → Option Int) : Prop := ∀ x y, f x = some y ↔ ∃ j v : Nat, j < i ∧ O[j]? = some v ∧ x = (v : Int) ∧ y = (j : Int)
theorem pos_zero (O : List Nat) : PosM O 0 fun _ => none := fun x y => ⟨(fun h => by cases h), (fun ⟨j, _, h, _⟩ => by omega)⟩
theorem nodup_at {O : List Nat} (h : O.Nodup) {i j v : Nat} (hi : O[i]? = some v) (hj : O[j]? = some v) : i = j := by
  obtain ⟨h1, h2⟩ := List.getElem?_eq_some_iff.1 hi
  obtain ⟨h3, h4⟩ := List.getElem?_eq_some_iff.1 hj
  exact (List.getElem_inj h).1 (h2.trans h4.symm)
theorem pos_new {O : List Nat} {i v : Nat} {f : Int → Option Int} (h : PosM O i f) (hn : O.Nodup) (hv : O[i]? = some v) : f (v : Int) = none := by
  cases hf : f (v : Int) with
  | none => rfl
  | some y =>
    exfalso
    obtain ⟨j, u, h1, h2, h3, _⟩ := (h _ _).1 hf
    have : v = u := by omega
    subst this
    have := nodup_at hn hv h2
    omega
theorem pos_step {O : List Nat} {i v : Nat} {f : Int → Option Int} (h : PosM O i f) (hn : O.Nodup) (hv : O[i]? = some v) : PosM O (i + 1) (upd f (v : Int) (i : Int)) := by
  intro x y
  by_cases e : x = (v : Int)
  · subst e
    rw [upd_same]
    constructor
    · intro h1
      injection h1 with h1
      exact ⟨i, v, by omega, hv, rfl, h1.symm⟩
    · rintro ⟨j, u, h1, h2, h3, h4⟩
      have : v = u := by omega
      subst this
      rw [h4, nodup_at hn hv h2]
  · rw [upd_other e, h x y]
    constructor
    · rintro ⟨j, u, h1, h2⟩
      exact ⟨j, u, by omega, h2⟩
    · rintro ⟨j, u, h1, h2, h3, h4⟩
      refine ⟨j, u, ?_, h2, h3, h4⟩
      rcases Nat.lt_or_eq_of_le (Nat.le_of_lt_succ h1) with h5 | h5
      · exact h5
      · subst h5
        rw [hv] at h2
        injection h2 with h2
        subst h2
        exact absurd h3 e
theorem pos_at {O : List Nat} {i j u : Nat} {f : Int → Option Int} (h : PosM O i f) (hj : j < i) (hu : O[j]? = some u) : f (u : Int) = some (j : Int) := (h _ _).2 ⟨j, u, hj, hu, rfl, rfl⟩
theorem pos_mem {O : List Nat} {i u : Nat} {f : Int → Option Int} (h : PosM O i f) (hu : u ∈ O.take i) : ∃ j : Nat, j < i ∧ f (u : Int) = some (j : Int) ∧ O[j]? = some u := by
  obtain ⟨j, hj⟩ := List.getElem?_of_mem hu
  have hjl := (List.getElem?_eq_some_iff.1 hj).1
  rw [List.length_take] at hjl
  rw [List.getElem?_take_of_lt (by omega)] at hj
  exact ⟨j, by omega, pos_at h (by omega) hj, hj⟩
theorem pos_non {O : List Nat} {i u : Nat} {f : Int → Option Int} (h : PosM O i f) (hu : u ∉ O) : f (u : Int) = none := by
  cases hf : f (u : Int) with
  | none => rfl
  | some y =>
    exfalso
    obtain ⟨j, v, _, h2, h3, _⟩ := (h _ _).1 hf
    have : u = v := by omega
    subst this
    exact hu (List.mem_of_getElem? h2)
set_option maxRecDepth 100000 in
set_option maxHeartbeats 4000000 in
theorem met_no (A : Option Addr) (c : Nat) (N a : Int) (E : List (Int × Int)) (w : World) (hr : RdP w A E) (ht : thereB N E [a] = false) :
    Calls Try.prog 4 #[.agg #[.int .i64 N, .slice A E.length c], .int .i64 a] w fun e w' => e = .returned (.bool true) ∧ Below w.heap.size w w' := by
  obtain ⟨W, hW⟩ : ∃ W, W = w.alloc (.cells #[.int .i64 N, .slice A E.length c] 24) := ⟨_, rfl⟩
  have hb : Below w.heap.size w W := by rw [hW]; exact (Below.refl _ _).alloc (Nat.le_refl _) _
  have hWS : w.heap.size < W.heap.size := by rw [hW]; simp
  have hWz : W.heap.size = w.heap.size + 1 := by rw [hW]; simp
  obtain ⟨i0, i1, _, _⟩ := cells_two (w := W) (by rw [hW]; exact heap_alloc_new w _)
  have HR := Lib.hid (hr.below hb)
  have HB := Lib.hid hb
  have HT := Lib.hid ht
  have HW := Lib.hid hW
  clear hr hb hW ht
  go_enter Try.func4, Try.ntmps4
  go_wp2_with fail
  rw [← HW.out]
  have HLT := Lib.hid (one_lit W a)
  rw [hWz] at HLT
  clear hWz
  have HBA := Lib.hid ((Below.refl W.heap.size W).alloc (Nat.le_refl _) (.cells #[.int .i64 a] 3))
  refine (there_any A (some ⟨w.heap.size + 1, 0, none⟩) c 1 E.length 1 N E [a] _ (HR.out.below HBA.out) rfl (HLT.out) rfl (by omega)).mono ?_
  rintro e w1 ⟨rfl, hb1⟩
  rw [HT.out]
  have HB1 := Lib.hid (HB.out.trans ((next_below HBA.out hb1).mono (Nat.le_of_lt hWS)))
  clear hb1 i0 i1
  go_wp2_with fail
  refine (awake_any w1).mono ?_
  rintro e w2 ⟨rfl, hb2⟩
  go_wp2_with fail
  go_ret
  exact ⟨rfl, next_below HB1.out hb2⟩

set_option maxRecDepth 100000 in
set_option maxHeartbeats 8000000 in
theorem met_yes (A : Option Addr) (c N v : Nat) (E : List (Int × Int)) (w : World) (hr : RdP w A E) (hg : rightG (N : Nat) E = true) (hN : N ≤ 60) (hv : v < N) (ht : thereB (N : Nat) E [(v : Int)] = true) :
    Calls Try.prog 4 #[.agg #[.int .i64 (N : Nat), .slice A E.length c], .int .i64 (v : Nat)] w fun e w' => e = .returned (.bool true) ∧ Below w.heap.size w w' := by
  obtain ⟨W, hW⟩ : ∃ W, W = w.alloc (.cells #[.int .i64 (N : Nat), .slice A E.length c] 24) := ⟨_, rfl⟩
  have hbw : Below w.heap.size w W := by rw [hW]; exact (Below.refl _ _).alloc (Nat.le_refl _) _
  have hWS : w.heap.size < W.heap.size := by rw [hW]; simp
  have hWz : W.heap.size = w.heap.size + 1 := by rw [hW]; simp
  obtain ⟨i0, i1, _, _⟩ := cells_two (w := W) (by rw [hW]; exact heap_alloc_new w _)
  have HJ : Hid (∀ w', Below W.heap.size W w' → w'.cell? ⟨w.heap.size, 0, none⟩ = some (.int .i64 (N : Nat)) ∧ w'.cell? ⟨w.heap.size, 1, none⟩ = some (.slice A E.length c)) := fun w' hb =>
    ⟨by rw [hb.cell (by show w.heap.size < _; omega)]; exact i0, by rw [hb.cell (by show w.heap.size < _; omega)]; exact i1⟩
  have hEl : E.length ≤ 594 := by have := rightG_bounds hg; omega
  have HR := Lib.hid (hr.below hbw)
  have HG := Lib.hid hg
  have HB := Lib.hid hbw
  have HT := Lib.hid ht
  have HW := Lib.hid hW
  clear hr hbw hW hg ht i0 i1
  obtain ⟨n, hn⟩ : ∃ n, E.length = n := ⟨_, rfl⟩
  have HN := Lib.hid hn
  rw [hn] at HW HJ hEl ⊢
  clear hn
  go_enter Try.func4, Try.ntmps4
  go_wp2_with fail
  rw [← HW.out]
  have HLT := Lib.hid (one_lit W v)
  rw [hWz] at HLT
  clear hWz
  have HBA := Lib.hid ((Below.refl W.heap.size W).alloc (Nat.le_refl _) (.cells #[.int .i64 (v : Int)] 3))
  refine (there_any A (some ⟨w.heap.size + 1, 0, none⟩) c 1 n 1 N E [(v : Int)] _ (HR.out.below HBA.out) HN.out.symm (HLT.out) rfl (by omega)).mono ?_
  rintro e w1 ⟨rfl, hb1⟩
  rw [HT.out]
  have HB1 := Lib.hid (next_below HBA.out hb1)
  obtain ⟨j0, j1⟩ := HJ.out w1 HB1.out
  clear hb1 HBA
  go_wp2_with fail
  refine (walk_any A c n N v E w1 (HR.out.below HB1.out) HN.out.symm HG.out hv).mono ?_
  rintro e w2 ⟨k, go, co, Bu, s, rfl, ho, hu, hne, hBu, hs, hsl, hG, hb⟩
  have hdf : Dfs (tabG N E) N v s := by rw [hs]; exact dfs_run (tab_is HG.out) (fun a b => tabG_sym HG.out) hv k
  have HDF := Lib.hid hdf
  have HSL := Lib.hid hsl
  have HB2 := Lib.hid (next_below HB1.out hb)
  have HO2 := Lib.hid ho
  have HU2 := Lib.hid hu
  have hol : 0 < s.order.length := (List.getElem?_eq_some_iff.1 hdf.first).1
  have hol2 : s.order.length ≤ 61 := by have := hG.cnt; omega
  clear hb ho hu hs hsl hG hdf j0 j1
  obtain ⟨j0, j1⟩ := HJ.out w2 HB2.out
  go_wp2_with fail
  refine (away_any A c n N v E w2 (HR.out.below HB2.out) HN.out.symm HG.out hv).mono ?_
  rintro e w3 ⟨Bd, ds, rfl, od, ⟨hD, _⟩, hBd, hb⟩
  have HB3 := Lib.hid (next_below HB2.out hb)
  have HDE : Hid (∀ x, x < N → (x ∈ s.order ↔ 0 ≤ gd ds x)) := fun x hx => dfs_end HDF.out HSL.out hD hx
  have HOC : Hid (∀ w', Below w3.heap.size w3 w' → ∀ (i x : Nat), s.order[i]? = some x → w'.cell? ⟨go, i, none⟩ = some (.int .i64 (x : Int))) := fun w' hb' i x hx =>
    OwnL.at_ (row_below (row_below HO2.out hb) hb') hx
  have HUC : Hid (∀ w', Below w3.heap.size w3 w' → ∀ x, x < N → w'.cell? ⟨Bu, x, none⟩ = some (.int .i64 (gd s.up x))) := fun w' hb' x hx =>
    ((HU2.out.below hb).below hb').at_ (by rw [HDF.out.good.len]; exact hx)
  have HDC : Hid (∀ w', Below w3.heap.size w3 w' → ∀ x, x < N → w'.cell? ⟨Bd, x, none⟩ = some (.int .i64 (gd ds x))) := fun w' hb' x hx =>
    (od.below hb').at_ (by rw [hD.len]; exact hx)
  have HJ3 : Hid (∀ w', Below w3.heap.size w3 w' → w'.cell? ⟨w.heap.size, 0, none⟩ = some (.int .i64 (N : Nat)) ∧ w'.cell? ⟨w.heap.size, 1, none⟩ = some (.slice A n c)) := fun w' hb' => HJ.out w' (next_below HB3.out hb')
  clear j0 j1 hb od hD HO2 HU2
  obtain ⟨j0, j1⟩ := HJ3.out w3 (Below.refl _ _)
  have c0 := HOC.out w3 (Below.refl _ _) 0 v HDF.out.first
  obtain ⟨ln, hln⟩ : ∃ ln, s.order.length = ln := ⟨_, rfl⟩
  have HLN := Lib.hid hln
  rw [hln] at hol hol2 ⊢
  clear hln
  have hNN : ((N : Int) == (N : Int)) = true := by simp
  have hll : ((ln : Int) == 0) = false := by simp; omega
  have hvv : ((v : Int) == (v : Int)) = true := by simp
  have hl0 : (0 : Int) < (ln : Nat) := by omega
  have hmm := @run_makeMap Try.prog
  have HM0 := Lib.hid (MapZ.made w3)
  have HP0 := Lib.hid (pos_zero s.order)
  have HBM0 : Hid (Below w3.heap.size w3 (w3.alloc (.map #[] 0))) := (Below.refl _ _).alloc (Nat.le_refl _) _
  go_wp2_with fail
  clear hmm j0 j1 c0 hll hl0
  go_loopw [81] (fun s81 wr => ∃ (i : Nat) (f : Int → Option Int), i ≤ ln ∧ s81 = .int .i64 i ∧ Hid (MapZ wr w3.heap.size i f i) ∧ Hid (PosM s.order i f) ∧ Hid (Below w3.heap.size w3 wr)) (fun s81 _ => ln - (intOf s81).toNat)
  case atStart => exact ⟨0, _, Nat.zero_le _, rfl, HM0, HP0, HBM0⟩
  case round =>
    obtain ⟨i, f, hi, rfl, hM, hP, hbel⟩ := hrel
    by_cases h1 : i < ln
    · have t1 : decide ((i : Int) < (ln : Int)) = true := by simp; omega
      have hi0 : (0 : Int) ≤ (i : Int) := by omega
      have hi1 : (i : Int) < (ln : Nat) := by omega
      obtain ⟨x, hx⟩ : ∃ x, s.order[i]? = some x := ⟨_, List.getElem?_eq_getElem (by rw [HLN.out]; exact h1)⟩
      have hxN := HDF.out.good.inO x (List.mem_of_getElem? hx)
      have hxd := (HDE.out x hxN).1 (List.mem_of_getElem? hx)
      have e0 := HOC.out wr hbel.out i x hx
      have e1 := HDC.out wr hbel.out x hxN
      obtain ⟨j0, j1⟩ := HJ3.out wr hbel.out
      have hnew := pos_new hP.out HDF.out.nod hx
      have HP1 := Lib.hid (pos_step hP.out HDF.out.nod hx)
      have hxI : inI (x : Int) := by unfold inI; omega
      have hiI : inI (i : Int) := by unfold inI; omega
      have hlk := hM.out.look_ok hxI
      rw [hnew] at hlk
      simp only [Option.getD_none, Option.isSome_none] at hlk
      have HNEW : Hid ((if (f (x : Int)).isSome then i else i + 1) = i + 1) := by show _ = _; rw [hnew]; rfl
      have HXI := Lib.hid hxI
      have HII := Lib.hid hiI
      have hwz : w3.heap.size ≤ wr.heap.size := hbel.out.size
      have hx0 : (0 : Int) ≤ (x : Int) := by omega
      have hx1 : (x : Int) < (N : Nat) := by omega
      obtain ⟨dx, hdx⟩ : ∃ dx, gd ds x = dx := ⟨_, rfl⟩
      rw [hdx] at e1 hxd
      have d1 : decide ((x : Int) < 0) = false := by simp
      have d2 : decide ((N : Int) ≤ (x : Int)) = false := by simp; omega
      have d3 : decide (dx < 0) = false := by simp; omega
      have HX := Lib.hid hx
      have HBG : Hid (∀ w6, wr.grownBy w6 (some w3.heap.size) → Below w3.heap.size w3 w6) := fun w6 hg6 => hbel.out.grown hg6 hwz (fun q hq => by injection hq with hq; omega)
      clear hnew hxI hiI hdx hx
      by_cases hi00 : i = 0
      · subst hi00
        have hxv : x = v := by
          have h1 := HX.out
          rw [HDF.out.first] at h1
          injection h1 with h1
          exact h1.symm
        have HUX : Hid (gd s.up x = -1) := by show _ = _; rw [hxv]; exact HDF.out.root
        have dz : ((-1 : Int) == -1) = true := by decide
        clear hxv
        go_wp2_with (at_mapUpdate; refine wpList_putZ _ rfl _ _ _ rfl w3.heap.size _ _ f rfl hM.out (by omega) (x : Int) _ rfl rfl HXI.out HII.out ?_
                     intro w6 hM6 hg6
                     have HB6 := Lib.hid (HBG.out w6 hg6)
                     have k1 := HUC.out w6 HB6.out x hxN
                     rw [HUX.out] at k1
                     rw [HNEW.out] at hM6
                     have HM6 := Lib.hid hM6
                     clear hM6 hg6 hlk e0 e1 j0 j1)
        go_roundw
        case rel => exact ⟨1, _, by omega, by go_num, HM6, HP1, HB6⟩
        case measure => simp [intOf]; omega
      · obtain ⟨p, hp1, hp2, hp3, hp4⟩ := HDF.out.par i x (by omega) HX.out
        have hpN := HDF.out.good.inO p (List.mem_of_mem_take hp2)
        obtain ⟨jp, hjp1, hjp2, _⟩ := pos_mem hP.out hp2
        have HUX := Lib.hid hp1
        have HLE := Lib.hid hp4
        have hpx : (p : Int) ≠ (x : Int) := fun e => by
          have h1 := pos_new hP.out HDF.out.nod HX.out
          rw [← e, hjp2] at h1
          cases h1
        have hlk6 : Hid (upd f (x : Int) (i : Int) (p : Int) = some (jp : Int)) := by show _ = _; rw [upd_other hpx]; exact hjp2
        have hhas := (hasG_adj HG.out hpN hxN).2 hp3
        have HHAS : Hid (∀ w', Below w3.heap.size w3 w' → Calls Try.prog 24 #[.agg #[.int .i64 (N : Nat), .slice A n c], .int .i64 (p : Nat), .int .i64 (x : Nat)] w' fun e w'' => e = .returned (.bool true) ∧ Below w'.heap.size w' w'') := fun w' hb => by
          have h := has_any A c n N E p x w' ((HR.out.below HB3.out).below hb) HN.out.symm HG.out
          rw [hhas] at h
          exact h
        have di : ((i : Int) == 0) = false := by simp; omega
        have dj : decide ((i : Int) ≤ (jp : Int)) = false := by simp; omega
        have dj2 : decide (i ≤ jp) = false := by simp; omega
        have hp0 : (0 : Int) ≤ (p : Int) := by omega
        have hpI : Hid (inI (p : Int)) := by show inI _; unfold inI; omega
        clear hp1 hp2 hp3 hp4 hjp2 hpx hhas
        go_wp2_with (at_mapUpdate; refine wpList_putZ _ rfl _ _ _ rfl w3.heap.size _ _ f rfl hM.out (by omega) (x : Int) _ rfl rfl HXI.out HII.out ?_
                     intro w6 hM6 hg6
                     have HB6 := Lib.hid (HBG.out w6 hg6)
                     have k1 := HUC.out w6 HB6.out x hxN
                     rw [HUX.out] at k1
                     rw [HNEW.out] at hM6
                     have k2 := hM6.look_ok hpI.out
                     rw [hlk6.out] at k2
                     simp only [Option.getD_some, Option.isSome_some] at k2
                     obtain ⟨k3, k4⟩ := HJ3.out w6 HB6.out
                     have HM6 := Lib.hid hM6
                     clear hM6 hg6 hlk e0 e1 j0 j1)
        refine (HHAS.out _ HB6.out).mono ?_
        rintro e w7 ⟨rfl, hb7⟩
        have HB7 := Lib.hid (next_below HB6.out hb7)
        have HM7 := Lib.hid (HM6.out.below hb7)
        clear k1 k2 k3 k4 hb7 HM6 HB6
        go_wp2_with fail
        obtain ⟨wo, rfl⟩ : ∃ wo, wo = wr := ⟨_, rfl⟩
        go_loopw [142] (fun s142 wn => ∃ z : Nat, z ≤ x ∧ s142 = .int .i64 z ∧ Hid (Below w7.heap.size w7 wn)) (fun s142 _ => x - (intOf s142).toNat)
        case atStart => exact ⟨0, Nat.zero_le _, rfl, Lib.hid (Below.refl _ _)⟩
        case round =>
          obtain ⟨z, hz, rfl, hbz⟩ := hrel
          by_cases h2 : z < x
          · have t2 : decide ((z : Int) < (x : Int)) = true := by simp; omega
            have hzI : inI (z : Int) := by unfold inI; omega
            have HBZ := Lib.hid (next_below HB7.out hbz.out)
            have hlz := (HM7.out.below hbz.out).look_ok hzI
            obtain ⟨j0, j1⟩ := HJ3.out wr HBZ.out
            have HHZ : Hid (∀ w', Below w3.heap.size w3 w' → Calls Try.prog 24 #[.agg #[.int .i64 (N : Nat), .slice A n c], .int .i64 (p : Nat), .int .i64 (z : Nat)] w' fun e w'' => e = .returned (.bool (hasG E p z)) ∧ Below w'.heap.size w' w'') := fun w' hb =>
              has_any A c n N E p z w' ((HR.out.below HB3.out).below hb) HN.out.symm HG.out
            clear hzI
            cases hh : hasG E p z with
            | true =>
              rw [hh] at HHZ
              have hin := HLE.out z h2 ((hasG_adj HG.out hpN (by omega)).1 hh)
              obtain ⟨jz, hjz1, hjz2, hjz3⟩ := pos_mem hP.out hin
              have hzx : (z : Int) ≠ (x : Int) := by omega
              rw [upd_other hzx, hjz2] at hlz
              simp only [Option.getD_some, Option.isSome_some] at hlz
              have dz : decide ((i : Int) ≤ (jz : Int)) = false := by simp; omega
              have dz2 : decide (i ≤ jz) = false := by simp; omega
              clear hin hjz2 hjz3 hzx hh
              go_wp2_with fail
              refine (HHZ.out _ HBZ.out).mono ?_
              rintro e w8 ⟨rfl, hb8⟩
              have HB8 := Lib.hid (next_below hbz.out hb8)
              clear hlz j0 j1 hb8
              go_wp2_with fail
              go_roundw
              case rel => exact ⟨z + 1, by omega, by go_num, HB8⟩
              case measure => simp [intOf]; omega
            | false =>
              rw [hh] at HHZ
              generalize (upd f (x : Int) (i : Int) (z : Int)).getD 0 = gz at hlz
              generalize (upd f (x : Int) (i : Int) (z : Int)).isSome = bz at hlz
              clear hh
              go_wp2_with fail
              refine (HHZ.out _ HBZ.out).mono ?_
              rintro e w8 ⟨rfl, hb8⟩
              have HB8 := Lib.hid (next_below hbz.out hb8)
              clear hlz j0 j1 hb8
              go_wp2_with fail
              go_roundw
              case rel => exact ⟨z + 1, by omega, by go_num, HB8⟩
              case measure => simp [intOf]; omega
          · obtain rfl : z = x := by omega
            have t2 : decide ((z : Int) < (z : Int)) = false := by simp
            have HM8 := Lib.hid (HM7.out.below hbz.out)
            have HB8 := Lib.hid (next_below HB7.out hbz.out)
            go_wp2_with fail
            go_roundw
            case rel => exact ⟨i + 1, _, by omega, by go_num, HM8, HP1, HB8⟩
            case measure => simp [intOf]; omega
    · obtain rfl : i = ln := by omega
      have t1 : decide ((i : Int) < (i : Int)) = false := by simp
      have HBO := Lib.hid (next_below HB3.out hbel.out)
      clear t1
      go_wp2_with fail
      obtain ⟨wo, rfl⟩ : ∃ wo, wo = wr := ⟨_, rfl⟩
      go_loopw [168] (fun s168 wn => ∃ x : Nat, x ≤ N ∧ s168 = .int .i64 x ∧ wn = wo) (fun s168 _ => N - (intOf s168).toNat)
      case atStart => exact ⟨0, Nat.zero_le _, rfl, rfl⟩
      case round =>
        obtain ⟨x, hx, rfl, rfl⟩ := hrel
        by_cases h2 : x < N
        · have t2 : decide ((x : Int) < (N : Int)) = true := by simp; omega
          have hx0 : (0 : Int) ≤ (x : Int) := by omega
          have hx1 : (x : Int) < (N : Nat) := by omega
          have e1 := HDC.out wr hbel.out x h2
          have hlk := hM.out.look_ok (x := (x : Int)) (by unfold inI; omega)
          have hde := HDE.out x h2
          by_cases hxo : x ∈ s.order
          · obtain ⟨q, hq⟩ := List.getElem?_of_mem hxo
            have hqi : q < i := by have := (List.getElem?_eq_some_iff.1 hq).1; rw [HLN.out] at this; exact this
            rw [pos_at hP.out hqi hq] at hlk
            simp only [Option.getD_some, Option.isSome_some] at hlk
            have hdx := hde.1 hxo
            obtain ⟨dx, hdd⟩ : ∃ dx, gd ds x = dx := ⟨_, rfl⟩
            rw [hdd] at e1 hdx
            have d1 : decide (0 ≤ dx) = true := by simpa using hdx
            clear hde hxo hq hqi hdx hdd
            go_wp2_with fail
            go_roundw
            case rel => exact ⟨x + 1, by omega, by go_num, by first | rfl | trivial⟩
            case measure => simp [intOf]; omega
          · rw [pos_non hP.out hxo] at hlk
            simp only [Option.getD_none, Option.isSome_none] at hlk
            have hdx : ¬ 0 ≤ gd ds x := fun h => hxo (hde.2 h)
            have e2 := HUC.out wr hbel.out x h2
            have hup : gd s.up x = -1 := by
              have h3 := HDF.out.low x h2
              have h4 : ¬ 0 ≤ gd s.up x := fun h => hxo ((HDF.out.met x h2).2 (.inr h))
              omega
            rw [hup] at e2
            obtain ⟨dx, hdd⟩ : ∃ dx, gd ds x = dx := ⟨_, rfl⟩
            rw [hdd] at e1 hdx
            have d1 : decide (0 ≤ dx) = false := by simpa using hdx
            have d2 : ((-1 : Int) != -1) = false := by decide
            clear hde hxo hdx hdd hup
            go_wp2_with fail
            go_roundw
            case rel => exact ⟨x + 1, by omega, by go_num, by first | rfl | trivial⟩
            case measure => simp [intOf]; omega
        · have hxe : x = N := by omega
          rw [hxe]
          clear hx h2 hxe
          have t2 : decide ((N : Int) < (N : Int)) = false := by simp
          obtain ⟨j0, j1⟩ := HJ3.out wr hbel.out
          have HLN3 : Hid (s.order.length ≤ N + 1) := by have := HDF.out.good.cnt; show _ ≤ _; omega
          have HLI : Hid (i = s.order.length) := HLN.out.symm
          go_wp2_with fail
          clear j0 j1 t2
          obtain ⟨wo, rfl⟩ : ∃ wo, wo = wr := ⟨_, rfl⟩
          go_loopw [199] (fun s199 wn => ∃ e : Nat, e ≤ n ∧ s199 = .int .i64 e ∧ Hid (Below wo.heap.size wo wn)) (fun s199 _ => n - (intOf s199).toNat)
          case atStart => exact ⟨0, Nat.zero_le _, rfl, Lib.hid (Below.refl _ _)⟩
          case round =>
            obtain ⟨e, he, rfl, hb5⟩ := hrel
            by_cases h3 : e < n
            · have hI0 : (0 : Int) ≤ (e : Int) := by omega
              have hI1 : (e : Int) < (n : Nat) := by omega
              obtain ⟨ed, hed⟩ : ∃ ed, E[e]? = some ed := ⟨_, List.getElem?_eq_getElem (by rw [HN.out]; exact h3)⟩
              obtain ⟨b1, b2, b3⟩ := rightG_edge HG.out hed
              obtain ⟨ad, rfl, hal, p1, p2⟩ := ((HR.out.below HBO.out).below hb5.out) e ed hed
              obtain ⟨e0, e1⟩ := ed
              simp only [] at b1 b2 b3 p1 p2
              obtain ⟨p, rfl⟩ := Int.eq_ofNat_of_zero_le b1
              obtain ⟨q, rfl⟩ := Int.eq_ofNat_of_zero_le (show 0 ≤ e1 by omega)
              obtain ⟨ea, eb, _, _⟩ := edge_adj HG.out hed
              have hpN : p < N := by omega
              have hqN : q < N := by omega
              have hp0 : (0 : Int) ≤ (p : Int) := by omega
              have hp1 : (p : Int) < (N : Nat) := by omega
              have HApq := Lib.hid ea
              have HAqp := Lib.hid eb
              have hbX : Below wr.heap.size wr (wr.alloc (.cells #[.int .i64 (p : Int), .int .i64 (q : Int)] 43)) := (Below.refl _ _).alloc (Nat.le_refl _) _
              have hEB : (wr.alloc (.cells #[.int .i64 (p : Int), .int .i64 (q : Int)] 43)).heap[wr.heap.size]? = some (.cells #[.int .i64 (p : Int), .int .i64 (q : Int)] 43 (0, 0)) := heap_alloc_new wr _
              have HBX := Lib.hid (next_below hb5.out hbX)
              have hpq : p ≠ q := by omega
              clear hbX b1 b2 b3 hed ea eb
              go_upto_region 40 with fail
              generalize wr.alloc (.cells #[.int .i64 (p : Int), .int .i64 (q : Int)] 43) = X at *
              clear p1 p2
              obtain ⟨r0, r1, _, _⟩ := cells_two hEB
              have HQ := Lib.hid (fun m : Nat => below_drewN HBX.out m)
              clear hEB
              go_quiet (fail)
              rename_i nq
              have HBX2 := Lib.hid (HQ.out nq)
              generalize X.drewN nq = X2 at HBX2 ⊢
              have HBX3 := Lib.hid (next_below hbel.out HBX2.out)
              have c1 := HDC.out X2 HBX3.out p hpN
              clear HQ r0 r1 HBX
              by_cases hneg : gd ds p < 0
              · obtain ⟨dx, hdd⟩ : ∃ dx, gd ds p = dx := ⟨_, rfl⟩
                rw [hdd] at c1 hneg
                have d1 : decide (dx < 0) = true := by simpa using hneg
                clear hneg hdd
                go_wp2_with fail
                go_roundw
                case rel => exact ⟨e + 1, by omega, by go_num, HBX2⟩
                case measure => simp [intOf]; omega
              · have hpo := (HDE.out p hpN).2 (by omega)
                have hqo := HDF.out.fin p hpo (by rw [HSL.out]; simp) q HApq.out
                obtain ⟨ip, hip⟩ := List.getElem?_of_mem hpo
                obtain ⟨iq, hiq⟩ := List.getElem?_of_mem hqo
                have HOp := Lib.hid hip
                have HOq := Lib.hid hiq
                have hipl : ip < i := by have := (List.getElem?_eq_some_iff.1 hip).1; rw [HLN.out] at this; exact this
                have hiql : iq < i := by have := (List.getElem?_eq_some_iff.1 hiq).1; rw [HLN.out] at this; exact this
                have hMX := hM.out.below HBX2.out
                have l1 := hMX.look (x := (p : Int)) (by unfold inI; omega)
                have l2 := hMX.look (x := (q : Int)) (by unfold inI; omega)
                rw [pos_at hP.out hipl hip] at l1
                rw [pos_at hP.out hiql hiq] at l2
                simp only [Option.getD_some] at l1 l2
                have hine : ip ≠ iq := fun e2 => by
                  subst e2
                  rw [hip] at hiq
                  injection hiq with hiq
                  exact hpq hiq
                obtain ⟨dx, hdd⟩ : ∃ dx, gd ds p = dx := ⟨_, rfl⟩
                rw [hdd] at c1 hneg
                have d1 : decide (dx < 0) = false := by simpa using hneg
                clear hneg hdd hpo hqo hip hiq hMX
                by_cases hlt : iq < ip
                · have dl : decide ((iq : Int) < (ip : Int)) = true := by simp; omega
                  have dl2 : decide (iq < ip) = true := by simp; omega
                  obtain ⟨tt, htt⟩ := HDF.out.anc iq ip q p (by omega) HOq.out HOp.out HAqp.out
                  have htl := anc_short HDF.out tt ip p q HOp.out htt
                  have hpl : ip < i := by have := (List.getElem?_eq_some_iff.1 HOp.out).1; rw [HLN.out] at this; exact this
                  have HTT := Lib.hid htt
                  have HQI := Lib.hid (List.mem_of_getElem? HOp.out)
                  have htN : tt ≤ N := by have := HLN3.out; have := HLI.out; omega
                  clear htt htl hpl
                  go_wp2_with fail
                  go_loopw [27, 28] (fun s27 s28 wn => ∃ (t x : Nat), t ≤ tt ∧ s27 = .int .i64 x ∧ s28 = .int .i64 t ∧ Hid (Anc s.up (tt - t) x q) ∧ Hid (x ∈ s.order) ∧ wn = X2) (fun _ s28 _ => tt - (intOf s28).toNat)
                  case atStart => exact ⟨0, p, Nat.zero_le _, rfl, rfl, HTT, HQI, rfl⟩
                  case round =>
                    obtain ⟨t, x, ht, rfl, rfl, hA, hxo, rfl⟩ := hrel
                    have hxN := HDF.out.good.inO x hxo.out
                    by_cases hxp : x = q
                    · subst hxp
                      have dxx : ((x : Int) != (x : Int)) = false := by simp
                      go_wp2_with fail
                      go_roundw
                      case rel => exact ⟨e + 1, by omega, by go_num, HBX2⟩
                      case measure => simp [intOf]; omega
                    · have dxx : ((x : Int) != (q : Int)) = true := by rw [bne_iff_ne]; omega
                      have htlt : t < tt := by
                        rcases Nat.lt_or_eq_of_le ht with h | h
                        · exact h
                        · exfalso
                          subst h
                          have := hA.out
                          rw [Nat.sub_self] at this
                          exact hxp this
                      obtain ⟨m, hm⟩ : ∃ m, tt - t = m + 1 := ⟨tt - t - 1, by omega⟩
                      have hA2 := hA.out
                      rw [hm] at hA2
                      obtain ⟨y, hy1, hy2⟩ := hA2
                      have HA3 : Hid (Anc s.up (tt - (t + 1)) y q) := by
                        rw [show tt - (t + 1) = m by omega]
                        exact hy2
                      have HY := Lib.hid (HDF.out.up_in hxo.out hy1)
                      have f1 := HUC.out wr HBX3.out x hxN
                      rw [hy1] at f1
                      obtain ⟨j0, j1⟩ := HJ3.out wr HBX3.out
                      have hx0 : (0 : Int) ≤ (x : Int) := by omega
                      have hx1 : (x : Int) < (N : Nat) := by omega
                      have dx0 : decide ((x : Int) < 0) = false := by simp
                      have dt : decide ((N : Int) < (t : Int)) = false := by simp; omega
                      have dt2 : decide (N < t) = false := by simp; omega
                      clear hm hy1 hy2
                      go_wp2_with fail
                      go_roundw
                      case rel => exact ⟨t + 1, y, by omega, rfl, by go_num, HA3, HY, by first | rfl | trivial⟩
                      case measure => simp [intOf]; omega
                · have dl : decide ((iq : Int) < (ip : Int)) = false := by simp; omega
                  have dl2 : decide (iq < ip) = false := by simp; omega
                  have hlt2 : ip < iq := by omega
                  obtain ⟨tt, htt⟩ := HDF.out.anc ip iq p q (by omega) HOp.out HOq.out HApq.out
                  have htl := anc_short HDF.out tt iq q p HOq.out htt
                  have hpl : iq < i := by have := (List.getElem?_eq_some_iff.1 HOq.out).1; rw [HLN.out] at this; exact this
                  have HTT := Lib.hid htt
                  have HQI := Lib.hid (List.mem_of_getElem? HOq.out)
                  have htN : tt ≤ N := by have := HLN3.out; have := HLI.out; omega
                  clear htt htl hpl
                  go_wp2_with fail
                  go_loopw [27, 28] (fun s27 s28 wn => ∃ (t x : Nat), t ≤ tt ∧ s27 = .int .i64 x ∧ s28 = .int .i64 t ∧ Hid (Anc s.up (tt - t) x p) ∧ Hid (x ∈ s.order) ∧ wn = X2) (fun _ s28 _ => tt - (intOf s28).toNat)
                  case atStart => exact ⟨0, q, Nat.zero_le _, rfl, rfl, HTT, HQI, rfl⟩
                  case round =>
                    obtain ⟨t, x, ht, rfl, rfl, hA, hxo, rfl⟩ := hrel
                    have hxN := HDF.out.good.inO x hxo.out
                    by_cases hxp : x = p
                    · subst hxp
                      have dxx : ((x : Int) != (x : Int)) = false := by simp
                      go_wp2_with fail
                      go_roundw
                      case rel => exact ⟨e + 1, by omega, by go_num, HBX2⟩
                      case measure => simp [intOf]; omega
                    · have dxx : ((x : Int) != (p : Int)) = true := by rw [bne_iff_ne]; omega
                      have htlt : t < tt := by
                        rcases Nat.lt_or_eq_of_le ht with h | h
                        · exact h
                        · exfalso
                          subst h
                          have := hA.out
                          rw [Nat.sub_self] at this
                          exact hxp this
                      obtain ⟨m, hm⟩ : ∃ m, tt - t = m + 1 := ⟨tt - t - 1, by omega⟩
                      have hA2 := hA.out
                      rw [hm] at hA2
                      obtain ⟨y, hy1, hy2⟩ := hA2
                      have HA3 : Hid (Anc s.up (tt - (t + 1)) y p) := by
                        rw [show tt - (t + 1) = m by omega]
                        exact hy2
                      have HY := Lib.hid (HDF.out.up_in hxo.out hy1)
                      have f1 := HUC.out wr HBX3.out x hxN
                      rw [hy1] at f1
                      obtain ⟨j0, j1⟩ := HJ3.out wr HBX3.out
                      have hx0 : (0 : Int) ≤ (x : Int) := by omega
                      have hx1 : (x : Int) < (N : Nat) := by omega
                      have dx0 : decide ((x : Int) < 0) = false := by simp
                      have dt : decide ((N : Int) < (t : Int)) = false := by simp; omega
                      have dt2 : decide (N < t) = false := by simp; omega
                      clear hm hy1 hy2
                      go_wp2_with fail
                      go_roundw
                      case rel => exact ⟨t + 1, y, by omega, rfl, by go_num, HA3, HY, by first | rfl | trivial⟩
                      case measure => simp [intOf]; omega
            · obtain rfl : e = n := by omega
              have t3 : decide ((e : Int) < (e : Int)) = false := by simp
              go_wp2_with fail
              refine (awake_any wr).mono ?_
              rintro e8 w8 ⟨rfl, hb8⟩
              go_wp2_with fail
              go_ret
              exact ⟨rfl, HB.out.trans ((next_below (next_below HBO.out hb5.out) hb8).mono (Nat.le_of_lt hWS))⟩
theorem met_walk (v0 : Value) (a : Int) (w : World) (h0 : OkGraph w v0) (_ : -9223372036854775808 ≤ a ∧ a < 9223372036854775808) :
    Calls Try.prog 4 #[v0, .int .i64 a] w fun e w' => e = .returned (.bool true) ∧ Below w.heap.size w w' := by
  obtain ⟨N, A, c, E, rfl, _, _, hr, _⟩ := h0
  cases ht : thereB N E [a] with
  | false => exact met_no A c N a E w hr ht
  | true =>
    obtain ⟨hv, hg, hN⟩ := thereB_yes ht
    have h1 := hv a (by simp)
    obtain ⟨a, rfl⟩ := Int.eq_ofNat_of_zero_le h1.1
    obtain ⟨N, rfl⟩ := Int.eq_ofNat_of_zero_le (show 0 ≤ N by omega)
    exact met_yes A c N a E w hr hg (by omega) (by omega) ht
end Go.Proofs.Ytpkiogcedfmodaa
