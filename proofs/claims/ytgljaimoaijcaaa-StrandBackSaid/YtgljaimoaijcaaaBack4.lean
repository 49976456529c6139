/- The walk of StrandBack. -/
import Derived.Test.YtgljaimoaijcaaaBack3
namespace Go.Proofs.Ytgljaimoaijcaaa
open Go.RowKit

set_option maxRecDepth 100000 in
set_option maxHeartbeats 2000000 in
theorem back_slow (A : Option Addr) (c : Nat) (K : Int) (xs : List Int) (v : Value) (cut : Nat) (w : World) (hx : RdB w A xs) (h : gB K xs.length = true ∨ (gB K xs.length = false ∧ rightB xs K = false)) :
    Calls Try.prog 4 #[.agg #[.slice A xs.length c, .int .i64 K], v, .int .u16 cut] w fun e w' => e = .returned (.bool true) ∧ Below w.heap.size w w' := by
  have HX := Lib.hid (hx.alloc (.cells #[.slice A xs.length c, .int .i64 K] 24))
  have hB0 := Below.refl (w.alloc (.cells #[.slice A xs.length c, .int .i64 K] 24)).heap.size (w.alloc (.cells #[.slice A xs.length c, .int .i64 K] 24))
  have HF : Hid (∀ w', Below (w.alloc (.cells #[.slice A xs.length c, .int .i64 K] 24)).heap.size (w.alloc (.cells #[.slice A xs.length c, .int .i64 K] 24)) w' → Below w.heap.size w w') :=
    fun w' hb => ((Below.refl _ _).alloc (Nat.le_refl _) _).trans (hb.mono (by simp))
  clear hx
  rcases h with h1 | ⟨h1, h2⟩
  all_goals
    go_enter Try.func4, Try.ntmps4
    go_wp2_with (first
      | (go_at_call 10; refine (great_c (by assumption) _ _ _ _).mono ?_; rintro e wn ⟨rfl, hbn⟩; obtain ⟨hc, hf⟩ := old_cells hbn)
      | (go_at_call 16; refine (right_c (by assumption) _ _ _ _ HX.out).mono ?_; rintro e wn ⟨rfl, hbn⟩; obtain ⟨hc, hf⟩ := old_cells hbn)
      | (go_at_call 11; refine (awake_c (by assumption)).mono ?_; rintro e wn ⟨rfl, hbn⟩))
    go_ret
    exact ⟨rfl, HF.out _ (by assumption)⟩

abbrev bo2 (A : Option Addr) (n c : Nat) (L : Int) : Obj := .cells #[.slice A n c, .int .i64 L] 24 (0, 0)
set_option maxRecDepth 100000 in
set_option maxHeartbeats 4000000 in
theorem back_main (A : Option Addr) (c : Nat) (l : List Bool) (At : Option Addr) (ct tl : Nat) (T : List (Nat × Nat)) (cut : Nat) (w : World) (hA : Rd w A l) (la : l.length ≤ 2000)
    (hT : RdT w At T) (hO : OkT T) (htl : T.length = min tl 30) (htc : tl ≤ ct) (hct : ct ≤ 9223372036854775807) (hAt : At = none → ct = 0) (hcut : cut < 65536) :
    Calls Try.prog 4 #[.agg #[.slice A (nB l) c, .int .i64 (l.length : Nat)], .slice At tl ct, .int .u16 cut] w fun e w' => e = .returned (.bool true) ∧ Below w.heap.size w w' := by
  have S0 := Lib.hid ((Bun.start (w.alloc (bo2 A (nB l) c (l.length : Nat)))).rd (hA.alloc _))
  have HF : Hid (∀ w', Below (w.alloc (bo2 A (nB l) c (l.length : Nat))).heap.size (w.alloc (bo2 A (nB l) c (l.length : Nat))) w' → Below w.heap.size w w') :=
    fun w' hb => ((Below.refl _ _).alloc (Nat.le_refl _) _).trans (hb.mono (by simp))
  have HT := Lib.hid hT
  have HO := Lib.hid hO
  have hmin : min (tl : Int) 30 = (T.length : Nat) := by omega
  obtain ⟨n, hn⟩ : ∃ n, n = T.length := ⟨_, rfl⟩
  have HN := Lib.hid hn
  rw [← hn] at hmin htl
  have hn30 : n ≤ 30 := by omega
  have hnc : n ≤ ct := by omega
  clear hA hT hO hn htl
  go_enter Try.func4, Try.ntmps4
  go_wp2_with fail
  refine (great_any A _ c _ _).mono ?_
  rintro e w1 ⟨rfl, hb⟩
  rw [not_great la]
  have S1 := Lib.hid (S0.out.below hb)
  clear hb S0
  obtain ⟨hc, hf⟩ := S1.out.olds
  go_wp2_with fail
  refine (right_yes A l _ c _ _ (S1.out.read (by simp)) rfl rfl (by omega)).mono ?_
  rintro e w2 ⟨rfl, hb⟩
  have S2 := Lib.hid (S1.out.below hb)
  clear hb S1 hc hf
  obtain ⟨hc, hf⟩ := S2.out.olds
  have hws : w.heap.size < w2.heap.size := by have := S2.out.2.2.size; simp at this; omega
  have i1 : ∀ o, (w2.alloc o).cell? ⟨w.heap.size, 1, none⟩ = some (.int .i64 (l.length : Nat)) := by
    intro o
    rw [World.cell?_alloc_lt w2 o ⟨w.heap.size, 1, none⟩ hws, hc _ _ (by simp)]
    exact cell_of (heap_alloc_new w _) 1
  have HT2 := Lib.hid (HT.out.below (HF.out w2 S2.out.2.2))
  have HRA := Lib.hid (S2.out.read (A := A) (l := l) (by simp))
  obtain ⟨W4, hW4⟩ : ∃ W4, (w2.alloc (bo2 A (nB l) c (l.length : Nat))).alloc (.cells #[.int .i64 (l.length : Nat)] 3) = W4 := ⟨_, rfl⟩
  have hinv : Inv1 l T w2 W4 0 (.slice (some ⟨w2.heap.size + 1, 0, none⟩) 1 1) := by
    have hbel : Below w2.heap.size w2 W4 := by rw [← hW4]; exact ((Below.refl _ _).alloc (Nat.le_refl _) _).alloc (by simp) _
    refine ⟨w2.heap.size + 1, 1, A, c, rfl, ?_, ?_, ?_, ?_, hbel⟩
    · rw [endsOf_zero, ← hW4]
      exact ⟨rfl, .inr ⟨w2.heap.size + 1, 1, #[iv l.length], rfl, Nat.le_refl _, two_second w2 _ _, by omega, by simp [maxLen], rfl, rfl⟩⟩
    · rw [upto_zero, ← hW4]; exact two_first w2 _ _
    · rw [upto_zero]; exact HRA.out.not_new hbel (Nat.le_refl _)
    · rw [upto_zero]; exact HRA.out.not_new hbel (by omega)
  have HI := Lib.hid hinv
  have HW4 := Lib.hid hW4
  clear hinv hW4 HT
  go_upto_region 5 with fail
  go_cut [1] (fun s1 wx => s1 = .slice At n ct ∧ wx = W4)
  case first =>
    cases At with
    | none =>
      obtain rfl := hAt rfl
      obtain rfl : tl = 0 := by omega
      obtain rfl : n = 0 := by omega
      go_wp2_with fail
      go_meet
      exact ⟨rfl, HW4.out⟩
    | some ad =>
      go_wp2_with fail
      go_meet
      exact ⟨rfl, HW4.out⟩
  case rest =>
    obtain ⟨rfl, rfl⟩ := hcut
    clear hc hf i1 hAt HW4
    obtain ⟨i0, hi0, hz0, hz1, hz2⟩ := info_partsI i64info
    go_wp2_with fail
    go_loopw [44, 8] (fun s44 s8 wr => ∃ i : Nat, i ≤ n ∧ s44 = .int .i64 i ∧ Hid (Inv1 l T w2 wr i s8)) (fun s44 _ _ => n - (intOf s44).toNat)
    case atStart => exact ⟨0, Nat.zero_le _, rfl, HI⟩
    case round =>
      obtain ⟨i, hi, rfl, ⟨ge, cape, A2, c2, rfl, hrow, hblk, hn7, hnge, hbel⟩⟩ := hrel
      by_cases hlt : i < n
      · obtain ⟨⟨N, Wd⟩, hp⟩ : ∃ p, T[i]? = some p := ⟨_, List.getElem?_eq_getElem (by rw [← HN.out]; exact hlt)⟩
        obtain ⟨ad, rfl, hadl, q0, q1⟩ := (HT2.out.below hbel) i _ hp
        have q2 : wr.cell? ⟨(ad.add (i * 2)).block, (ad.add (i * 2)).off + 1, none⟩ = some (.int .u8 (Wd : Nat)) := by rw [← Deep.add_add] at q1; exact q1
        obtain ⟨bN, bW⟩ := HO.out _ (List.mem_of_getElem? hp)
        have HU := Lib.hid (upto_succ (a := l) hp)
        have hlen := upto_len l T i (by rw [← HN.out]; omega)
        have hlen2 := upto_len l T (i + 1) (by rw [← HN.out]; omega)
        have hb7 := lt_of_block hblk
        have hra := row_at hrow
        have HE := Lib.hid (endsOf_succ l T i)
        generalize upto l T i = x at *
        generalize hyy : upto l T (i + 1) = y at *
        generalize endsOf l T i = es at *
        generalize hes : endsOf l T (i + 1) = es2 at *
        have HY := Lib.hid hyy
        have HES := Lib.hid hes
        clear hyy hes
        obtain ⟨j0, j1, j2, j3⟩ := cells_two hblk
        have k0 : ∀ o, (wr.alloc o).cell? ⟨w2.heap.size, 0, none⟩ = some (.slice A2 (nB x) c2) := fun o => (World.cell?_alloc_lt wr o ⟨w2.heap.size, 0, none⟩ hb7).trans j0
        have k1 : ∀ o, (wr.alloc o).cell? ⟨w2.heap.size, 1, none⟩ = some (.int .i64 (x.length : Nat)) := fun o => (World.cell?_alloc_lt wr o ⟨w2.heap.size, 1, none⟩ hb7).trans j1
        have HROW := Lib.hid hrow
        have HBLK := Lib.hid hblk
        have HN7 := Lib.hid hn7
        have HNG := Lib.hid hnge
        have HBEL := Lib.hid hbel
        clear hp hrow hblk hn7 hnge hbel j0 j1 j2 j3
        go_wp2_with fail
        clear q0 q1 q2 k0 k1
        have hst : St (wr.alloc (.cells #[.int .u64 (N : Nat), .int .u8 (Wd : Nat)] 52)) (.agg #[.slice A2 (nB x) c2, .int .i64 (x.length : Nat)]) x := ⟨A2, c2, rfl, HN7.out.rd.alloc _, by omega⟩
        refine (put_any N Wd _ x _ hst bN bW (by omega)).mono ?_
        rintro e w5 ⟨g, v, rfl, ⟨rfl, ho⟩, hg, hb⟩
        rw [← HU.out] at ho ⊢
        simp only [World.size_alloc] at hg
        have hbA : Below wr.heap.size wr w5 := ((Below.refl _ _).alloc (Nat.le_refl _) _).trans (hb.mono (by simp))
        have hz5 : wr.heap.size < w5.heap.size := by have := hb.size; simp at this; omega
        have hgl := ho.lt
        have hB5 := blk_below HBLK.out hbA
        obtain ⟨j0, j1, j2, j3⟩ := cells_two hB5
        obtain ⟨w5', hw5'⟩ : ∃ w5', (w5.setCell ⟨w2.heap.size, 0, none⟩ (.slice (some ⟨g, 0, none⟩) (nB y) (nB y))).setCell ⟨w2.heap.size, 1, none⟩ (.int .i64 (y.length : Nat)) = w5' := ⟨_, rfl⟩
        have hng7 : g ≠ w2.heap.size := by omega
        have hge7 : ge ≠ w2.heap.size := by omega
        have hO5 : Own w5' g y := by rw [← hw5']; exact (ho.far hng7 _).far hng7 _
        have hB5' : w5'.heap[w2.heap.size]? = some (bo2 (some ⟨g, 0, none⟩) (nB y) (nB y) (y.length : Nat)) := by
          rw [← hw5']
          simp [World.setCell, Array.getElem?_modify, hB5]
        have hR5 : w5'.ownsRow (w2.heap.size + 1) 3 1 (.slice (some ⟨ge, 0, none⟩) (i + 1) cape) (i + 1) es := by
          rw [← hw5']
          exact row_far (row_far (row_below HROW.out hbA) hge7 _) hge7 _
        have hW5 : Below w2.heap.size w2 w5' := by
          rw [← hw5']
          exact ((next_below HBEL.out hbA).setCell (Nat.le_refl _) _).setCell (Nat.le_refl _) _
        have hz5' : w5'.heap.size = w5.heap.size := by rw [← hw5']; simp [World.setCell]
        have HS := Lib.hid hw5'
        have HO5 := Lib.hid hO5
        have HB5 := Lib.hid hB5'
        have HR5 := Lib.hid hR5
        have HW5 := Lib.hid hW5
        obtain ⟨m0, m1, _, _⟩ := cells_two hB5'
        clear hw5' hO5 hB5' hR5 hW5 hb hbA ho hB5 hst HROW HBLK HN7 HNG HBEL
        go_upto_region 11 with fail
        rw [HS.out]
        go_wp2_with fail
        refine (right_yes _ y _ _ _ _ HO5.out.rd rfl rfl (by omega)).mono ?_
        rintro e w6 ⟨rfl, hb⟩
        have hz6 := hb.size
        have HO6 := Lib.hid (HO5.out.below hb)
        have HB6 := Lib.hid (blk_below HB5.out hb)
        have HR6 := Lib.hid (World.ownsRow.alloc (row_below HR5.out hb) (.cells #[.int .i64 (y.length : Nat)] 3))
        have HW6 := Lib.hid ((next_below HW5.out hb).alloc (next_below HW5.out hb).size (.cells #[.int .i64 (y.length : Nat)] 3))
        obtain ⟨p0, p1, _, _⟩ := cells_two HB6.out
        have hnew := heap_alloc_new w6 (.cells #[.int .i64 (y.length : Nat)] 3)
        have HNW := Lib.hid hnew
        clear hb HO5 HB5 HR5 HW5 HS j0 j1 j2 j3 m0 m1 hnew
        go_wp2_with (at_builtin; refine wpList_append_lies _ rfl _ _ 50 rfl (w2.heap.size + 1) 3 i0 (.int .i64 0) 1 8 Try.underlying50 hi0 hz0 hz1 hz2 rfl (by decide) (.slice (some ⟨ge, 0, none⟩) (i + 1) cape) (i + 1) es rfl HR6.out ⟨w6.heap.size, 0, none⟩ 1 1 [iv y.length] rfl rfl (by intro j u hj; have hj0 : j = 0 := (by have := (List.getElem?_eq_some_iff.1 hj).1; simp at this; omega); subst hj0; rw [← hj, add_off]; exact cell_of HNW.out 0) (by simp [Value.oneCell']) (by omega) (by simp [maxLen]; omega) (by omega) (by simp; omega) _ rfl ?_; intro g' cap' w7 hrow7 hgr7 hor hlt7)
        go_roundw
        case rel =>
          have hgr : (w6.alloc (.cells #[.int .i64 (y.length : Nat)] 3)).grownBy w7 (some ge) := hgr7
          have hg7 : g ≠ g' := by
            rcases hor with h | h
            · simp [Value.ownBlock] at h; omega
            · simp at h; omega
          have hO7 := (HO6.out.alloc (.cells #[.int .i64 (y.length : Nat)] 3)).grown hgr (by omega)
          refine ⟨i + 1, by omega, by go_num, Lib.hid ⟨g', cap', some ⟨g, 0, none⟩, nB y, rfl, ?_, ?_, ?_, ?_, ?_⟩⟩
          · rw [HES.out, HE.out]; exact hrow7
          · rw [HY.out]
            exact (hgr.block w2.heap.size (by simp; omega) (by simp; omega)).trans ((Below.heap_alloc w6 _ w2.heap.size (by omega)).trans HB6.out)
          · rw [HY.out]; exact own_not hO7 hng7
          · rw [HY.out]; exact own_not hO7 hg7
          · exact HW6.out.grown hgr (by simp; omega) (by intro j hj; injection hj with hj; omega)
        case measure => simp [intOf]; omega
      · obtain rfl : i = n := by omega
        clear hlt hi hmin HI
        have hb7 := lt_of_block hblk
        have hra := row_at hrow
        have hge := upto_ge l T i
        have hle := upto_len l T i (by rw [← HN.out]; omega)
        have s1 : wr.cell? ⟨w.heap.size, 1, none⟩ = some (.int .i64 (l.length : Nat)) := by
          rw [hbel.cell (p := ⟨w.heap.size, 1, none⟩) hws, S2.out.olds.1 _ _ (by simp)]
          exact cell_of (heap_alloc_new w _) 1
        obtain ⟨j0, j1, _, _⟩ := cells_two hblk
        generalize hxx : upto l T i = x at *
        have HX := Lib.hid hxx
        obtain ⟨m, hm⟩ : ∃ m, x.length = l.length + m := ⟨x.length - l.length, by omega⟩
        obtain ⟨r, hr⟩ : ∃ r, r = cut % (m + 1) := ⟨_, rfl⟩
        have hrl : r ≤ m := by rw [hr]; have := Nat.mod_lt cut (show 0 < m + 1 by omega); omega
        have hv : (l.length : Int) + (cut : Int) % ((x.length : Int) - (l.length : Nat) + 1) = ((l.length + r : Nat) : Int) := by
          rw [show (x.length : Int) - (l.length : Nat) + 1 = ((m + 1 : Nat) : Int) by omega, hr]
          omega
        have HV := Lib.hid (show wrap64 ((l.length : Int) + (cut : Int) % ((x.length : Int) - (l.length : Nat) + 1)) = ((l.length + r : Nat) : Int) by rw [hv]; unfold wrap64; omega)
        have HM := Lib.hid hm
        have hxs : x.length ≤ 10000 := by omega
        clear hr hxx hv hm
        have HROW := Lib.hid hrow
        have HBLK := Lib.hid hblk
        have HN7 := Lib.hid hn7
        have HBEL := Lib.hid hbel
        clear hrow hblk hn7 hnge hbel
        go_upto_region 15 with fail
        go_quiet (fail)
        go_upto_region 16 with fail
        rw [HV.out]
        obtain ⟨k, hk⟩ : ∃ k, k = l.length + r := ⟨_, rfl⟩
        rw [← hk]
        have hk1 : l.length ≤ k := by omega
        have hk2 : k ≤ x.length := by have := HM.out; omega
        obtain ⟨wl, hwl⟩ : ∃ wl : World, wr.drewN nq = wl := ⟨_, rfl⟩
        have hbl : Below wr.heap.size wr wl := by rw [← hwl]; exact below_drewN (Below.refl _ _) nq
        rw [hwl]
        have SX := Lib.hid ((Bun.own (Bun.rd (Bun.below (show Bun (w.alloc (bo2 A (nB l) c (l.length : Nat))) wr [] [(A, l)] from S2.out.below HBEL.out) hbl) (rdnot_below HN7.out hbl).rd) (blk_below HBLK.out hbl)).own (blk_below (blk_below (heap_alloc_new w (bo2 A (nB l) c (l.length : Nat))) S2.out.2.2) HBEL.out |> (blk_below · hbl)))
        have HROW2 := Lib.hid (row_below HROW.out hbl)
        have HT3 := Lib.hid (HT2.out.below (next_below HBEL.out hbl))
        have hbw := Lib.hid (next_below HBEL.out hbl)
        clear hwl hk HV HM hbl HROW HBLK HN7 HBEL S2 s1 j0 j1 hb7 hra hge hle hrl HT2 HRA
        obtain ⟨f0, f1, _, _⟩ := SX.out.cells (g := w2.heap.size) (a := .slice A2 (nB x) c2) (b := .int .i64 (x.length : Nat)) (t := 24) (by simp)
        go_wp2_with fail
        refine (cut_any _ x 0 k _ (SX.out.st (A := A2) c2 (by simp) (by omega)) (by omega) (by omega)).mono ?_
        rintro e w8 ⟨gl, v, rfl, ⟨rfl, ho⟩, hgl, hb⟩
        rw [show (x.drop 0).take (k - 0) = x.take k by simp] at ho ⊢
        obtain ⟨z, hz⟩ : ∃ z, z = x.take k := ⟨_, rfl⟩
        have hzl : z.length = k := by rw [hz]; simp; omega
        rw [← hz] at ho ⊢
        have HZ := Lib.hid hz
        have HB2 := Lib.hid (hb.alloc hb.size (os gl z))
        have hgl2 := ho.lt
        have SY := Lib.hid (((SX.out.below hb).own ho).new (os gl z))
        have s1 : (w8.alloc (os gl z)).cell? ⟨w.heap.size, 1, none⟩ = some (.int .i64 (l.length : Nat)) := by
          rw [SY.out.olds.1 _ _ (by simp)]
          exact cell_of (heap_alloc_new w _) 1
        have HZL := Lib.hid hzl
        clear hb ho hz f0 f1 SX hzl
        obtain ⟨f0, f1, _, _⟩ := SY.out.cells (g := w2.heap.size) (a := .slice A2 (nB x) c2) (b := .int .i64 (x.length : Nat)) (t := 24) (by simp)
        go_wp2_with fail
        refine (cut_any _ x 0 l.length _ (SY.out.st (A := A2) c2 (by simp) (by omega)) (by omega) (by omega)).mono ?_
        rintro e w9 ⟨ga, v, rfl, ⟨rfl, ho⟩, hga, hb⟩
        have HXT : Hid ((x.drop 0).take (l.length - 0) = l) := by
          show _ = _
          rw [← HX.out]
          unfold upto
          simp
        rw [HXT.out] at ho ⊢
        have SZ := Lib.hid (((SY.out.below hb).own ho).new (os ga l))
        have HB3 := Lib.hid ((next_below HB2.out hb).alloc (next_below HB2.out hb).size (os ga l))
        clear hb ho f0 f1 SY s1 HB2 HXT
        obtain ⟨f0, f1, _, _⟩ := SZ.out.cells (g := w8.heap.size) (a := .slice (some ⟨gl, 0, none⟩) (nB z) (nB z)) (b := .int .i64 (z.length : Nat)) (t := 24) (by simp)
        have s0 : (w9.alloc (os ga l)).cell? ⟨w.heap.size, 0, none⟩ = some (.slice A (nB l) c) := by
          rw [SZ.out.olds.1 _ _ (by simp)]
          exact cell_of (heap_alloc_new w _) 0
        have s1 : (w9.alloc (os ga l)).cell? ⟨w.heap.size, 1, none⟩ = some (.int .i64 (l.length : Nat)) := by
          rw [SZ.out.olds.1 _ _ (by simp)]
          exact cell_of (heap_alloc_new w _) 1
        rw [HZL.out] at f1
        go_upto_region 18 with fail
        go_wp2_with fail
        refine (same_any _ _ l l _ (SZ.out.sv (by simp) (by omega)) (SZ.out.st (A := A) c (by simp) (by omega))).mono ?_
        rintro e wz ⟨rfl, hb⟩
        have SU := Lib.hid (SZ.out.below hb)
        have HROW3 := Lib.hid (row_below HROW2.out (next_below HB3.out hb))
        have HT4 := Lib.hid (HT3.out.below (next_below HB3.out hb))
        clear hb f0 f1 s0 s1 SZ HB3 HROW2 HT3
        rw [show decide (l = l) = true by simp]
        have HXL := Lib.hid (show (upto l T 0).length ≤ k by rw [upto_zero]; exact hk1)
        obtain ⟨n1, hn1⟩ : ∃ n1, n1 = i + 1 := ⟨_, rfl⟩
        rw [← hn1]
        have hn2 : i < n1 := by omega
        have hn3 : n1 ≤ i + 1 := by omega
        have HROW4 := Lib.hid (show wz.ownsRow (w2.heap.size + 1) 3 1 (.slice (some ⟨ge, 0, none⟩) n1 cape) n1 (endsOf l T i) by rw [hn1]; exact HROW3.out)
        clear hn1 HROW3
        go_wp2_with fail
        go_loopw [112] (fun s112 wq => ∃ j : Nat, j ≤ i ∧ s112 = .int .i64 j ∧ Hid ((upto l T j).length ≤ k) ∧ Hid (Below wz.heap.size wz wq)) (fun s112 _ => i - (intOf s112).toNat)
        case atStart => exact ⟨0, Nat.zero_le _, rfl, HXL, Lib.hid (Below.refl _ _)⟩
        case round =>
          obtain ⟨j, hj, rfl, hEj, hbq⟩ := hrel
          by_cases hlt : j < i
          · obtain ⟨⟨N, Wd⟩, hp⟩ : ∃ p, T[j]? = some p := ⟨_, List.getElem?_eq_getElem (by rw [← HN.out]; exact hlt)⟩
            obtain ⟨ad, rfl, hadl, q0, q1⟩ := (HT4.out.below hbq.out) j _ hp
            have q2 : wr.cell? ⟨(ad.add (j * 2)).block, (ad.add (j * 2)).off + 1, none⟩ = some (.int .u8 (Wd : Nat)) := by rw [← Deep.add_add] at q1; exact q1
            obtain ⟨bN, bW⟩ := HO.out _ (List.mem_of_getElem? hp)
            obtain ⟨g1, g2, g3⟩ := full_get (a := l) hp
            rw [← HN.out, HX.out] at g2 g3
            dsimp only at q0 q1 bN bW g1 g2 g3
            have hra := row_at (row_below HROW4.out hbq.out)
            have e0 := hra.2.2.2.1 j _ (endsOf_at l T hj)
            have e1 := hra.2.2.2.1 (j + 1) _ (endsOf_at l T (show j + 1 ≤ i by omega))
            have hcap : n1 ≤ cape := hra.2.2.1
            have hS7 := SU.out.below hbq.out
            obtain ⟨f0, f1, _, _⟩ := hS7.cells (g := w2.heap.size) (a := .slice A2 (nB x) c2) (b := .int .i64 (x.length : Nat)) (t := 24) (by simp)
            obtain ⟨h0, h1, _, _⟩ := hS7.cells (g := w8.heap.size) (a := .slice (some ⟨gl, 0, none⟩) (nB z) (nB z)) (b := .int .i64 (z.length : Nat)) (t := 24) (by simp)
            obtain ⟨W5, hW5⟩ : ∃ W5, wr.alloc (.cells #[.int .u64 (N : Nat), .int .u8 (Wd : Nat)] 52) = W5 := ⟨_, rfl⟩
            have hb5 : Below wr.heap.size wr W5 := by rw [← hW5]; exact (Below.refl _ _).alloc (Nat.le_refl _) _
            obtain ⟨t0, t1, _, _⟩ := cells_two (show W5.heap[wr.heap.size]? = some (.cells #[.int .u64 (N : Nat), .int .u8 (Wd : Nat)] 52 (0, 0)) by rw [← hW5]; exact heap_alloc_new wr _)
            have hb6 := next_below hbq.out hb5
            have CG : Hid (∀ w', (w'.cell? ⟨wr.heap.size, 0, none⟩ = some (.int .u64 (N : Nat)) ∧ w'.cell? ⟨wr.heap.size, 1, none⟩ = some (.int .u8 (Wd : Nat)) ∧ w'.cell? ⟨w2.heap.size, 0, none⟩ = some (.slice A2 (nB x) c2) ∧ w'.cell? ⟨w2.heap.size, 1, none⟩ = some (.int .i64 (x.length : Nat)) ∧ w'.cell? ⟨w8.heap.size, 0, none⟩ = some (.slice (some ⟨gl, 0, none⟩) (nB z) (nB z)) ∧ w'.cell? ⟨w8.heap.size, 1, none⟩ = some (.int .i64 (z.length : Nat)) ∧ w'.cell? ⟨ge, j, none⟩ = some (.int .i64 ((upto l T j).length : Nat)) ∧ w'.cell? ⟨ge, j + 1, none⟩ = some (.int .i64 ((upto l T (j + 1)).length : Nat)) ∧ Below W5.heap.size W5 w') → Calls Try.prog 34 #[tv N Wd, .agg #[.slice A2 (nB x) c2, .int .i64 (x.length : Nat)], .int .i64 (upto l T j).length] w' fun e w'' => e = .returned (.tuple #[.int .u64 (num N Wd : Nat), .int .i64 ((upto l T (j + 1)).length : Nat), .int .i64 0]) ∧ Below W5.heap.size W5 w'') := by
              intro w' hs
              have h := hs.2.2.2.2.2.2.2.2
              rw [g1]
              refine (get_ok N Wd _ _ x w' ((SU.out.below (next_below hb6 h)).st (A := A2) c2 (by simp) (by omega)) bW g2 g3).mono fun _ _ h2 => ⟨h2.1, next_below h h2.2⟩
            have CL : Hid ((upto l T (j + 1)).length ≤ k → ∀ w', (w'.cell? ⟨wr.heap.size, 0, none⟩ = some (.int .u64 (N : Nat)) ∧ w'.cell? ⟨wr.heap.size, 1, none⟩ = some (.int .u8 (Wd : Nat)) ∧ w'.cell? ⟨w2.heap.size, 0, none⟩ = some (.slice A2 (nB x) c2) ∧ w'.cell? ⟨w2.heap.size, 1, none⟩ = some (.int .i64 (x.length : Nat)) ∧ w'.cell? ⟨w8.heap.size, 0, none⟩ = some (.slice (some ⟨gl, 0, none⟩) (nB z) (nB z)) ∧ w'.cell? ⟨w8.heap.size, 1, none⟩ = some (.int .i64 (z.length : Nat)) ∧ w'.cell? ⟨ge, j, none⟩ = some (.int .i64 ((upto l T j).length : Nat)) ∧ w'.cell? ⟨ge, j + 1, none⟩ = some (.int .i64 ((upto l T (j + 1)).length : Nat)) ∧ Below W5.heap.size W5 w') → Calls Try.prog 34 #[tv N Wd, sv gl z, .int .i64 (upto l T j).length] w' fun e w'' => e = .returned (.tuple #[.int .u64 (num N Wd : Nat), .int .i64 ((upto l T (j + 1)).length : Nat), .int .i64 0]) ∧ Below W5.heap.size W5 w'') := by
              intro hk w' hs
              have h := hs.2.2.2.2.2.2.2.2
              rw [g1] at hk ⊢
              refine (get_ok N Wd _ _ z w' ((SU.out.below (next_below hb6 h)).sv (g := gl) (by simp) (by rw [HZL.out]; omega)) bW (by rw [HZL.out]; exact hk) (fun q hq => by rw [HZ.out, take_get _ (by omega)]; exact g3 q hq)).mono fun _ _ h2 => ⟨h2.1, next_below h h2.2⟩
            have CS : Hid (k < (upto l T (j + 1)).length → ∀ w', (w'.cell? ⟨wr.heap.size, 0, none⟩ = some (.int .u64 (N : Nat)) ∧ w'.cell? ⟨wr.heap.size, 1, none⟩ = some (.int .u8 (Wd : Nat)) ∧ w'.cell? ⟨w2.heap.size, 0, none⟩ = some (.slice A2 (nB x) c2) ∧ w'.cell? ⟨w2.heap.size, 1, none⟩ = some (.int .i64 (x.length : Nat)) ∧ w'.cell? ⟨w8.heap.size, 0, none⟩ = some (.slice (some ⟨gl, 0, none⟩) (nB z) (nB z)) ∧ w'.cell? ⟨w8.heap.size, 1, none⟩ = some (.int .i64 (z.length : Nat)) ∧ w'.cell? ⟨ge, j, none⟩ = some (.int .i64 ((upto l T j).length : Nat)) ∧ w'.cell? ⟨ge, j + 1, none⟩ = some (.int .i64 ((upto l T (j + 1)).length : Nat)) ∧ Below W5.heap.size W5 w') → Calls Try.prog 34 #[tv N Wd, sv gl z, .int .i64 (upto l T j).length] w' fun e w'' => e = .returned (.tuple #[.int .u64 0, .int .i64 0, .int .i64 10]) ∧ Below W5.heap.size W5 w'') := by
              intro hk w' hs
              have h := hs.2.2.2.2.2.2.2.2
              rw [g1] at hk
              refine (get_short N Wd _ _ z w' ((SU.out.below (next_below hb6 h)).sv (g := gl) (by simp) (by rw [HZL.out]; omega)) bW (by rw [HZL.out]; exact hEj.out) (by rw [HZL.out]; exact hk) (fun q hq => by rw [HZL.out] at hq; rw [HZ.out, take_get _ (by omega)]; exact g3 q (by omega))).mono fun _ _ h2 => ⟨h2.1, next_below h h2.2⟩
            have hEn := hEj.out
            have hE1 := upto_len l T (j + 1) (by rw [← HN.out]; omega)
            have HB6 := Lib.hid hb6
            have CN : Hid (∀ w', Calls Try.prog 35 #[tv N Wd] w' fun e w'' => e = .returned (.int .u64 (num N Wd : Nat)) ∧ Below w'.heap.size w' w'') := fun w' => number_any N Wd w' bN bW
            have HS : ∀ w', Below W5.heap.size W5 w' → (w'.cell? ⟨wr.heap.size, 0, none⟩ = some (.int .u64 (N : Nat)) ∧ w'.cell? ⟨wr.heap.size, 1, none⟩ = some (.int .u8 (Wd : Nat)) ∧ w'.cell? ⟨w2.heap.size, 0, none⟩ = some (.slice A2 (nB x) c2) ∧ w'.cell? ⟨w2.heap.size, 1, none⟩ = some (.int .i64 (x.length : Nat)) ∧
                w'.cell? ⟨w8.heap.size, 0, none⟩ = some (.slice (some ⟨gl, 0, none⟩) (nB z) (nB z)) ∧ w'.cell? ⟨w8.heap.size, 1, none⟩ = some (.int .i64 (z.length : Nat)) ∧ w'.cell? ⟨ge, j, none⟩ = some (.int .i64 ((upto l T j).length : Nat)) ∧ w'.cell? ⟨ge, j + 1, none⟩ = some (.int .i64 ((upto l T (j + 1)).length : Nat)) ∧ Below W5.heap.size W5 w') := by
              intro w' h
              have st : ∀ {p : Addr} {u : Value}, wr.cell? p = some u → w'.cell? p = some u := fun {p u} hp => by
                have hl := World.block_lt_of_cell? wr _ hp
                have h5 := (hb5.cell hl).trans hp
                exact (h.cell (World.block_lt_of_cell? W5 _ h5)).trans h5
              exact ⟨(h.cell (World.block_lt_of_cell? W5 _ t0)).trans t0, (h.cell (World.block_lt_of_cell? W5 _ t1)).trans t1, st f0, st f1, st h0, st h1, st e0, st e1, h⟩
            have HSS := Lib.hid HS
            have HW5 := Lib.hid hW5
            generalize num N Wd = nm at *
            generalize (upto l T j).length = a0 at *
            generalize hA1 : (upto l T (j + 1)).length = a1 at *
            have HA1 := Lib.hid hA1
            clear HS hW5 hb5 hb6 t0 t1 f0 f1 h0 h1 e0 e1 hra hS7 g1 g2 g3 hp hA1
            go_upto_region 23 with fail
            rw [HW5.out]
            have HS0 := Lib.hid (HSS.out W5.drew (Below.refl _ _).drew)
            clear q0 q1 q2 hadl hj
            have hI0 : (0 : Int) ≤ (j : Int) := by omega
            have hI1 : (j : Int) < (n1 : Nat) := by omega
            have hI2 : (j : Int) + 1 < (n1 : Nat) := by omega
            have hI3 : (0 : Int) ≤ (j : Int) + 1 := by omega
            go_region_held3 (fun w' => w'.cell? ⟨wr.heap.size, 0, none⟩ = some (.int .u64 (N : Nat)) ∧ w'.cell? ⟨wr.heap.size, 1, none⟩ = some (.int .u8 (Wd : Nat)) ∧ w'.cell? ⟨w2.heap.size, 0, none⟩ = some (.slice A2 (nB x) c2) ∧ w'.cell? ⟨w2.heap.size, 1, none⟩ = some (.int .i64 (x.length : Nat)) ∧ w'.cell? ⟨w8.heap.size, 0, none⟩ = some (.slice (some ⟨gl, 0, none⟩) (nB z) (nB z)) ∧ w'.cell? ⟨w8.heap.size, 1, none⟩ = some (.int .i64 (z.length : Nat)) ∧ w'.cell? ⟨ge, j, none⟩ = some (.int .i64 (a0 : Nat)) ∧ w'.cell? ⟨ge, j + 1, none⟩ = some (.int .i64 (a1 : Nat)) ∧ Below W5.heap.size W5 w')
              (first | exact hS | exact HS0.out)
              (first | (go_at_call 34; (with_reducible refine (CG.out _ (by assumption)).mono ?_); rintro e w6 ⟨rfl, hB⟩; have hS := HSS.out w6 hB))
            have HS6 := Lib.hid hS
            have HB7 := Lib.hid hB
            obtain ⟨t0, t1, _, _, _, _, _, e1, _⟩ := hS
            clear hB HS0 CG
            go_wp2_with fail
            refine (CN.out _).mono ?_
            rintro e w7 ⟨rfl, hb⟩
            have HB8 := Lib.hid (next_below HB7.out hb)
            obtain ⟨t0', t1', _, _, _, _, _, e1', _⟩ := HSS.out w7 HB8.out
            clear t0 t1 e1 hb HS6 HB7 CN
            go_upto_region 26 with fail
            have hmn : min (a0 : Int) (k : Nat) = (a0 : Nat) := by omega
            have HS0 := Lib.hid (HSS.out w7.drew HB8.out.drew)
            clear t0' t1' e1'
            by_cases hw : a1 ≤ k
            · have CL2 := Lib.hid (CL.out hw)
              clear CS CL
              go_region_held3 (fun w' => w'.cell? ⟨wr.heap.size, 0, none⟩ = some (.int .u64 (N : Nat)) ∧ w'.cell? ⟨wr.heap.size, 1, none⟩ = some (.int .u8 (Wd : Nat)) ∧ w'.cell? ⟨w2.heap.size, 0, none⟩ = some (.slice A2 (nB x) c2) ∧ w'.cell? ⟨w2.heap.size, 1, none⟩ = some (.int .i64 (x.length : Nat)) ∧ w'.cell? ⟨w8.heap.size, 0, none⟩ = some (.slice (some ⟨gl, 0, none⟩) (nB z) (nB z)) ∧ w'.cell? ⟨w8.heap.size, 1, none⟩ = some (.int .i64 (z.length : Nat)) ∧ w'.cell? ⟨ge, j, none⟩ = some (.int .i64 (a0 : Nat)) ∧ w'.cell? ⟨ge, j + 1, none⟩ = some (.int .i64 (a1 : Nat)) ∧ Below W5.heap.size W5 w')
                (first | exact hS | exact HS0.out)
                (first | (go_at_call 34; (with_reducible refine (CL2.out _ (by assumption)).mono ?_); rintro e wg ⟨rfl, hB⟩; have hS := HSS.out wg hB))
              have HBG := Lib.hid hB
              obtain ⟨_, _, _, _, _, _, _, e1, _⟩ := hS
              clear hB HS0 CL2
              go_wp2_with fail
              go_roundw
              case rel => exact ⟨j + 1, by omega, by go_num, Lib.hid (by rw [HA1.out]; exact hw), Lib.hid (next_below HB6.out HBG.out)⟩
              case measure => simp [intOf]; omega
            · have CS2 := Lib.hid (CS.out (by omega))
              clear CS CL
              go_region_held3 (fun w' => w'.cell? ⟨wr.heap.size, 0, none⟩ = some (.int .u64 (N : Nat)) ∧ w'.cell? ⟨wr.heap.size, 1, none⟩ = some (.int .u8 (Wd : Nat)) ∧ w'.cell? ⟨w2.heap.size, 0, none⟩ = some (.slice A2 (nB x) c2) ∧ w'.cell? ⟨w2.heap.size, 1, none⟩ = some (.int .i64 (x.length : Nat)) ∧ w'.cell? ⟨w8.heap.size, 0, none⟩ = some (.slice (some ⟨gl, 0, none⟩) (nB z) (nB z)) ∧ w'.cell? ⟨w8.heap.size, 1, none⟩ = some (.int .i64 (z.length : Nat)) ∧ w'.cell? ⟨ge, j, none⟩ = some (.int .i64 (a0 : Nat)) ∧ w'.cell? ⟨ge, j + 1, none⟩ = some (.int .i64 (a1 : Nat)) ∧ Below W5.heap.size W5 w')
                (first | exact hS | exact HS0.out)
                (first | (go_at_call 34; (with_reducible refine (CS2.out _ (by assumption)).mono ?_); rintro e wg ⟨rfl, hB⟩; have hS := HSS.out wg hB))
              have HBG := Lib.hid hB
              obtain ⟨_, _, _, _, _, _, _, e1, _⟩ := hS
              have hw2 : k < a1 := by omega
              clear hB HS0 CS2 hw
              go_wp2_with fail
              refine (awake_any _).mono ?_
              rintro e wa ⟨rfl, hb⟩
              go_wp2_with fail
              go_ret
              exact ⟨rfl, HF.out _ (next_below (next_below (next_below SU.out.2.2 HB6.out) HBG.out) hb)⟩
          · obtain rfl : j = i := by omega
            go_wp2_with fail
            refine (awake_any _).mono ?_
            rintro e wa ⟨rfl, hb⟩
            go_wp2_with fail
            go_ret
            exact ⟨rfl, HF.out _ (next_below (next_below SU.out.2.2 hbq.out) hb)⟩

theorem small_ofB {L : Int} {l : List Bool} {n : Nat} (hL : L = (l.length : Nat)) (h : gB L n = false) : l.length ≤ 2000 := by
  unfold gB at h
  rw [Bool.or_eq_false_iff] at h
  have := of_decide_eq_false h.1
  omega
theorem back_walk (v1 v2 : Value) (cut : Nat) (w : World) (h1 : OkStrand w v1) (h2 : OkThings w v2) (hcut : cut < 65536) :
    Calls Try.prog 4 #[v1, v2, .int .u16 cut] w fun e w' => e = .returned (.bool true) ∧ Below w.heap.size w w' := by
  obtain ⟨A, c, K, xs, rfl, hx, hrx, _⟩ := h1
  have slow := back_slow A c K xs v2 cut w hrx
  cases g1 : gB K xs.length
  case true => exact slow (.inl g1)
  cases r1 : rightB xs K
  case false => exact slow (.inr ⟨g1, r1⟩)
  obtain ⟨a, ha, la, ra, _, _⟩ := bits_st (c := c) hx hrx r1
  have ga := small_ofB ha g1
  rw [ha, la]
  obtain ⟨At, ct, T, rfl, hO, hT, h3, h4, h5⟩ := h2
  refine back_main A c a At ct T.length (T.take 30) cut w ra ga (fun i p hp => ?_) (fun p hp => hO p (List.mem_of_mem_take hp)) (by simp; omega) h3 h4 h5 hcut
  rw [List.getElem?_take] at hp
  split at hp
  · exact hT i p hp
  · cases hp
end Go.Proofs.Ytgljaimoaijcaaa
