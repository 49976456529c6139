/- bridge.Fragments (layer 8). -/
import Derived.Test.YtlkddjpjhchjfaaH8
import Derived.Test.YtlkddjpjhchjfaaH4
import Derived.Test.YtlkddjpjhchjfaaU4
import Derived.Test.YtlkddjpjhchjfaaW22
namespace Go.Proofs.Ytlkddjpjhchjfaa
set_option maxRecDepth 100000
open Go.RowKit

theorem boolinfo : (Try.prog.info? 4).map (fun i => (i.zero, i.size, i.bytes)) = some (some (.bool false), 1, 1) := by kernel_rfl
theorem make_bools (n : Nat) (hn : n ≤ 1000000) (w : World) : (Instr.makeSlice 65 (.int .i64 n) (.int .i64 n)).run Try.prog w = .ok (.slice (some ⟨w.heap.size, 0, none⟩) n n) (w.alloc (.cells ((List.replicate n false).map Value.bool).toArray 4)) := by
  obtain ⟨i2, hi2, hx0, hx1, hx2⟩ := info_partsI boolinfo
  have hr := run_make (P := Try.prog) w 65 4 i2 (.bool false) Try.underlying65 hi2 hx0 .i64 .i64 n n (by omega) (by omega) (by rw [hx2]; omega) (by omega)
  rw [hx1, Nat.mul_one] at hr
  rw [hr]
  congr 3
  apply Array.ext'
  show (madeCells #[Value.bool false] n).toList = _
  rw [toList_madeCells_one]
  simp
/-- A row of truths in a block. -/
def OwnB (w : World) (B : Nat) (l : List Bool) : Prop := w.heap[B]? = some (.cells (l.map Value.bool).toArray 4 (0, 0))
theorem OwnB.set {w : World} {B : Nat} {l : List Bool} (h : OwnB w B l) (v : Nat) (x : Bool) : OwnB (w.setCell ⟨B, v, none⟩ (.bool x)) B (l.set v x) := by
  show _ = _
  rw [Go.Joins.block_setCell h, List.map_set]
  simp
theorem OwnB.rd {w : World} {B n : Nat} {on : Nat → Bool} {l : List Bool} (h : OwnB w B l) (hl : ∀ v, v < n → l[v]? = some (on v)) : RdO w (some ⟨B, 0, none⟩) n on := by
  intro v hv
  refine ⟨_, rfl, lt_of_block h, ?_⟩
  rw [add_off, cell_of h]
  simp [hl v hv]
theorem rightG_nodup {N : Int} {E : List (Int × Int)} (h : rightG N E = true) : E.Nodup := by
  have ho := rightG_ord h
  rw [List.Nodup, List.pairwise_iff_getElem]
  intro i j hi hj hij e
  have h1 := ho i j hij hj
  rw [show E.getD i (0, 0) = E[i] by simp [List.getD, hi], show E.getD j (0, 0) = E[j] by simp [List.getD, hj], e] at h1
  rw [(cmpP_zero _ _).2 rfl] at h1
  omega
set_option maxHeartbeats 32000000 in
theorem frags_any (A B : Option Addr) (c d n m : Nat) (N : Int) (E W : List (Int × Int)) (w : World) (hE : RdP w A E) (hW : RdP w B W) (hn : n = E.length) (hm : m = W.length) (hmd : m ≤ d) (hd : d ≤ 9223372036854775807) :
    Calls Try.prog 43 #[.agg #[.int .i64 N, .slice A n c], .slice B m d] w fun e w' => ∃ V fr, e = .returned (.tuple #[V, .int .i64 (fragsT N E W).2]) ∧ Frags w' w.heap.size V fr (fragsT N E W).1 ∧ Below w.heap.size w w' := by
  obtain ⟨FT, hFT⟩ : ∃ FT, FT = fragsT N E W := ⟨_, rfl⟩
  rw [← hFT]
  obtain ⟨X, hX⟩ : ∃ X, X = w.alloc (.cells #[.int .i64 N, .slice A n c] 24) := ⟨_, rfl⟩
  have hb : Below w.heap.size w X := by rw [hX]; exact (Below.refl _ _).alloc (Nat.le_refl _) _
  have hXS : w.heap.size < X.heap.size := by rw [hX]; simp
  obtain ⟨j0, j1, _, _⟩ := cells_two (w := X) (by rw [hX]; exact heap_alloc_new w _)
  have HJ : Hid (∀ w', Below X.heap.size X w' → w'.cell? ⟨w.heap.size, 0, none⟩ = some (.int .i64 N) ∧ w'.cell? ⟨w.heap.size, 1, none⟩ = some (.slice A n c)) := fun w' hb =>
    ⟨by rw [hb.cell (by show w.heap.size < _; omega)]; exact j0, by rw [hb.cell (by show w.heap.size < _; omega)]; exact j1⟩
  have HR := Lib.hid (right_any A c n N E X (hE.below hb) hn)
  have HE := Lib.hid (hE.below hb)
  have HW := Lib.hid (hW.below hb)
  have HN := Lib.hid hn
  have HM := Lib.hid hm
  have HX := Lib.hid hX
  have HB := Lib.hid hb
  have HFT := Lib.hid hFT
  have HBX := Lib.hid (Below.refl X.heap.size X)
  clear hE hW hn hm hX hb hFT
  go_enter Try.func43, Try.ntmps43
  go_wp2_with fail
  rw [← HX.out]
  refine HR.out.mono ?_
  rintro e w1 ⟨rfl, hb1⟩
  have HB1 := Lib.hid hb1
  clear hb1 j0 j1
  cases hg : rightG N E with
  | false =>
    go_wp2_with fail
    go_ret2
    have hF : FT = ([], 20) := by rw [HFT.out]; unfold fragsT; rw [if_pos hg]
    subst hF
    exact ⟨_, [], rfl, Frags.nil _ _, HB.out.trans (HB1.out.mono (by omega))⟩
  | true =>
    obtain ⟨hN0, hN2, hEl⟩ := rightG_bounds hg
    obtain ⟨Nn, rfl⟩ := Int.eq_ofNat_of_zero_le hN0
    have HG := Lib.hid hg
    obtain ⟨j0, j1⟩ := HJ.out w1 HB1.out
    have hn6 : n ≤ 594 := by rw [HN.out]; exact hEl
    have HLF := Lib.hid (left_any A B c d n m E W w1 (HE.out.below HB1.out) (HW.out.below HB1.out) HN.out HM.out (by omega) hmd hd)
    obtain ⟨LL, hLL⟩ : ∃ LL, (leftP W E n).1 = LL := ⟨_, rfl⟩
    obtain ⟨ok, hok⟩ : ∃ ok, decide ((leftP W E n).2 = m) = ok := ⟨_, rfl⟩
    rw [hLL, hok] at HLF
    have HLL := Lib.hid hLL
    have HOK := Lib.hid hok
    have hlz : LL.length ≤ n := by
      have := (leftP_le W E n).2
      rw [hLL] at this
      omega
    clear hLL hok hg
    go_wp2_with fail
    refine HLF.out.mono ?_
    rintro e w2 ⟨V, rfl, hrow, hb2⟩
    have HB2 := Lib.hid (next_below HB1.out hb2)
    obtain ⟨BV, cV, rfl, hrd, _, _⟩ := own_rdP hrow
    have HRD := Lib.hid hrd
    clear hrow hb2 hrd j0 j1
    cases ok with
    | false =>
      go_wp2_with fail
      go_ret2
      have hF : FT = ([], 2) := by
        rw [HFT.out]
        unfold fragsT
        rw [if_neg (by rw [HG.out]; simp), if_neg]
        have := HOK.out
        rw [HN.out, HM.out] at this
        simpa using this
      subst hF
      exact ⟨_, [], rfl, Frags.nil _ _, HB.out.trans (HB2.out.mono (by omega))⟩
    | true =>
      have hok2 : (leftP W E E.length).2 = W.length := by
        have := HOK.out
        rw [HN.out, HM.out] at this
        simpa using this
      have hF : FT = (fragsF Nn E W, 0) := by
        rw [HFT.out]
        unfold fragsT
        rw [if_neg (by rw [HG.out]; simp), if_pos hok2]
        rfl
      subst hF
      have hsubs := leftP_rest (W := W) (rightG_nodup HG.out) hok2
      have HWIN : Hid (∀ e ∈ W, 0 ≤ e.1 ∧ e.1 < e.2 ∧ e.2 < Nn) := by
        intro e he
        obtain ⟨q, hq⟩ := List.getElem?_of_mem (hsubs.1.subset he)
        exact rightG_edge HG.out hq
      have HLIN : Hid (∀ e ∈ LL, 0 ≤ e.1 ∧ e.1 < Nn ∧ 0 ≤ e.2 ∧ e.2 < Nn) := by
        intro e he
        have h1 : LL = E.filter (fun e => decide (e ∉ W)) := by rw [← HLL.out, HN.out]; exact hsubs.2
        rw [h1] at he
        obtain ⟨q, hq⟩ := List.getElem?_of_mem (List.mem_filter.1 he).1
        have := rightG_edge HG.out hq
        omega
      obtain ⟨j0, j1⟩ := HJ.out w2 HB2.out
      have hmk := make_bools Nn (by omega) w2
      obtain ⟨w3, hw3⟩ : ∃ w3, w3 = w2.alloc (.cells ((List.replicate Nn false).map Value.bool).toArray 4) := ⟨_, rfl⟩
      rw [← hw3] at hmk
      have hb3 : Below w2.heap.size w2 w3 := by rw [hw3]; exact (Below.refl _ _).alloc (Nat.le_refl _) _
      have HO3 : Hid (OwnB w3 w2.heap.size (onL Nn W 0)) := by
        show _ = _
        rw [onL_zero, hw3]
        exact heap_alloc_new w2 _
      have HB3 := Lib.hid hb3
      clear hsubs hok2 hw3 hb3
      go_wp2_with fail
      clear hmk j0 j1
      go_loopw [28] (fun s wr => ∃ k : Nat, k ≤ m ∧ s = .int .i64 k ∧ Hid (OwnB wr w2.heap.size (onL Nn W k)) ∧ Hid (Below w2.heap.size w2 wr)) (fun s _ => m - (intOf s).toNat)
      case atStart => exact ⟨0, Nat.zero_le _, rfl, HO3, HB3⟩
      case round =>
        obtain ⟨k, hk, rfl, hO, hbr⟩ := hrel
        by_cases h1 : k < m
        · have t1 : decide ((k : Int) < (m : Int)) = true := by simp; omega
          have hK0 : (0 : Int) ≤ (k : Int) := by omega
          have hK1 : (k : Int) < (m : Nat) := by omega
          obtain ⟨e, he⟩ : ∃ e, W[k]? = some e := ⟨_, List.getElem?_eq_getElem (by rw [← HM.out]; exact h1)⟩
          obtain ⟨x0, x1, y1⟩ := HWIN.out e (List.mem_of_getElem? he)
          obtain ⟨ad, rfl, _, p0, p1⟩ := (HW.out.below (next_below HB2.out hbr.out)) k e he
          obtain ⟨ex, ey⟩ := e
          simp only at x0 x1 y1 p0 p1
          obtain ⟨x, rfl⟩ := Int.eq_ofNat_of_zero_le x0
          obtain ⟨y, rfl⟩ := Int.eq_ofNat_of_zero_le (show 0 ≤ ey by omega)
          have hxn : x < Nn := by omega
          have hyn : y < Nn := by omega
          have HST := Lib.hid (onL_step he hxn hyn)
          have hbY : Below wr.heap.size wr (wr.alloc (.cells #[.int .i64 (x : Nat), .int .i64 (y : Nat)] 51)) := (Below.refl _ _).alloc (Nat.le_refl _) _
          have hEB : (wr.alloc (.cells #[.int .i64 (x : Nat), .int .i64 (y : Nat)] 51)).heap[wr.heap.size]? = some (.cells #[.int .i64 (x : Nat), .int .i64 (y : Nat)] 51 (0, 0)) := heap_alloc_new wr _
          have HOY : Hid (OwnB (wr.alloc (.cells #[.int .i64 (x : Nat), .int .i64 (y : Nat)] 51)) w2.heap.size (onL Nn W k)) := blk_below hO.out hbY
          have HBY := Lib.hid (hbr.out.trans (hbY.mono hbr.out.size))
          have hpe0 : w2.heap.size < wr.heap.size := lt_of_block hO.out
          clear he hbY hO
          go_upto_region 10 with fail
          obtain ⟨pe, hpe⟩ : ∃ pe, wr.heap.size = pe := ⟨_, rfl⟩
          generalize wr.alloc (.cells #[.int .i64 (x : Nat), .int .i64 (y : Nat)] 51) = Y at *
          rw [hpe] at hEB hpe0 ⊢
          clear p0 p1 hpe
          obtain ⟨r0, r1, _, _⟩ := cells_two hEB
          have hpel := lt_of_block hEB
          have q0 : Y.cell? ⟨w2.heap.size, x, none⟩ = some (.bool ((onL Nn W k).getD x false)) := by
            rw [cell_of HOY.out]
            simp [List.getD, onL_length, hxn]
          have q1 : Y.cell? ⟨w2.heap.size, y, none⟩ = some (.bool ((onL Nn W k).getD y false)) := by
            rw [cell_of HOY.out]
            simp [List.getD, onL_length, hyn]
          have q2 : Y.frozen? ⟨w2.heap.size, x, none⟩ = false := free_of HOY.out x
          have q3 : Y.frozen? ⟨w2.heap.size, y, none⟩ = false := free_of HOY.out y
          generalize (onL Nn W k).getD x false = bx at q0
          generalize (onL Nn W k).getD y false = yb at q1
          obtain ⟨z0, z1⟩ : (0 : Int) ≤ (x : Int) ∧ (x : Int) < (Nn : Nat) := by omega
          obtain ⟨z2, z3⟩ : (0 : Int) ≤ (y : Int) ∧ (y : Int) < (Nn : Nat) := by omega
          have hxy : ¬ x = y := by omega
          have hne : ¬ pe = w2.heap.size := by omega
          clear hEB
          go_region
          go_wp2_with fail
          go_roundw
          case rel =>
            refine ⟨k + 1, by omega, by go_num, ?_, ?_⟩
            · show OwnB _ _ _
              rw [← HST.out]
              exact (HOY.out.set x true).set y true
            · show Below _ _ _
              exact ((HBY.out.setCell (Nat.le_refl _) _).setCell (Nat.le_refl _) _).drew
          case measure => simp [intOf]; omega
        · obtain rfl : k = m := by omega
          have t1 : decide ((k : Int) < (k : Int)) = false := by simp
          go_wp2_with fail
          have hon : RdO wr (some ⟨w2.heap.size, 0, none⟩) Nn (onW W) := hO.out.rd (fun v hv => by
            have h9 : W.take k = W := by rw [HM.out]; exact List.take_length
            simp [onL, hv, h9])
          have hRD : RdP wr BV LL := HRD.out.below hbr.out
          have hn6' : LL.length ≤ 1000000 := by omega
          refine (owner_any Nn LL.length BV (some ⟨w2.heap.size, 0, none⟩) cV Nn LL (onW W) wr rfl hn6' (by omega) hRD hon HLIN.out).mono ?_
          rintro e w5 ⟨pf, rfl, c0, c1, c2, c3, hp1, hp2, ⟨H, r, dd, hUF, hOH, hcn⟩, hb5⟩
          have hwr5 : wr.heap.size + 4 ≤ w5.heap.size := by omega
          have hL5 : ∀ w', Only (wr.heap.size + 2) w5 w' → Below wr.heap.size wr w' := fun w' h => h.below hb5 (by omega) (by omega)
          have hga := gathered_any Nn LL.length wr.heap.size (wr.heap.size + 1) pf (wr.heap.size + 3) (wr.heap.size + 2) BV (some ⟨w2.heap.size, 0, none⟩) cV Nn LL (onW W) r dd w5 rfl hn6' (by omega) ⟨H, hUF, hOH⟩
            (fun w' h => ⟨(h.cell (by omega) (by omega)).trans c0, (h.cell (by omega) (by omega)).trans c1, (h.cell (by omega) (by omega)).trans c2, (h.cell (by omega) (by omega)).trans c3⟩)
            (fun w' h => hRD.below (hL5 w' h)) (fun w' h => hon.below (hL5 w' h)) (by omega) (by omega) (by omega) HLIN.out
          have hLe : (leftP W E E.length).1 = LL := by rw [← HLL.out, HN.out]
          have hfF := fragsF_is (n := Nn) (E := E) (W := W) (r := r) (by rw [hLe]; exact HLIN.out) hUF.rlt (by rw [hLe]; exact hcn)
          rw [hLe] at hfF
          rw [hfF] at hga
          have HGA := Lib.hid hga
          have HL5 := Lib.hid hL5
          clear hga hL5 hfF hLe hon hRD c0 c1 c2 c3 hUF hOH hcn hb5
          go_wp2_with fail
          refine HGA.out.mono ?_
          rintro e w6 ⟨V6, fr6, rfl, hFR, hO6⟩
          have HFR := Lib.hid hFR
          have HB6 := Lib.hid (HL5.out w6 hO6)
          clear hFR hO6
          go_wp2_with fail
          go_ret2
          have hs1 := hbr.out.size
          have hs2 := HB2.out.size
          have hs3 := HB.out.size
          exact ⟨V6, rfl, ⟨fr6, HFR.out.less (by omega)⟩, HB.out.trans ((HB2.out.mono hs3).trans ((hbr.out.mono (by omega)).trans (HB6.out.mono (by omega))))⟩
end Go.Proofs.Ytlkddjpjhchjfaa
