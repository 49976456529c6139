/- The walk of StrandKnots. -/
import Derived.Test.YtgljaimoaijcaaaB5
namespace Go.Proofs.Ytgljaimoaijcaaa
open Go.RowKit

theorem bits_st {w : World} {A : Option Addr} {c : Nat} {L : Int} {xs : List Int} (hx : isBytes xs) (hr : RdB w A xs) (h : rightB xs L = true) :
    ∃ l : List Bool, L = (l.length : Nat) ∧ xs.length = nB l ∧ Rd w A l ∧ l.length ≤ 4194304 ∧ St w (.agg #[.slice A xs.length c, .int .i64 L]) l := by
  obtain ⟨l, hL, hm, hlen, hq⟩ := rightB_bits xs L hx h
  have hrd : Rd w A l := fun q hqq => by
    obtain ⟨ad, e, hb, hc⟩ := hr q _ (hq q hqq)
    exact ⟨ad, e, hb, hc⟩
  exact ⟨l, hL, hlen, hrd, hm, A, c, by rw [hL, hlen], hrd, hm⟩

theorem not_great {l : List Bool} (h : l.length ≤ 2000) : (decide ((2000 : Int) < (l.length : Nat)) || decide (250 < nB l)) = false := by
  rw [Bool.or_eq_false_iff]
  exact ⟨decide_eq_false (by omega), decide_eq_false (by unfold nB; omega)⟩

set_option maxRecDepth 100000 in
set_option maxHeartbeats 8000000 in
theorem knots_main (n m : Nat) (A : Option Addr) (c : Nat) (l : List Bool) (w : World) (hr : Rd w A l) (hl2 : l.length ≤ 2000) :
    Calls Try.prog 6 #[.int .u64 n, .int .u64 m, .agg #[.slice A (nB l) c, .int .i64 (l.length : Nat)]] w fun e w' => e = .returned (.bool true) ∧ Below w.heap.size w w' := by
  have HD := Lib.hid hr
  clear hr
  go_enter Try.func6, Try.ntmps6
  go_wp2_with fail
  refine (great_any A _ c _ _).mono ?_
  rintro e w1 ⟨rfl, hb1⟩
  rw [not_great hl2]
  obtain ⟨hc, hf⟩ := old_cells hb1
  have hR1 := Lib.hid ((HD.out.alloc _).below hb1)
  go_wp2_with fail
  refine (right_yes A l _ c _ _ hR1.out rfl rfl (by omega)).mono ?_
  rintro e w2 ⟨rfl, hb2⟩
  clear hc hf
  go_upto_region 3 with fail
  go_cut [0, 1] (fun s0 s1 wx => wx = w2 ∧ ∃ a b : Nat, s0 = .int .u64 a ∧ s1 = .int .u64 b ∧ a ≤ b ∧ b ≤ 18446744073709551614)
  case first =>
    go_wp2_with fail
    all_goals
      go_meet
      exact ⟨rfl, min (min n m) 18446744073709551614, min (max n m) 18446744073709551614, by congr 1; omega, by congr 1; omega, by omega, by omega⟩
  case rest =>
    obtain ⟨rfl, a, b, rfl, rfl, hab, hb⟩ := hcut
    have hS0 := Lib.hid (hR1.out.below hb2)
    have hW := ((Below.refl w.heap.size w).alloc (Nat.le_refl _) (.cells #[.slice A (nB l) c, .int .i64 (l.length : Nat)] 24)).trans ((next_below hb1 hb2).mono (by simp))
    have hbox := (next_below hb1 hb2).block w.heap.size (by simp)
    rw [heap_alloc_new] at hbox
    have H0 := Lib.hid ((Has.nil_ wc).cons hbox)
    have HW := Lib.hid hW
    have HAB := Lib.hid hab
    clear hW hbox hb1 hb2 hR1 HD
    have hka : a < 18446744073709551615 := by omega
    have hkb : b < 18446744073709551615 := by omega
    go_wp2_with fail
    refine (knots_one _ a _ hka (heap_alloc_new wc _)).mono ?_
    rintro e w3 ⟨ga, v, rfl, ⟨rfl, ho⟩, hg3, hb3⟩
    have H3 := Lib.hid (((H0.out.alloc _).below hb3).cons ho)
    have hW3 := (HW.out.alloc HW.out.size (.cells #[.int .u64 (a : Nat)] 25)).trans (hb3.mono (HW.out.alloc HW.out.size _).size)
    have HW3 := Lib.hid hW3
    have hS3 := Lib.hid ((hS0.out.alloc _).below hb3)
    clear ho hg3 hb3 hW3 H0 HW hS0
    go_wp2_with fail
    refine (knots_one _ b _ hkb (heap_alloc_new w3 _)).mono ?_
    rintro e w4 ⟨gb, v, rfl, ⟨rfl, ho⟩, hg4, hb4⟩
    have H4 := Lib.hid (((((H3.out.alloc _).below hb4).cons ho).new (os ga (knot a))).new (os gb (knot b)))
    have hW4 := (HW3.out.alloc HW3.out.size (.cells #[.int .u64 (b : Nat)] 25)).trans (hb4.mono (HW3.out.alloc HW3.out.size _).size)
    have HW4 := Lib.hid ((hW4.alloc hW4.size (os ga (knot a))).alloc (hW4.alloc hW4.size (os ga (knot a))).size (os gb (knot b)))
    have hS4 := Lib.hid ((((hS3.out.alloc _).below hb4).alloc (os ga (knot a))).alloc (os gb (knot b)))
    clear ho hg4 hb4 hW4 H3 HW3 hS3
    obtain ⟨x1, x2, _, _⟩ := cells_two (H4.out.get (g := w.heap.size) (o := .cells #[.slice A (nB l) c, .int .i64 (l.length : Nat)] 24) (by simp))
    have hla := (lead_bounds a hka)
    have hlb := (lead_bounds b hkb)
    have hka' : (knot a).length ≤ 200 := by omega
    have hkb' : (knot b).length ≤ 200 := by omega
    have HLA := Lib.hid hla
    have HLB := Lib.hid hlb
    clear hla hlb
    go_wp2_with fail
    refine (join_any _ _ (knot a) l _ (own_st (H4.out.get (o := ob (knot a)) (by simp)) (by omega)) ⟨A, c, rfl, hS4.out, by omega⟩ (by omega)).mono ?_
    rintro e w5 ⟨gj, v, rfl, ⟨rfl, ho⟩, hg5, hb5⟩
    have hjl : (knot a ++ l).length ≤ 4000 := by simp; omega
    have HJ : Hid ((∀ i, i < lead a → (knot a ++ l).getD (0 + i) false = false) ∧ (knot a ++ l).getD (0 + lead a) false = true ∧ numAt (knot a ++ l) (0 + lead a) (lead a + 1) - 1 = a) :=
      knot_reads _ 0 a hka (fun i hi => by rw [Nat.zero_add, getD_append, if_pos (by have := HLA.out.2.2.2; omega)])
    have HJ2 : Hid ((knot a ++ l).length = (knot a).length + l.length) := by show _ = _; simp
    generalize hlj : knot a ++ l = lj at *
    clear hlj
    have H5 := Lib.hid (((H4.out.below hb5).cons ho).new (os gj lj))
    have hW5 := HW4.out.trans (hb5.mono HW4.out.size)
    have HW5 := Lib.hid (hW5.alloc hW5.size (os gj lj))
    clear ho hg5 hb5 hW5 H4 HW4 hS4 x1 x2
    obtain ⟨x1, x2, _, _⟩ := cells_two (H5.out.get (g := w4.heap.size) (o := os ga (knot a)) (by simp))
    obtain ⟨y1, y2, _, _⟩ := cells_two (H5.out.get (g := (w4.alloc (os ga (knot a))).heap.size) (o := os gb (knot b)) (by simp))
    simp only [World.size_alloc] at y1 y2
    have o1 : (((knot a).length : Int) % 2 != 1) = false := by have := HLA.out.2.2.2; simp; omega
    have o2 : (((knot b).length : Int) % 2 != 1) = false := by have := HLB.out.2.2.2; simp; omega
    have o3 : decide ((knot b).length < (knot a).length) = false := by have := knot_mono hkb HAB.out; simp; omega
    by_cases hne : a = b
    case' pos =>
      have o4 : ((a : Int) != (b : Int)) = false := by simp [hne]
      clear hne
      go_wp2_with fail
      have H6 := H5
      have HW6 := HW5
      clear H5 HW5 x1 x2 y1 y2
    case' neg =>
      have o4 : ((a : Int) != (b : Int)) = true := by simp; omega
      have HNE := Lib.hid hne
      clear hne
      go_wp2_with fail
      refine (same_any _ _ (knot a) (knot b) _ (own_st (H5.out.get (o := ob (knot a)) (by simp)) (by omega)) (own_st (H5.out.get (o := ob (knot b)) (by simp)) (by omega))).mono ?_
      rintro e w6 ⟨rfl, hb6⟩
      rw [show decide (knot a = knot b) = false from decide_eq_false (fun h => HNE.out (knot_inj hka hkb h))]
      have H6 := Lib.hid (H5.out.below hb6)
      have HW6 := Lib.hid (HW5.out.trans (hb6.mono HW5.out.size))
      clear hb6 H5 HW5 x1 x2 y1 y2
      obtain ⟨p1, p2, _, _⟩ := cells_two (H6.out.get (g := w5.heap.size) (o := os gj lj) (by simp))
      go_wp2_with fail
      clear p1 p2
    all_goals
      refine (getKnot_ok _ lj 0 (lead a) _ (own_st (H6.out.get (o := ob lj) (by simp)) (by omega)) HLA.out.2.2.1 (by have := HLA.out.2.2.2; have := HJ2.out; omega) HJ.out.1 HJ.out.2.1).mono ?_
      rintro e w7 ⟨rfl, hb7⟩
      rw [HJ.out.2.2, show 0 + 2 * lead a + 1 = (knot a).length by have := HLA.out.2.2.2; omega]
      have H7 := Lib.hid (H6.out.below hb7)
      have HW7 := Lib.hid (HW6.out.trans (hb7.mono HW6.out.size))
      clear hb7 H6 HW6
      obtain ⟨x1, x2, _, _⟩ := cells_two (H7.out.get (g := w4.heap.size) (o := os ga (knot a)) (by simp))
      obtain ⟨y1, y2, _, _⟩ := cells_two (H7.out.get (g := (w4.alloc (os ga (knot a))).heap.size) (o := os gb (knot b)) (by simp))
      simp only [World.size_alloc] at y1 y2
      go_wp2_with fail
      refine (knot_any _ (knot a) b _ (own_st (H7.out.get (o := ob (knot a)) (by simp)) (by omega)) hkb (by omega)).mono ?_
      rintro e w8 ⟨gk, v, rfl, ⟨rfl, ho⟩, hg8, hb8⟩
      have hkl : (knot a ++ knot b).length ≤ 400 := by simp; omega
      have HK : Hid ((∀ i, i < lead b → (knot a ++ knot b).getD ((knot a).length + i) false = false) ∧ (knot a ++ knot b).getD ((knot a).length + lead b) false = true ∧ numAt (knot a ++ knot b) ((knot a).length + lead b) (lead b + 1) - 1 = b) :=
        knot_reads _ _ b hkb (fun i hi => by rw [getD_append, if_neg (by omega)]; congr 1; omega)
      have HK2 : Hid ((knot a ++ knot b).length = (knot a).length + (knot b).length) := by show _ = _; simp
      generalize hlk : knot a ++ knot b = lk at *
      clear hlk
      have H8 := Lib.hid (((H7.out.below hb8).cons ho).new (os gk lk))
      have hW8 := HW7.out.trans (hb8.mono HW7.out.size)
      have HW8 := Lib.hid (hW8.alloc hW8.size (os gk lk))
      clear ho hg8 hb8 hW8 H7 HW7 x1 x2 y1 y2
      obtain ⟨x1, x2, _, _⟩ := cells_two (H8.out.get (g := w4.heap.size) (o := os ga (knot a)) (by simp))
      obtain ⟨y1, y2, _, _⟩ := cells_two (H8.out.get (g := (w4.alloc (os ga (knot a))).heap.size) (o := os gb (knot b)) (by simp))
      simp only [World.size_alloc] at y1 y2
      go_wp2_with fail
      refine (getKnot_ok _ lk (knot a).length (lead b) _ (own_st (H8.out.get (o := ob lk) (by simp)) (by omega)) HLB.out.2.2.1 (by have := HLB.out.2.2.2; have := HK2.out; omega) HK.out.1 HK.out.2.1).mono ?_
      rintro e w9 ⟨rfl, hb9⟩
      rw [HK.out.2.2]
      have H9 := Lib.hid (H8.out.below hb9)
      have HW9 := Lib.hid (HW8.out.trans (hb9.mono HW8.out.size))
      clear hb9 H8 HW8 x1 x2 y1 y2
      obtain ⟨x1, x2, _, _⟩ := cells_two (H9.out.get (g := w4.heap.size) (o := os ga (knot a)) (by simp))
      obtain ⟨y1, y2, _, _⟩ := cells_two (H9.out.get (g := (w4.alloc (os ga (knot a))).heap.size) (o := os gb (knot b)) (by simp))
      simp only [World.size_alloc] at y1 y2
      rw [show (knot a).length + 2 * lead b + 1 = (knot a).length + (knot b).length by have := HLB.out.2.2.2; omega]
      go_wp2_with fail
      refine (awake_any _).mono ?_
      rintro e w10 ⟨rfl, hb10⟩
      go_wp2_with fail
      go_ret
      exact ⟨rfl, HW9.out.trans (hb10.mono HW9.out.size)⟩

set_option maxRecDepth 100000 in
set_option maxHeartbeats 4000000 in
theorem knots_walk (n m : Nat) (v : Value) (w : World) (_hn : n < 18446744073709551616) (_hm : m < 18446744073709551616) (hs : OkStrand w v) :
    Calls Try.prog 6 #[.int .u64 n, .int .u64 m, v] w fun e w' => e = .returned (.bool true) ∧ Below w.heap.size w w' := by
  obtain ⟨A, c, L, xs, rfl, hx, hr, hmx⟩ := hs
  have HR := Lib.hid hr
  clear hr
  by_cases hg : (decide (2000 < L) || decide (250 < xs.length)) = true
  · have HG := Lib.hid hg
    clear hg
    go_enter Try.func6, Try.ntmps6
    go_wp2_with fail
    refine (great_any A _ c L _).mono ?_
    rintro e w1 ⟨rfl, hb1⟩
    rw [HG.out]
    go_wp2_with fail
    refine (awake_any _).mono ?_
    rintro e w2 ⟨rfl, hb2⟩
    go_wp2_with fail
    go_ret
    exact ⟨rfl, ((Below.refl _ _).alloc (Nat.le_refl _) _).trans ((next_below hb1 hb2).mono (by simp))⟩
  · have hg' : (decide (2000 < L) || decide (250 < xs.length)) = false := by simpa using hg
    have HG := Lib.hid hg'
    clear hg hg'
    by_cases hri : rightB xs L = true
    · obtain ⟨l, hL, hlen, hrd, hlm, hst⟩ := bits_st (c := c) hx HR.out hri
      have hl2 : l.length ≤ 2000 := by
        have h := HG.out
        rw [Bool.or_eq_false_iff] at h
        have := of_decide_eq_false h.1
        omega
      rw [hL, hlen]
      exact knots_main n m A c l w hrd hl2
    · have hri' : rightB xs L = false := by simpa using hri
      have HI := Lib.hid hri'
      clear hri hri'
      go_enter Try.func6, Try.ntmps6
      go_wp2_with fail
      refine (great_any A _ c L _).mono ?_
      rintro e w1 ⟨rfl, hb1⟩
      rw [HG.out]
      obtain ⟨hc, hf⟩ := old_cells hb1
      have hR1 := Lib.hid ((HR.out.below ((Below.refl _ _).alloc (Nat.le_refl _) _)).below hb1)
      go_wp2_with fail
      refine (right_val A xs c L _ hR1.out).mono ?_
      rintro e w2 ⟨rfl, hb2⟩
      rw [HI.out]
      clear hc hf
      go_wp2_with fail
      refine (awake_any _).mono ?_
      rintro e w3 ⟨rfl, hb3⟩
      go_wp2_with fail
      go_ret
      exact ⟨rfl, ((Below.refl _ _).alloc (Nat.le_refl _) _).trans ((next_below (next_below hb1 hb2) hb3).mono (by simp))⟩
end Go.Proofs.Ytgljaimoaijcaaa
