/- The reference's Path and Parts in one form. -/
import Derived.Test.YtpkiogcedfmodaaW53
namespace Go.Proofs.Ytpkiogcedfmodaa
open Go.RowKit

set_option maxHeartbeats 4000000 in
theorem refPathT (A : Option Addr) (c n : Nat) (N a b : Int) (E : List (Int × Int)) (w : World) (hr : RdP w A E) (hn : n = E.length) (hs : n ≤ 1000000) :
    Calls Try.prog 17 #[.agg #[.int .i64 N, .slice A n c], .int .i64 a, .int .i64 b] w fun e w' => ∃ (A1 : Option Addr) (n1 c1 : Nat), e = .returned (.tuple #[.slice A1 n1 c1, .int .i64 (pathR N E a b).2]) ∧
      n1 = (pathR N E a b).1.length ∧ n1 ≤ 1000 ∧ RdZ w' A1 (pathR N E a b).1 ∧ Below w.heap.size w w' := by
  have HE : ∀ v, askE N E v ≠ 0 → Hid (askE N E v = 2 ∨ askE N E v = 20) := fun v h0 => by
    rcases askE_cases N v E with h | h | h
    · exact absurd h h0
    · exact .inl h
    · exact .inr h
  obtain ⟨W, hW⟩ : ∃ W, W = w.alloc (.cells #[.int .i64 N, .slice A n c] 24) := ⟨_, rfl⟩
  have hbW : Below w.heap.size w W := by rw [hW]; exact (Below.refl _ _).alloc (Nat.le_refl _) _
  have hWS : w.heap.size < W.heap.size := by rw [hW]; simp
  obtain ⟨i0, i1, _, _⟩ := cells_two (w := W) (by rw [hW]; exact heap_alloc_new w _)
  have HJ : Hid (∀ w', Below W.heap.size W w' → w'.cell? ⟨w.heap.size, 0, none⟩ = some (.int .i64 N) ∧ w'.cell? ⟨w.heap.size, 1, none⟩ = some (.slice A n c)) := fun w' hb =>
    ⟨by rw [hb.cell (by show w.heap.size < _; omega)]; exact i0, by rw [hb.cell (by show w.heap.size < _; omega)]; exact i1⟩
  by_cases h0 : askE N E a = 0
  · by_cases h1 : askE N E b = 0
    · obtain ⟨m, u, rfl, rfl, hu, hg⟩ := askE_zero h0
      obtain ⟨m2, x, e1, rfl, hx, _⟩ := askE_zero h1
      have hm : m = m2 := by omega
      subst hm
      exact refPath_yes A c n m u x E w hr hn hg hu hx
    · have hw : pathR N E a b = ([], askE N E b) := by unfold pathR; rw [if_pos h0, if_neg h1]
      rw [hw]
      have HEB := HE b h1
      have HR := Lib.hid (hr.below hbW)
      have HN := Lib.hid hn
      have HB := Lib.hid hbW
      have HW := Lib.hid hW
      have HRA := Lib.hid (asked_any A c n N a E W HR.out hn hs)
      have HRB := Lib.hid (fun w' (h : Below W.heap.size W w') => asked_any A c n N b E w' (HR.out.below h) hn hs)
      rw [h0] at HRA
      obtain ⟨q, hq⟩ : ∃ q, askE N E b = q := ⟨_, rfl⟩
      rw [hq] at HRB HEB ⊢
      have hq0 : (q != 0) = true := by rw [bne_iff_ne]; rcases HEB.out with h | h <;> omega
      have hq1 : (q == 0) = false := by rw [beq_eq_false_iff_ne]; rcases HEB.out with h | h <;> omega
      clear hr hn hbW hW h0 h1 hw hq HE
      go_enter Try.func17, Try.ntmps17
      go_wp2_with fail
      rw [← HW.out]
      refine HRA.out.mono ?_
      rintro e w1 ⟨rfl, hb1⟩
      have HB1 := Lib.hid hb1
      clear hb1 i0 i1
      obtain ⟨j0, j1⟩ := HJ.out w1 HB1.out
      go_wp2_with fail
      refine (HRB.out w1 HB1.out).mono ?_
      rintro e w2 ⟨rfl, hb2⟩
      have HB2 := Lib.hid (next_below HB1.out hb2)
      clear hb2 j0 j1
      go_wp2_with fail
      go_ret2
      exact ⟨none, 0, 0, rfl, rfl, by omega, rdz_nil _ _, HB.out.trans (HB2.out.mono HB.out.size)⟩
  · have hw : pathR N E a b = ([], askE N E a) := by unfold pathR; rw [if_neg h0]
    rw [hw]
    have HEA := HE a h0
    have HB := Lib.hid hbW
    have HW := Lib.hid hW
    have HRA := Lib.hid (asked_any A c n N a E W (hr.below hbW) hn hs)
    obtain ⟨q, hq⟩ : ∃ q, askE N E a = q := ⟨_, rfl⟩
    rw [hq] at HRA HEA ⊢
    have hq0 : (q != 0) = true := by rw [bne_iff_ne]; rcases HEA.out with h | h <;> omega
    have hq1 : (q == 0) = false := by rw [beq_eq_false_iff_ne]; rcases HEA.out with h | h <;> omega
    clear hr hn hbW hW h0 hw hq HE i0 i1
    go_enter Try.func17, Try.ntmps17
    go_wp2_with fail
    rw [← HW.out]
    refine HRA.out.mono ?_
    rintro e w1 ⟨rfl, hb1⟩
    have HB1 := Lib.hid hb1
    clear hb1
    go_wp2_with fail
    go_ret2
    exact ⟨none, 0, 0, rfl, rfl, by omega, rdz_nil _ _, HB.out.trans (HB1.out.mono HB.out.size)⟩
set_option maxHeartbeats 4000000 in
theorem refPartsT (A : Option Addr) (c n : Nat) (N : Int) (E : List (Int × Int)) (w : World) (hr : RdP w A E) (hn : n = E.length) (hs : n ≤ 1000000) :
    Calls Try.prog 21 #[.agg #[.int .i64 N, .slice A n c]] w fun e w' => ∃ (A1 : Option Addr) (n1 c1 : Nat), e = .returned (.slice A1 n1 c1) ∧ n1 = (partsR N E).length ∧ RdR w' A1 (partsR N E) ∧ Below w.heap.size w w' := by
  cases hg : rightG N E with
  | true =>
    obtain ⟨m, rfl⟩ := Int.eq_ofNat_of_zero_le (rightG_bounds hg).1
    refine (refParts_yes A c n m E w hr hn hg).mono ?_
    rintro e w' ⟨B, k, cap, us, rfl, hk, hp, hb⟩
    have hw : partsR (m : Int) E = (prun (tabG m E) m m).2 := by
      unfold partsR
      rw [if_pos hg]
      simp only [Int.toNat_natCast]
    rw [hw]
    exact ⟨B, k, cap, rfl, hk, hp.rd, hb⟩
  | false =>
    have hw : partsR N E = [] := by unfold partsR; rw [if_neg (by rw [hg]; decide)]
    rw [hw]
    obtain ⟨W, hW⟩ : ∃ W, W = w.alloc (.cells #[.int .i64 N, .slice A n c] 24) := ⟨_, rfl⟩
    have hb : Below w.heap.size w W := by rw [hW]; exact (Below.refl _ _).alloc (Nat.le_refl _) _
    have HRF := Lib.hid (refRight_any A c n N E W (hr.below hb) hn hs)
    have HB := Lib.hid hb
    have HW := Lib.hid hW
    have HG := Lib.hid hg
    clear hr hn hb hW hw hg
    go_enter Try.func21, Try.ntmps21
    go_wp2_with fail
    rw [← HW.out]
    refine HRF.out.mono ?_
    rintro e w1 ⟨rfl, hb1⟩
    rw [HG.out]
    have HB1 := Lib.hid hb1
    clear hb1
    go_wp2_with fail
    go_ret
    exact ⟨none, 0, 0, rfl, rfl, (fun j xs h => by simp at h), HB.out.trans (HB1.out.mono HB.out.size)⟩
theorem wend_is (T : List (List Int)) (N fr : Nat) : ∃ k, wend T N fr = wrun T N fr k := by
  classical
  unfold wend
  split
  · exact ⟨_, rfl⟩
  · exact ⟨0, rfl⟩
theorem walkR_small (N v : Int) (E : List (Int × Int)) : (walkR N E v).1.length ≤ 1000 ∧ (walkR N E v).2.1.length ≤ 1000 := by
  by_cases h0 : askE N E v = 0
  · obtain ⟨m, u, rfl, rfl, hu, hg⟩ := askE_zero h0
    obtain ⟨k, hk⟩ := wend_is (tabG m E) m u
    have hG := (dfs_run (tab_is hg) (fun _ _ => tabG_sym hg) hu k).good
    have h1 := hG.cnt
    have h2 := hG.len
    have h3 := rightG_bounds hg
    have hw : walkR (m : Int) E (u : Int) = ((wrun (tabG m E) m u k).order.map fun (x : Nat) => (x : Int), (wrun (tabG m E) m u k).up, 0) := by
      unfold walkR
      rw [if_pos h0]
      simp only [Int.toNat_natCast]
      rw [hk]
    rw [hw]
    simp only [List.length_map]
    omega
  · unfold walkR
    rw [if_neg h0]
    simp
theorem awayR_small (N v : Int) (E : List (Int × Int)) : (awayR N E v).1.length ≤ 1000 := by
  by_cases h0 : askE N E v = 0
  · obtain ⟨m, u, rfl, rfl, hu, hg⟩ := askE_zero h0
    have h3 := rightG_bounds hg
    unfold awayR
    rw [if_pos h0]
    simp only [Int.toNat_natCast]
    rw [(dist_is hg hu).len]
    omega
  · unfold awayR
    rw [if_neg h0]
    simp
theorem partsR_small (N : Int) (E : List (Int × Int)) : (partsR N E).length ≤ 1000 ∧ ∀ xs ∈ partsR N E, xs.length ≤ 1000000 := by
  by_cases hg : rightG N E = true
  · obtain ⟨m, rfl⟩ := Int.eq_ofNat_of_zero_le (rightG_bounds hg).1
    have h3 := rightG_bounds hg
    have hw : partsR (m : Int) E = (prun (tabG m E) m m).2 := by
      unfold partsR
      rw [if_pos hg]
      simp only [Int.toNat_natCast]
    rw [hw]
    refine ⟨by have := prun_out (tabG m E) m m; omega, fun xs hx => ?_⟩
    obtain ⟨i, hi⟩ := List.getElem?_of_mem hx
    obtain ⟨v, _, e, _⟩ := (pinv hg m (Nat.le_refl _)).part i xs hi
    rw [e]
    have := reachN_le (distOf (tabG m E) m v) m
    omega
  · unfold partsR
    rw [if_neg hg]
    simp
end Go.Proofs.Ytpkiogcedfmodaa
