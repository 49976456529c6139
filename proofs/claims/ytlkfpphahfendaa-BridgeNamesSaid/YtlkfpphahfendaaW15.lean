/- The next one of a path. -/
import Derived.Test.YtlkfpphahfendaaW8
namespace Go.Proofs.Ytlkfpphahfendaa
set_option maxRecDepth 100000
open Go.RowKit

set_option maxHeartbeats 2000000 in
theorem path1_any (x N pl pv Bl v : Nat) (left : List Int) (w : World) (hx : x < N) (hv : v < N) (hN : N ≤ 1000) (h1 : w.cell? ⟨pl, 0, none⟩ = some (.slice (some ⟨Bl, 0, none⟩) N N)) (h2 : w.cell? ⟨pv, 0, none⟩ = some (.int .i64 (v : Int))) (h3 : OwnZ w Bl left) (hlen : left.length = N)
    (hlo : -1 ≤ gd left v) (hhi : gd left v < N) :
    Calls Try.prog 46 #[.int .i64 (x : Int), .pointer (some ⟨pl, 0, none⟩), .pointer (some ⟨pv, 0, none⟩)] w fun e w' => e = .returned (.bool (gd left x == gd left v - 1)) ∧ Below w.heap.size w w' := by
  have c1 : w.cell? ⟨Bl, x, none⟩ = some (.int .i64 (gd left x)) := by
    rw [cell_of h3]
    simp [zs, zv, gd, List.getD, List.getElem?_eq_getElem (show x < left.length by omega)]
  have c2 : w.cell? ⟨Bl, v, none⟩ = some (.int .i64 (gd left v)) := by
    rw [cell_of h3]
    simp [zs, zv, gd, List.getD, List.getElem?_eq_getElem (show v < left.length by omega)]
  have hX0 : (0 : Int) ≤ (x : Int) := by omega
  have hX1 : (x : Int) < (N : Nat) := by omega
  have hV0 : (0 : Int) ≤ (v : Int) := by omega
  have hV1 : (v : Int) < (N : Nat) := by omega
  have hw : IntKind.i64.wrap (gd left v - 1) = gd left v - 1 := IntWalk.i64_in _ (by omega)
  clear h3
  generalize gd left x = a at *
  generalize gd left v = b at *
  go_enter Try.func46, Try.ntmps46
  go_upto_region 1 with fail
  go_quiet (fail)
  go_wp2_with fail
  go_ret
  exact ⟨rfl, below_drewN (Below.refl _ _) _⟩

set_option maxHeartbeats 4000000 in
/-- The first one of a row that is one step nearer. -/
theorem index_any (A : Option Addr) (c n N pl pv Bl v k : Nat) (xs left : List Int) (w : World) (hr : RdZ w A xs) (hn : n = xs.length) (hn2 : n ≤ 1000) (hx : ∀ x ∈ xs, ∃ y : Nat, x = (y : Int) ∧ y < N) (hv : v < N) (hN : N ≤ 1000) (h1 : w.cell? ⟨pl, 0, none⟩ = some (.slice (some ⟨Bl, 0, none⟩) N N)) (h2 : w.cell? ⟨pv, 0, none⟩ = some (.int .i64 (v : Int)))
    (h3 : OwnZ w Bl left) (hlen : left.length = N) (hlo : -1 ≤ gd left v) (hhi : gd left v < N) (hpl : pl < w.heap.size) (hpv : pv < w.heap.size) (hk : k < n) (hno : ∀ j y : Nat, j < k → xs[j]? = some (y : Int) → gd left y ≠ gd left v - 1) (hyes : ∀ y : Nat, xs[k]? = some (y : Int) → gd left y = gd left v - 1) :
    Calls Try.prog 45 #[.slice A n c, .func (.func 46) #[] #[.pointer (some ⟨pl, 0, none⟩), .pointer (some ⟨pv, 0, none⟩)]] w fun e w' => e = .returned (.int .i64 (k : Int)) ∧ Below w.heap.size w w' := by
  have HR := Lib.hid hr
  have HN := Lib.hid hn
  have HX := Lib.hid hx
  have HNO := Lib.hid hno
  have HYES := Lib.hid hyes
  have HC : Hid (∀ (w' : World) (x : Nat), x < N → Below w.heap.size w w' → Calls Try.prog 46 #[.int .i64 (x : Int), .pointer (some ⟨pl, 0, none⟩), .pointer (some ⟨pv, 0, none⟩)] w' fun e w'' => e = .returned (.bool (gd left x == gd left v - 1)) ∧ Below w'.heap.size w' w'') := by
    intro w' x hxN hb
    exact path1_any x N pl pv Bl v left w' hxN hv hN (by rw [hb.cell (by exact hpl)]; exact h1) (by rw [hb.cell (by exact hpv)]; exact h2) (blk_below h3 hb) hlen hlo hhi
  clear hr hn hx hno hyes h1 h2 h3
  go_enter Try.func45, Try.ntmps45
  go_wp2_with fail
  go_loopw [8] (fun s wr => ∃ i : Nat, i ≤ k ∧ s = .int .i64 i ∧ Hid (Below w.heap.size w wr)) (fun s _ => n - (intOf s).toNat)
  case atStart => exact ⟨0, Nat.zero_le _, rfl, Lib.hid (Below.refl _ _)⟩
  case round =>
    obtain ⟨i, hi, rfl, hb⟩ := hrel
    obtain ⟨x, hxi⟩ : ∃ x, xs[i]? = some x := ⟨_, List.getElem?_eq_getElem (by rw [← HN.out]; omega)⟩
    obtain ⟨y, rfl, hyN⟩ := HX.out x (List.mem_of_getElem? hxi)
    obtain ⟨ad, rfl, _, c1⟩ := (HR.out.below hb.out) i _ hxi
    have hI0 : (0 : Int) ≤ (i : Int) := by omega
    have hI1 : (i : Int) < (n : Nat) := by omega
    have HXI := Lib.hid hxi
    clear hxi
    by_cases hik : i = k
    · subst hik
      have hb1 : (gd left y == gd left v - 1) = true := by simpa using HYES.out y HXI.out
      have HC2 := Lib.hid (HC.out wr y hyN hb.out)
      rw [hb1] at HC2
      clear hb1
      go_wp2_with (first | (go_at_call 46; refine HC2.out.mono ?_; rintro e wn ⟨rfl, hbn⟩))
      go_ret
      exact ⟨rfl, next_below hb.out hbn⟩
    · have hb1 : (gd left y == gd left v - 1) = false := by
        simpa using HNO.out i y (by omega) HXI.out
      have HC2 := Lib.hid (HC.out wr y hyN hb.out)
      rw [hb1] at HC2
      clear hb1
      go_wp2_with (first | (go_at_call 46; refine HC2.out.mono ?_; rintro e wn ⟨rfl, hbn⟩))
      go_roundw
      case rel => exact ⟨i + 1, by omega, by go_num, Lib.hid (next_below hb.out hbn)⟩
      case measure => simp [intOf]; omega
end Go.Proofs.Ytlkfpphahfendaa
