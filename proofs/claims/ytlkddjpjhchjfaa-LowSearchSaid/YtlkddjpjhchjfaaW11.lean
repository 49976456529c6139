/- Lists of ints are held against one another. -/
import Derived.Test.YtlkddjpjhchjfaaW3
namespace Go.Proofs.Ytlkddjpjhchjfaa
set_option maxRecDepth 100000
open Go.RowKit

theorem below_ref {w : World} (q : Nat) : Below w.heap.size w (w.drewN q) := below_drewN (Below.refl _ _) q
set_option maxHeartbeats 4000000 in
theorem sameZ_any (A B : Option Addr) (c d n m : Nat) (L M : List Int) (w : World) (hl : RdZ w A L) (hm : RdZ w B M) (hL : n ≤ 1000000) (hM : m ≤ 1000000) (hn : n = L.length) (hmm : m = M.length) :
    Calls Try.prog 24 #[.slice A n c, .slice B m d] w fun e w' => e = .returned (.bool (decide (L = M))) ∧ Below w.heap.size w w' := by
  have HL := Lib.hid hl
  have HM := Lib.hid hm
  have HN := Lib.hid hn
  have HMM := Lib.hid hmm
  clear hl hm hn hmm
  obtain ⟨r, hr⟩ : ∃ r, decide (L = M) = r := ⟨_, rfl⟩
  have HR := Lib.hid hr
  rw [hr]
  clear hr
  go_enter Try.func24, Try.ntmps24
  go_wp2_with fail
  go_loopw [5] (fun s wr => ∃ k : Nat, k ≤ n ∧ k ≤ m ∧ s = .int .i64 k ∧ Hid (∀ q, q < k → L[q]? = M[q]?) ∧ Hid (Below w.heap.size w wr)) (fun s _ => n - (intOf s).toNat)
  case atStart => exact ⟨0, Nat.zero_le _, Nat.zero_le _, rfl, fun q h => absurd h (by omega), Lib.hid (Below.refl _ _)⟩
  case round =>
    obtain ⟨k, hk, hk2, rfl, hK, hbel⟩ := hrel
    have HBQ := Lib.hid (fun q : Nat => below_drewN hbel.out q)
    by_cases h1 : k < n
    · have t1 : decide ((k : Int) < (n : Int)) = true := by simp; omega
      have u1 : ((k : Int) == (n : Int)) = false := by simp; omega
      by_cases h2 : k < m
      · have t2 : decide ((k : Int) < (m : Int)) = true := by simp; omega
        obtain ⟨x, hx⟩ : ∃ x, L[k]? = some x := ⟨_, List.getElem?_eq_getElem (by rw [← HN.out]; exact h1)⟩
        obtain ⟨y, hy⟩ : ∃ y, M[k]? = some y := ⟨_, List.getElem?_eq_getElem (by rw [← HMM.out]; exact h2)⟩
        obtain ⟨ad, rfl, _, c1⟩ := (HL.out.below hbel.out) k x hx
        obtain ⟨bd, rfl, _, c2⟩ := (HM.out.below hbel.out) k y hy
        have HX := Lib.hid hx
        have HY := Lib.hid hy
        have hI0 : (0 : Int) ≤ (k : Int) := by omega
        have hI1 : (k : Int) < (n : Nat) := by omega
        have hI2 : (k : Int) < (m : Nat) := by omega
        clear hx hy
        by_cases hxy : x = y
        · subst hxy
          go_upto_region 2 with fail
          go_quiet (fail)
          go_wp2_with fail
          go_roundw
          case rel =>
            refine ⟨k + 1, by omega, by omega, by go_num, fun q hq => ?_, Lib.hid (HBQ.out _)⟩
            by_cases hqk : q = k
            · subst hqk; rw [HX.out, HY.out]
            · exact hK.out q (by omega)
          case measure => simp [intOf]; omega
        · have hb : (x == y) = false := by simpa using hxy
          go_upto_region 2 with fail
          go_quiet (fail)
          go_wp2_with fail
          go_ret
          refine ⟨?_, HBQ.out _⟩
          have hdec : decide (L = M) = false := decide_eq_false (fun e => hxy (by have h1 := HX.out; rw [e, HY.out] at h1; exact (Option.some.inj h1).symm))
          rw [← HR.out, hdec]
          rfl
      · obtain rfl : k = m := by omega
        have t2 : decide ((k : Int) < (k : Int)) = false := by simp
        go_upto_region 2 with fail
        go_quiet (fail)
        go_wp2_with fail
        go_ret
        refine ⟨?_, HBQ.out _⟩
        have hdec : decide (L = M) = false := decide_eq_false (fun e => by have h3 := HN.out; have h4 := HMM.out; rw [e] at h3; omega)
        rw [← HR.out, hdec]
        rfl
    · obtain rfl : k = n := by omega
      have t1 : decide ((k : Int) < (k : Int)) = false := by simp
      by_cases h2 : k = m
      · subst h2
        go_upto_region 2 with fail
        go_quiet (fail)
        go_wp2_with fail
        go_ret
        refine ⟨?_, HBQ.out _⟩
        have he : L = M := by
          apply List.ext_getElem?
          intro q
          by_cases hq : q < k
          · exact hK.out q hq
          · rw [List.getElem?_eq_none (by rw [← HN.out]; omega), List.getElem?_eq_none (by rw [← HMM.out]; omega)]
        rw [← HR.out, decide_eq_true he]
        rfl
      · have u2 : ((k : Int) == (m : Int)) = false := by simp; omega
        go_upto_region 2 with fail
        go_quiet (fail)
        go_wp2_with fail
        go_ret
        refine ⟨?_, HBQ.out _⟩
        have hdec : decide (L = M) = false := decide_eq_false (fun e => by have h3 := HN.out; have h4 := HMM.out; rw [e] at h3; omega)
        rw [← HR.out, hdec]
        rfl
end Go.Proofs.Ytlkddjpjhchjfaa
