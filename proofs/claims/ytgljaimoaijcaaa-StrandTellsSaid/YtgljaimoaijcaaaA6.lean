/- Walks: numbers that are read from a strand. -/
import Derived.Test.YtgljaimoaijcaaaA5
namespace Go.Proofs.Ytgljaimoaijcaaa
open Go.RowKit

/-- What i digits from a place on say. -/
def numAt (l : List Bool) (fr : Nat) : Nat → Nat
  | 0 => 0
  | i + 1 => 2 * numAt l fr i + (l.getD (fr + i) false).toNat
theorem numAt_lt (l : List Bool) (fr i : Nat) : numAt l fr i < 2 ^ i := by
  induction i with
  | zero => simp [numAt]
  | succ i ih =>
    unfold numAt
    have : (l.getD (fr + i) false).toNat ≤ 1 := Bool.toNat_le _
    rw [Nat.pow_succ]; omega
theorem shl64 (q : Nat) (h : q < 9223372036854775808) : Op.shift .shl .u64 (q : Int) .u64 1 = pure (.int .u64 (2 * (q : Int))) := by
  rw [shift_shl_any _ _ _ _ (by omega)]
  congr 2
  rw [show min (1 : Int).toNat IntKind.u64.bits = 1 from rfl]
  simp [IntKind.wrap, IntKind.bits, IntKind.signed]
  omega
theorem or64 (q b : Nat) (h : q < 9223372036854775808) (hb : b ≤ 1) : bits .or .u64 (2 * (q : Int)) (b : Int) = 2 * (q : Int) + b := by
  rw [show 2 * (q : Int) = ((2 * q : Nat) : Int) from by omega, u64_or_nat _ _ (by omega) (by omega), ← Int.natCast_add]
  congr 1
  have := Nat.two_pow_add_eq_or_of_lt (i := 1) (b := b) (by omega) q
  rw [Nat.pow_one] at this
  exact this.symm

set_option maxHeartbeats 1000000 in
theorem digits_any (A : Option Addr) (l : List Bool) (N c : Nat) (L : Int) (fr W : Nat) (w : World) (hr : Rd w A l) (hN : N = nB l) (hW : W ≤ 64) (h : fr + W ≤ l.length) (hm : l.length ≤ 4194304) :
    Calls Try.prog 51 #[.agg #[.slice A N c, .int .i64 L], .int .i64 fr, .int .i64 W] w
      fun e w' => e = .returned (.int .u64 (numAt l fr W : Nat)) ∧ Below w.heap.size w w' := by
  have HN := Lib.hid hN
  have HR := Lib.hid hr
  clear hN hr
  go_enter Try.func51, Try.ntmps51
  go_wp2_with fail
  go_loopw [7, 10] (fun v i wr => ∃ k : Nat, k ≤ W ∧ i = .int .i64 k ∧ v = .int .u64 (numAt l fr k : Nat) ∧ Hid (Rd wr A l) ∧ Hid (Below w.heap.size w wr) ∧
      Hid (wr.heap[w.heap.size]? = some (.cells #[.slice A N c, .int .i64 L] 24 (0, 0))))
    (fun _ i _ => W - (intOf i).toNat)
  case atStart => exact ⟨0, Nat.zero_le _, rfl, rfl, HR.out.alloc _, (Below.refl _ _).alloc (Nat.le_refl _) _, heap_alloc_new w _⟩
  case round =>
    obtain ⟨k, hk, rfl, rfl, HRk, HBk, hC⟩ := hrel
    by_cases hlt : k < W
    · obtain ⟨a1, a2, _, _⟩ := cells_two hC.out
      have hq := numAt_lt l fr k
      have hq' : numAt l fr k < 9223372036854775808 := Nat.lt_of_lt_of_le hq (by rw [show 9223372036854775808 = 2 ^ 63 from rfl]; exact Nat.pow_le_pow_right (by omega) (by omega))
      clear hq
      have HS : Hid (numAt l fr (k + 1) = 2 * numAt l fr k + (l.getD (fr + k) false).toNat) := rfl
      generalize numAt l fr k = q at *
      have hsh := shl64 q hq'
      obtain ⟨b, hb⟩ : ∃ b, b = (l.getD (fr + k) false).toNat := ⟨_, rfl⟩
      have hb1 : b ≤ 1 := by rw [hb]; exact Bool.toNat_le _
      have HV : Hid ((b : Int) = ((l.getD (fr + k) false).toNat : Nat)) := by show _ = _; rw [hb]
      have hor := or64 q b hq' hb1
      have HB := Lib.hid hb
      clear hb hq'
      go_wp2_with fail
      refine (bit_at _ l _ _ _ _ (fr + k) b _ (by omega) HV.out HRk.out HN.out (by omega) (by omega)).mono ?_
      rintro e w1 ⟨rfl, hbl⟩
      go_wp2_with fail
      go_roundw
      case rel => exact ⟨k + 1, by omega, by go_num, by rw [HS.out, ← HB.out]; congr 1, HRk.out.below hbl, HBk.out.trans (hbl.mono HBk.out.size), blk_below hC.out hbl⟩
      case measure => simp [intOf]; omega
    · obtain rfl : k = W := by omega
      go_wp2_with fail
      go_ret
      exact ⟨rfl, HBk.out⟩

set_option maxHeartbeats 1000000 in
theorem noughts_any (A : Option Addr) (l : List Bool) (N c : Nat) (fr k : Nat) (w : World) (hr : Rd w A l) (hN : N = nB l) (h : fr ≤ l.length) (hm : l.length ≤ 4194304)
    (hk : k ≤ min 64 (l.length - fr)) (hz : ∀ i, i < k → l.getD (fr + i) false = false) (he : k = min 64 (l.length - fr) ∨ l.getD (fr + k) false = true) :
    Calls Try.prog 53 #[.agg #[.slice A N c, .int .i64 (l.length : Nat)], .int .i64 fr] w
      fun e w' => e = .returned (.int .i64 k) ∧ Below w.heap.size w w' := by
  have HN := Lib.hid hN
  have HR := Lib.hid hr
  have HZ := Lib.hid hz
  have HE := Lib.hid he
  have hk64 : k ≤ 64 := by omega
  have hkl : k ≤ l.length - fr := by omega
  clear hN hr hz he hk
  go_enter Try.func53, Try.ntmps53
  go_wp2_with fail
  all_goals
    go_loopw [11] (fun i wr => ∃ k' : Nat, k' ≤ k ∧ i = .int .i64 k' ∧ Hid (Rd wr A l) ∧ Hid (Below w.heap.size w wr) ∧
        Hid (wr.heap[w.heap.size]? = some (.cells #[.slice A N c, .int .i64 (l.length : Nat)] 24 (0, 0))))
      (fun i _ => k - (intOf i).toNat)
    case atStart => exact ⟨0, Nat.zero_le _, rfl, HR.out.alloc _, (Below.refl _ _).alloc (Nat.le_refl _) _, heap_alloc_new w _⟩
    case round =>
      obtain ⟨k', hk', rfl, HRk, HBk, hC⟩ := hrel
      obtain ⟨a1, a2, _, _⟩ := cells_two hC.out
      by_cases hlt : k' < k
      · have HV : Hid ((0 : Int) = ((l.getD (fr + k') false).toNat : Nat)) := by show _ = _; rw [HZ.out k' hlt]; rfl
        go_wp2_with fail
        refine (bit_at _ l _ _ _ _ (fr + k') 0 _ (by omega) HV.out HRk.out HN.out (by omega) (by omega)).mono ?_
        rintro e w1 ⟨rfl, hbl⟩
        go_wp2_with fail
        go_roundw
        case rel => exact ⟨k' + 1, by omega, by go_num, HRk.out.below hbl, HBk.out.trans (hbl.mono HBk.out.size), blk_below hC.out hbl⟩
        case measure => simp [intOf]; omega
      · obtain rfl : k' = k := by omega
        by_cases hT : k' = min 64 (l.length - fr)
        · first
            | (have h64 : 64 ≤ k' := by omega)
            | (have h64 : l.length ≤ fr + k' := by omega)
          clear hT
          go_wp2_with fail
          go_ret
          exact ⟨ret_int (by omega), HBk.out⟩
        · have HV : Hid ((1 : Int) = ((l.getD (fr + k') false).toNat : Nat)) := by
            show _ = _
            rcases HE.out with h | h
            · exact absurd h hT
            · rw [h]; rfl
          have hT1 : k' < 64 := by omega
          have hT2 : fr + k' < l.length := by omega
          clear hT
          go_wp2_with fail
          refine (bit_at _ l _ _ _ _ (fr + k') 1 _ (by omega) HV.out HRk.out HN.out (by omega) (by omega)).mono ?_
          rintro e w1 ⟨rfl, hbl⟩
          go_wp2_with fail
          go_ret
          exact ⟨rfl, HBk.out.trans (hbl.mono HBk.out.size)⟩
end Go.Proofs.Ytgljaimoaijcaaa
