/- The document's own answer: a number's binary digits as a text. -/
import Derived.Test.YtgljaimoaijcaaaT1
namespace Go.Proofs.Ytgljaimoaijcaaa
open Go.RowKit

theorem digs_succ (n k : Nat) : digs n (k + 1) = (n / 2 ^ k % 2 == 1) :: digs n k := by
  unfold digs
  rw [List.range_succ_eq_map, List.map_cons, List.map_map]
  congr 1
  apply List.map_congr_left
  intro i hi
  have : i < k := List.mem_range.1 hi
  show (n / 2 ^ (k + 1 - 1 - (i + 1)) % 2 == 1) = _
  rw [show k + 1 - 1 - (i + 1) = k - 1 - i by omega]
theorem txt_cons (b : Bool) (l : List Bool) : txt (b :: l) = (⟨#[digit b]⟩ : ByteArray) ++ txt l := by
  unfold txt
  apply ByteArray.ext
  rw [ByteArray.data_append]
  simp

set_option maxHeartbeats 1000000 in
theorem refDigits_any (n : Nat) (z : Int) (K : Nat) (w : World) (hn : n < 18446744073709551616) (hz0 : -4194304 ≤ z) (hz : z ≤ K) (hn2 : n < 2 ^ K) (hK : K ≤ 4194304) (he : ∀ k, k < K → z ≤ k → n / 2 ^ k ≠ 0) :
    Calls Try.prog 47 #[.int .u64 n, .int .i64 z] w fun e w' => e = .returned (.string (txt (digs n K))) ∧ Below w.heap.size w w' := by
  have HE := Lib.hid he
  have HN2 := Lib.hid hn2
  clear he hn2
  go_enter Try.func47, Try.ntmps47
  go_wp2
  go_loopw [0, 1, 5] (fun s0 s1 s5 wr => ∃ k : Nat, k ≤ K ∧ s0 = .int .u64 (n / 2 ^ k : Nat) ∧ s1 = .int .i64 (z - k) ∧ s5 = .string (txt (digs n k)) ∧ Hid (Below w.heap.size w wr)) (fun _ s1 _ _ => (intOf s1 - z + K).toNat)
  case atStart => exact ⟨0, Nat.zero_le _, by simp, by simp, rfl, Below.refl _ _⟩
  case round =>
    obtain ⟨k, hk, rfl, rfl, rfl, hB⟩ := hrel
    have hq : n / 2 ^ k < 18446744073709551616 := Nat.lt_of_le_of_lt (Nat.div_le_self _ _) hn
    have hsz := txt_size (digs n k)
    rw [digs_length] at hsz
    by_cases hlt : k < K
    · have HQ : Hid (n / 2 ^ (k + 1) = n / 2 ^ k / 2) := by show _ = _; rw [Nat.pow_succ, Nat.div_div_eq_div_mul]
      have HT : Hid (txt (digs n (k + 1)) = (⟨#[digit (n / 2 ^ k % 2 == 1)]⟩ : ByteArray) ++ txt (digs n k)) := by show _ = _; rw [digs_succ, txt_cons]
      have hb := HE.out k hlt
      generalize txt (digs n k) = s at *
      generalize n / 2 ^ k = q at *
      have hcv : (convert 22 9 (.slice (some ⟨wr.heap.size, 0, none⟩) 1 1)).run Try.prog (wr.alloc (.cells #[.int .u8 (48 + (q : Int) % 2)] 5)) = .ok (.string ⟨#[digit (q % 2 == 1)]⟩) (wr.alloc (.cells #[.int .u8 (48 + (q : Int) % 2)] 5)) :=
        run_convert_bytes_back (P := Try.prog) (wr.alloc (.cells #[.int .u8 (48 + (q : Int) % 2)] 5)) 22 9 5 ⟨wr.heap.size, 0, none⟩ 1 [digit (q % 2 == 1)] Try.underlying22 Try.underlying5 Try.underlying9 (fun j hj => by
        obtain rfl : j = 0 := by simpa using hj
        rw [add_off, cell_of (heap_alloc_new _ _)]
        rcases Nat.mod_two_eq_zero_or_one q with h | h
        · have h' : (q : Int) % 2 = 0 := by omega
          simp [h, h', digit]
        · have h' : (q : Int) % 2 = 1 := by omega
          simp [h, h', digit])
      by_cases hq0 : q = 0
      · subst hq0
        have hzk : (k : Int) < z := by
          rcases Int.lt_or_le k z with h | h
          · exact h
          · exact absurd rfl (hb h)
        have hcv2 : (convert 22 9 (.slice (some ⟨wr.heap.size, 0, none⟩) 1 1)).run Try.prog (wr.alloc (.cells #[.int .u8 48] 5)) = .ok (.string ⟨#[digit false]⟩) (wr.alloc (.cells #[.int .u8 48] 5)) := hcv
        clear hcv
        go_wp2_with fail
        go_roundw
        case rel => exact ⟨k + 1, by omega, by rw [HQ.out]; go_num, by go_num, by rw [HT.out]; rfl, hB.out.alloc hB.out.size _⟩
        case measure => simp [intOf]; omega
      · go_wp2_with fail
        all_goals
          go_roundw
          case rel => exact ⟨k + 1, by omega, by rw [HQ.out]; go_num, by go_num, by rw [HT.out], hB.out.alloc hB.out.size _⟩
          case measure => simp [intOf]; omega
    · obtain rfl : k = K := by omega
      have h0 : n / 2 ^ k = 0 := Nat.div_eq_of_lt HN2.out
      generalize n / 2 ^ k = q at *
      subst h0
      go_wp2_with fail
      go_ret
      exact ⟨rfl, hB.out⟩
end Go.Proofs.Ytgljaimoaijcaaa
