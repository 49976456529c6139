/- Bits as a text of the digits 0 and 1, as the document's own answer keeps them; what digits say. -/
import Derived.Test.YtgljaimoaijcaaaA6
import Derived.Laws.IdiomStrings
namespace Go.Proofs.Ytgljaimoaijcaaa
open Go.RowKit

def digit (b : Bool) : UInt8 := if b then 49 else 48
/-- Bits in a row as a text. -/
def txt (l : List Bool) : ByteArray := ⟨(l.map digit).toArray⟩
theorem txt_size (l : List Bool) : (txt l).size = l.length := by simp [txt, ByteArray.size]
theorem txt_list (l : List Bool) : (txt l).data.toList = l.map digit := by simp [txt]
theorem digit_nat (b : Bool) : ((digit b).toNat : Int) = 48 + (b.toNat : Nat) := by cases b <;> rfl
theorem txt_get (l : List Bool) (i : Nat) (h : i < l.length) (h' : i < (txt l).size) : (txt l)[i] = digit (l.getD i false) := by
  have : (txt l)[i] = (l.map digit)[i]'(by simpa using h) := rfl
  rw [this, List.getElem_map]
  congr 1
  simp [List.getD, List.getElem?_eq_getElem h]
theorem txt_at (l : List Bool) (i : Nat) (h : i < l.length) (h' : i < (txt l).size) : ((txt l)[i].toNat : Int) = 48 + ((l.getD i false).toNat : Nat) := by
  rw [txt_get l i h h', digit_nat]

set_option maxHeartbeats 1000000 in
theorem refNumber_any (l : List Bool) (w : World) (hl : l.length ≤ 64) :
    Calls Try.prog 52 #[.string (txt l)] w fun e w' => e = .returned (.int .u64 (numAt l 0 l.length : Nat)) ∧ w' = w := by
  have hz := txt_size l
  have HG : Hid (∀ i (_ : i < l.length) (h' : i < (txt l).size), ((txt l)[i].toNat : Int) = 48 + ((l.getD i false).toNat : Nat)) := Lib.hid (fun i h h' => txt_at l i h h')
  generalize txt l = s at *
  go_enter Try.func52, Try.ntmps52
  go_wp2
  go_loop [3, 4] (fun n i => ∃ k : Nat, k ≤ l.length ∧ i = .int .i64 k ∧ n = .int .u64 (numAt l 0 k : Nat)) (fun _ i => l.length - (intOf i).toNat)
  case atStart => exact ⟨0, Nat.zero_le _, rfl, rfl⟩
  case round =>
    obtain ⟨k, hk, rfl, rfl⟩ := hrel
    by_cases hlt : k < l.length
    · have hq := numAt_lt l 0 k
      have hq' : numAt l 0 k < 9223372036854775808 := Nat.lt_of_lt_of_le hq (by rw [show 9223372036854775808 = 2 ^ 63 from rfl]; exact Nat.pow_le_pow_right (by omega) (by omega))
      clear hq
      have HS : Hid (numAt l 0 (k + 1) = 2 * numAt l 0 k + (l.getD (0 + k) false).toNat) := rfl
      have hks : k < s.size := by omega
      have hgk := HG.out k hlt hks
      rw [Nat.zero_add] at HS
      have hb1 : (l.getD k false).toNat ≤ 1 := Bool.toNat_le _
      generalize (l.getD k false).toNat = b at *
      generalize numAt l 0 k = q at *
      go_wp2
      all_goals
        go_round
        case rel => exact ⟨k + 1, by omega, by go_num, by rw [HS.out]; go_num⟩
        case measure => simp [intOf]; omega
    · obtain rfl : k = l.length := by omega
      go_wp2
      go_ret
      exact ⟨rfl, rfl⟩
end Go.Proofs.Ytgljaimoaijcaaa
