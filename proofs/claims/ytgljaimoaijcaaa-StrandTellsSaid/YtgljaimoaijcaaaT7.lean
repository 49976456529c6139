/- The document's own answer: a strand's digits, or that it is none. -/
import Derived.Test.YtgljaimoaijcaaaT6
namespace Go.Proofs.Ytgljaimoaijcaaa
open Go.RowKit

set_option maxHeartbeats 2000000 in
theorem refText_bad (A : Option Addr) (c n : Nat) (L : Int) (xs : List Int) (w : World) (hr : RdB w A xs) (hx : isBytes xs) (hn : n = xs.length) (hm : n ≤ 600000)
    (hL : L < 0 ∨ 4194304 < L ∨ 8 * (n : Int) < L ∨ 7 < 8 * (n : Int) - L) (hL0 : -9223372036854775808 ≤ L) (hL1 : L ≤ 9223372036854775807) :
    Calls Try.prog 13 #[.agg #[.slice A n c, .int .i64 L]] w fun e w' => e = .returned (.tuple #[.string ⟨#[]⟩, .bool false]) ∧ Below w.heap.size w w' := by
  have hz := txt_size (bitsOf xs (8 * n))
  rw [bitsOf_length] at hz
  have C := Lib.hid (refSaid_any A c n xs (w.alloc (.cells #[.slice A n c, .int .i64 L] 24)) (hr.below ((Below.refl _ _).alloc (Nat.le_refl _) _)) hx hn hm)
  clear hr hx hn
  generalize txt (bitsOf xs (8 * n)) = s at *
  go_enter Try.func13, Try.ntmps13
  go_wp2_with fail
  refine C.out.mono ?_
  rintro e w1 ⟨rfl, hb⟩
  obtain ⟨hc, hf⟩ := old_cells hb
  have HB := Lib.hid (next_below ((Below.refl _ _).alloc (Nat.le_refl _) _) hb)
  clear hb C
  by_cases h1 : L < 0
  · have d1 : decide (L < 0) = true := by simpa using h1
    clear hL
    go_wp2_with fail
    exact bodyPost_ret (v := .tuple #[.string ⟨#[]⟩, .bool false]) (by simp [results, Try.results13, go_sem]) rfl ⟨rfl, HB.out⟩
  · have d1 : decide (L < 0) = false := by simpa using h1
    by_cases h2 : 4194304 < L
    · have d2 : decide (4194304 < L) = true := by simpa using h2
      clear hL
      go_wp2_with fail
      exact bodyPost_ret (v := .tuple #[.string ⟨#[]⟩, .bool false]) (by simp [results, Try.results13, go_sem]) rfl ⟨rfl, HB.out⟩
    · have d2 : decide (4194304 < L) = false := by simpa using h2
      obtain ⟨l, rfl⟩ := Int.eq_ofNat_of_zero_le (by omega : 0 ≤ L)
      by_cases h3 : 8 * (n : Int) < l
      · have h3' : 8 * n < l := by omega
        clear hL
        go_wp2_with fail
        exact bodyPost_ret (v := .tuple #[.string ⟨#[]⟩, .bool false]) (by simp [results, Try.results13, go_sem]) rfl ⟨rfl, HB.out⟩
      · have h4 : 7 < 8 * (n : Int) - l := by omega
        have h3' : l ≤ 8 * n := by omega
        have d4 : decide (7 < 8 * (n : Int) - l) = true := by simpa using h4
        clear hL
        go_wp2_with fail
        exact bodyPost_ret (v := .tuple #[.string ⟨#[]⟩, .bool false]) (by simp [results, Try.results13, go_sem]) rfl ⟨rfl, HB.out⟩

theorem txt_take (l : List Bool) (k : Nat) : (txt l).extract 0 k = txt (l.take k) := by
  apply ByteArray.ext
  simp [txt, ByteArray.data_extract, List.map_take]

set_option maxHeartbeats 2000000 in
theorem refText_loop (A : Option Addr) (c n l K : Nat) (xs : List Int) (w : World) (hr : RdB w A xs) (hx : isBytes xs) (hn : n = xs.length) (hm : n ≤ 600000)
    (hl : l ≤ 4194304) (hl1 : l ≤ 8 * n) (hl2 : 8 * n ≤ l + 7) (hK1 : l ≤ K) (hK2 : K ≤ 8 * n) (hz : ∀ i, l ≤ i → i < K → (bitsOf xs (8 * n)).getD i false = false) (he : K < 8 * n → (bitsOf xs (8 * n)).getD K false = true) :
    Calls Try.prog 13 #[.agg #[.slice A n c, .int .i64 l]] w fun e w' => e = .returned (.tuple #[.string (if K < 8 * n then ⟨#[]⟩ else txt ((bitsOf xs (8 * n)).take l)), .bool (decide (¬ K < 8 * n))]) ∧ Below w.heap.size w w' := by
  have hs := txt_size (bitsOf xs (8 * n))
  rw [bitsOf_length] at hs
  have C := Lib.hid (refSaid_any A c n xs (w.alloc (.cells #[.slice A n c, .int .i64 (l : Nat)] 24)) (hr.below ((Below.refl _ _).alloc (Nat.le_refl _) _)) hx hn hm)
  have HG : Hid (∀ i (_ : i < 8 * n) (h' : i < (txt (bitsOf xs (8 * n))).size), ((txt (bitsOf xs (8 * n)))[i].toNat : Int) = 48 + (((bitsOf xs (8 * n)).getD i false).toNat : Nat)) := Lib.hid (fun i h h' => txt_at _ i (by rw [bitsOf_length]; exact h) h')
  have HT := Lib.hid (txt_take (bitsOf xs (8 * n)) l)
  have HZ := Lib.hid hz
  have HE := Lib.hid he
  clear hr hx hn hz he
  generalize txt (bitsOf xs (8 * n)) = s at *
  generalize txt ((bitsOf xs (8 * n)).take l) = t at *
  generalize bitsOf xs (8 * n) = B at *
  go_enter Try.func13, Try.ntmps13
  go_wp2_with fail
  refine C.out.mono ?_
  rintro e w1 ⟨rfl, hb⟩
  obtain ⟨hc, hf⟩ := old_cells hb
  have HB := Lib.hid (next_below ((Below.refl _ _).alloc (Nat.le_refl _) _) hb)
  clear hb C
  have d4 : decide (7 < 8 * (n : Int) - l) = false := by simp; omega
  go_wp2_with fail
  go_loop [5] (fun i => ∃ k : Nat, l ≤ k ∧ k ≤ K ∧ i = .int .i64 k) (fun i => K - (intOf i).toNat)
  case atStart => exact ⟨l, Nat.le_refl _, hK1, rfl⟩
  case round =>
    obtain ⟨k, hk0, hk, rfl⟩ := hrel
    by_cases hlt : k < 8 * n
    · have hks : k < s.size := by omega
      have hg := HG.out k hlt hks
      by_cases hkK : k < K
      · rw [HZ.out k hk0 hkK] at hg
        have hg2 : (s[k].toNat : Int) = 48 := hg
        clear hg
        go_wp2_with fail
        exact ⟨⟨k + 1, by omega, by omega, by go_num⟩, by simp [intOf]; omega⟩
      · obtain rfl : k = K := by omega
        rw [HE.out hlt] at hg
        have hg2 : (s[k].toNat : Int) = 49 := hg
        clear hg
        go_wp2_with fail
        exact bodyPost_ret (v := .tuple #[.string ⟨#[]⟩, .bool false]) (by simp [results, Try.results13, go_sem]) rfl ⟨rfl, HB.out⟩
    · obtain rfl : k = K := by omega
      go_wp2_with fail
      rw [HT.out]
      exact bodyPost_ret (v := .tuple #[.string t, .bool true]) (by simp [results, Try.results13, go_sem]) rfl ⟨rfl, HB.out⟩
end Go.Proofs.Ytgljaimoaijcaaa
