/- The document's own answer: a knot read. -/
import Derived.Test.YtgljaimoaijcaaaT13
namespace Go.Proofs.Ytgljaimoaijcaaa
open Go.RowKit

set_option maxHeartbeats 2000000 in
theorem refGetKnot_no (p0 p1 : Value) (at' : Int) (w : World)
    (HA : Hid (∀ w', Below w.heap.size w w' → Calls Try.prog 13 #[.agg #[p0, p1]] w' fun e w'' => e = .returned (.tuple #[.string ⟨#[]⟩, .bool false]) ∧ Below w'.heap.size w' w'')) :
    Calls Try.prog 29 #[.agg #[p0, p1], .int .i64 at'] w fun e w' => e = .returned (.tuple #[.int .u64 0, .int .i64 0, .int .i64 11]) ∧ Below w.heap.size w w' := by
  have hb0 : Below w.heap.size w (w.alloc (.cells #[p0, p1] 24)) := (Below.refl _ _).alloc (Nat.le_refl _) _
  go_enter Try.func29, Try.ntmps29
  go_wp2_with fail
  refine (HA.out _ hb0).mono ?_
  rintro e w1 ⟨rfl, hb1⟩
  have HB1 := Lib.hid (next_below hb0 hb1)
  have HC1 := Lib.hid hb1
  clear hb0 hb1
  go_wp2_with fail
  exact bodyPost_ret (v := .tuple #[.int .u64 0, .int .i64 0, .int .i64 11]) (by simp [results, Try.results29, go_sem]) rfl ⟨rfl, HB1.out⟩
set_option maxHeartbeats 2000000 in
theorem refGetKnot_arg (p0 p1 : Value) (at' : Int) (s : ByteArray) (n : Nat) (hs : s.size = n) (h : at' < 0 ∨ (n : Int) < at') (w : World)
    (HA : Hid (∀ w', Below w.heap.size w w' → Calls Try.prog 13 #[.agg #[p0, p1]] w' fun e w'' => e = .returned (.tuple #[.string s, .bool true]) ∧ Below w'.heap.size w' w'')) :
    Calls Try.prog 29 #[.agg #[p0, p1], .int .i64 at'] w fun e w' => e = .returned (.tuple #[.int .u64 0, .int .i64 0, .int .i64 2]) ∧ Below w.heap.size w w' := by
  have hb0 : Below w.heap.size w (w.alloc (.cells #[p0, p1] 24)) := (Below.refl _ _).alloc (Nat.le_refl _) _
  go_enter Try.func29, Try.ntmps29
  go_wp2_with fail
  refine (HA.out _ hb0).mono ?_
  rintro e w1 ⟨rfl, hb1⟩
  have HB1 := Lib.hid (next_below hb0 hb1)
  have HC1 := Lib.hid hb1
  clear hb0 hb1
  by_cases h1 : at' < 0
  · have d1 : decide (at' < 0) = true := by simpa using h1
    clear h
    go_wp2_with fail
    exact bodyPost_ret (v := .tuple #[.int .u64 0, .int .i64 0, .int .i64 2]) (by simp [results, Try.results29, go_sem]) rfl ⟨rfl, HB1.out⟩
  · have d1 : decide (at' < 0) = false := by simpa using h1
    have d4 : decide ((n : Int) < at') = true := by simp; omega
    clear h
    go_wp2_with fail
    exact bodyPost_ret (v := .tuple #[.int .u64 0, .int .i64 0, .int .i64 2]) (by simp [results, Try.results29, go_sem]) rfl ⟨rfl, HB1.out⟩
set_option maxHeartbeats 2000000 in
theorem refGetKnot_far (p0 p1 : Value) (at' K : Nat) (l : List Bool) (hl : l.length ≤ 10000) (hK1 : at' ≤ K) (hK2 : K ≤ l.length) (hz : ∀ i, at' ≤ i → i < K → l.getD i false = false) (he : K < l.length → l.getD K false = true) (h64 : 64 + at' ≤ K) (w : World)
    (HA : Hid (∀ w', Below w.heap.size w w' → Calls Try.prog 13 #[.agg #[p0, p1]] w' fun e w'' => e = .returned (.tuple #[.string (txt l), .bool true]) ∧ Below w'.heap.size w' w'')) :
    Calls Try.prog 29 #[.agg #[p0, p1], .int .i64 at'] w fun e w' => e = .returned (.tuple #[.int .u64 0, .int .i64 0, .int .i64 12]) ∧ Below w.heap.size w w' := by
  have hb0 : Below w.heap.size w (w.alloc (.cells #[p0, p1] 24)) := (Below.refl _ _).alloc (Nat.le_refl _) _
  have hs := txt_size l
  have HG : Hid (∀ i (_ : i < l.length) (h' : i < (txt l).size), ((txt l)[i].toNat : Int) = 48 + ((l.getD i false).toNat : Nat)) := Lib.hid (fun i h h' => txt_at l i h h')
  have HZ := Lib.hid hz
  have HE := Lib.hid he
  clear hz he
  have d1 : decide ((64 : Int) ≤ (K : Int) - at') = true := by simp; omega
  generalize txt l = s at *
  go_enter Try.func29, Try.ntmps29
  go_wp2_with fail
  refine (HA.out _ hb0).mono ?_
  rintro e w1 ⟨rfl, hb1⟩
  have HB1 := Lib.hid (next_below hb0 hb1)
  have HC1 := Lib.hid hb1
  clear hb0 hb1
  go_wp2_with fail
  go_loop [9] (fun i => ∃ k : Nat, at' ≤ k ∧ k ≤ K ∧ i = .int .i64 k) (fun i => K - (intOf i).toNat)
  case atStart => exact ⟨at', Nat.le_refl _, hK1, rfl⟩
  case round =>
    obtain ⟨k, hk0, hk, rfl⟩ := hrel
    by_cases hlt : k < l.length
    · have hks : k < s.size := by omega
      have hg := HG.out k hlt hks
      by_cases hkK : k < K
      · rw [HZ.out k hk0 hkK] at hg
        have hg2 : (s[k].toNat : Int) = 48 := hg
        clear hg
        go_wp2_with fail
        exact ⟨⟨k + 1, by omega, by omega, by go_num⟩, by simp [intOf]; omega⟩
      · obtain rfl : k = K := by omega
        rw [HE.out hlt] at hg
        have hg2 : (s[k].toNat : Int) = 49 := hg
        clear hg
        go_wp2_with fail
        exact bodyPost_ret (v := .tuple #[.int .u64 0, .int .i64 0, .int .i64 12]) (by simp [results, Try.results29, go_sem]) rfl ⟨rfl, HB1.out⟩
    · obtain rfl : k = K := by omega
      go_wp2_with fail
      exact bodyPost_ret (v := .tuple #[.int .u64 0, .int .i64 0, .int .i64 12]) (by simp [results, Try.results29, go_sem]) rfl ⟨rfl, HB1.out⟩
set_option maxHeartbeats 2000000 in
theorem refGetKnot_short (p0 p1 : Value) (at' K : Nat) (l : List Bool) (hl : l.length ≤ 10000) (hK1 : at' ≤ K) (hK2 : K ≤ l.length) (hz : ∀ i, at' ≤ i → i < K → l.getD i false = false) (he : K < l.length → l.getD K false = true) (h64 : K < 64 + at') (h3 : l.length < 2 * K - at' + 1) (w : World)
    (HA : Hid (∀ w', Below w.heap.size w w' → Calls Try.prog 13 #[.agg #[p0, p1]] w' fun e w'' => e = .returned (.tuple #[.string (txt l), .bool true]) ∧ Below w'.heap.size w' w'')) :
    Calls Try.prog 29 #[.agg #[p0, p1], .int .i64 at'] w fun e w' => e = .returned (.tuple #[.int .u64 0, .int .i64 0, .int .i64 10]) ∧ Below w.heap.size w w' := by
  have hb0 : Below w.heap.size w (w.alloc (.cells #[p0, p1] 24)) := (Below.refl _ _).alloc (Nat.le_refl _) _
  have hs := txt_size l
  have HG : Hid (∀ i (_ : i < l.length) (h' : i < (txt l).size), ((txt l)[i].toNat : Int) = 48 + ((l.getD i false).toNat : Nat)) := Lib.hid (fun i h h' => txt_at l i h h')
  have HZ := Lib.hid hz
  have HE := Lib.hid he
  clear hz he
  have d1 : decide ((64 : Int) ≤ (K : Int) - at') = false := by simp; omega
  have d2 : decide ((l.length : Int) < 2 * (K : Int) - at' + 1) = true := by simp; omega
  generalize txt l = s at *
  go_enter Try.func29, Try.ntmps29
  go_wp2_with fail
  refine (HA.out _ hb0).mono ?_
  rintro e w1 ⟨rfl, hb1⟩
  have HB1 := Lib.hid (next_below hb0 hb1)
  have HC1 := Lib.hid hb1
  clear hb0 hb1
  go_wp2_with fail
  go_loop [9] (fun i => ∃ k : Nat, at' ≤ k ∧ k ≤ K ∧ i = .int .i64 k) (fun i => K - (intOf i).toNat)
  case atStart => exact ⟨at', Nat.le_refl _, hK1, rfl⟩
  case round =>
    obtain ⟨k, hk0, hk, rfl⟩ := hrel
    by_cases hlt : k < l.length
    · have hks : k < s.size := by omega
      have hg := HG.out k hlt hks
      by_cases hkK : k < K
      · rw [HZ.out k hk0 hkK] at hg
        have hg2 : (s[k].toNat : Int) = 48 := hg
        clear hg
        go_wp2_with fail
        exact ⟨⟨k + 1, by omega, by omega, by go_num⟩, by simp [intOf]; omega⟩
      · obtain rfl : k = K := by omega
        rw [HE.out hlt] at hg
        have hg2 : (s[k].toNat : Int) = 49 := hg
        clear hg
        go_wp2_with fail
        exact bodyPost_ret (v := .tuple #[.int .u64 0, .int .i64 0, .int .i64 10]) (by simp [results, Try.results29, go_sem]) rfl ⟨rfl, HB1.out⟩
    · obtain rfl : k = K := by omega
      go_wp2_with fail
      exact bodyPost_ret (v := .tuple #[.int .u64 0, .int .i64 0, .int .i64 10]) (by simp [results, Try.results29, go_sem]) rfl ⟨rfl, HB1.out⟩
set_option maxHeartbeats 2000000 in
theorem refGetKnot_yes (p0 p1 : Value) (at' K : Nat) (l : List Bool) (hl : l.length ≤ 10000) (hK1 : at' ≤ K) (hK2 : K ≤ l.length) (hz : ∀ i, at' ≤ i → i < K → l.getD i false = false) (he : K < l.length → l.getD K false = true) (h64 : K < 64 + at') (h3 : 2 * K - at' + 1 ≤ l.length) (w : World)
    (HA : Hid (∀ w', Below w.heap.size w w' → Calls Try.prog 13 #[.agg #[p0, p1]] w' fun e w'' => e = .returned (.tuple #[.string (txt l), .bool true]) ∧ Below w'.heap.size w' w'')) :
    Calls Try.prog 29 #[.agg #[p0, p1], .int .i64 at'] w fun e w' => e = .returned (.tuple #[.int .u64 (numAt l K (K - at' + 1) - 1 : Nat), .int .i64 (2 * K - at' + 1 : Nat), .int .i64 0]) ∧ Below w.heap.size w w' := by
  have hb0 : Below w.heap.size w (w.alloc (.cells #[p0, p1] 24)) := (Below.refl _ _).alloc (Nat.le_refl _) _
  have hs := txt_size l
  have HG : Hid (∀ i (_ : i < l.length) (h' : i < (txt l).size), ((txt l)[i].toNat : Int) = 48 + ((l.getD i false).toNat : Nat)) := Lib.hid (fun i h h' => txt_at l i h h')
  have HZ := Lib.hid hz
  have HE := Lib.hid he
  clear hz he
  have d1 : decide ((64 : Int) ≤ (K : Int) - at') = false := by simp; omega
  have d2 : decide ((l.length : Int) < 2 * (K : Int) - at' + 1) = false := by simp; omega
  have hlen : ((l.drop K).take (K - at' + 1)).length = K - at' + 1 := by simp; omega
  have HT : Hid ((txt l).extract K (2 * K - at' + 1) = txt ((l.drop K).take (K - at' + 1))) := by show _ = _; rw [txt_cut, show 2 * K - at' + 1 - K = K - at' + 1 by omega]
  have CN : Hid (∀ w', Calls Try.prog 52 #[.string (txt ((l.drop K).take (K - at' + 1)))] w' fun e w'' => e = .returned (.int .u64 (numAt l K (K - at' + 1) : Nat)) ∧ w'' = w') := Lib.hid (fun w' => by
    have h := refNumber_any ((l.drop K).take (K - at' + 1)) w' (by omega)
    rw [hlen, numAt_cut l K _ _ (Nat.le_refl _)] at h
    exact h)
  clear hlen
  generalize txt ((l.drop K).take (K - at' + 1)) = r at *
  have hq1 : 1 ≤ numAt l K (K - at' + 1) := numAt_pos l K (HE.out (by omega)) (K - at')
  have hq2 : numAt l K (K - at' + 1) < 18446744073709551616 := Nat.lt_of_lt_of_le (numAt_lt _ _ _) (by rw [show 18446744073709551616 = 2 ^ 64 from rfl]; exact Nat.pow_le_pow_right (by omega) (by omega))
  generalize numAt l K (K - at' + 1) = q at *
  generalize txt l = s at *
  go_enter Try.func29, Try.ntmps29
  go_wp2_with fail
  refine (HA.out _ hb0).mono ?_
  rintro e w1 ⟨rfl, hb1⟩
  have HB1 := Lib.hid (next_below hb0 hb1)
  have HC1 := Lib.hid hb1
  clear hb0 hb1
  go_wp2_with fail
  go_loop [9] (fun i => ∃ k : Nat, at' ≤ k ∧ k ≤ K ∧ i = .int .i64 k) (fun i => K - (intOf i).toNat)
  case atStart => exact ⟨at', Nat.le_refl _, hK1, rfl⟩
  case round =>
    obtain ⟨k, hk0, hk, rfl⟩ := hrel
    by_cases hlt : k < l.length
    · have hks : k < s.size := by omega
      have hg := HG.out k hlt hks
      by_cases hkK : k < K
      · rw [HZ.out k hk0 hkK] at hg
        have hg2 : (s[k].toNat : Int) = 48 := hg
        clear hg
        go_wp2_with fail
        exact ⟨⟨k + 1, by omega, by omega, by go_num⟩, by simp [intOf]; omega⟩
      · obtain rfl : k = K := by omega
        rw [HE.out hlt] at hg
        have hg2 : (s[k].toNat : Int) = 49 := hg
        clear hg
        go_wp2_with fail
        rw [HT.out]
        refine (CN.out w1).mono ?_
        rintro e w2 ⟨rfl, rfl⟩
        go_wp2_with fail
        exact bodyPost_ret (v := .tuple #[.int .u64 (q - 1 : Nat), .int .i64 (2 * k - at' + 1 : Nat), .int .i64 0]) (by simp [results, Try.results29, go_sem]; omega) rfl ⟨rfl, HB1.out⟩
    · obtain rfl : k = K := by omega
      omega
end Go.Proofs.Ytgljaimoaijcaaa
