/- The document's own answer: bytes unpacked. -/
import Derived.Test.YtgljaimoaijcaaaT14
namespace Go.Proofs.Ytgljaimoaijcaaa
open Go.RowKit

set_option maxHeartbeats 2000000 in
theorem refUnpack_bad (A : Option Addr) (c n M : Nat) (xs : List Int) (w : World) (hr : RdB w A xs) (hx : isBytes xs) (hn : n = xs.length) (hm : n ≤ 250) (hM : M ≤ 8 * n)
    (hz : ∀ i, M ≤ i → i < 8 * n → (bitsOf xs (8 * n)).getD i false = false) (he : ∀ j, M = j + 1 → (bitsOf xs (8 * n)).getD j false = true) (h : M = 0 ∨ M + 7 < 8 * n) :
    Calls Try.prog 25 #[.slice A n c] w (ErrSt 13 w) := by
  have hb0 : Below w.heap.size w (w.alloc (.cells #[.slice none 0 0, .int .i64 0] 24)) := (Below.refl _ _).alloc (Nat.le_refl _) _
  have hs := txt_size (bitsOf xs (8 * n))
  rw [bitsOf_length] at hs
  have C := Lib.hid (refSaid_any A c n xs _ (hr.below hb0) hx hn (by omega))
  have HG : Hid (∀ i (_ : i < 8 * n) (h' : i < (txt (bitsOf xs (8 * n))).size), ((txt (bitsOf xs (8 * n)))[i].toNat : Int) = 48 + (((bitsOf xs (8 * n)).getD i false).toNat : Nat)) := Lib.hid (fun i h h' => txt_at _ i (by rw [bitsOf_length]; exact h) h')
  have HT := Lib.hid (txt_take (bitsOf xs (8 * n)))
  have hBl := bitsOf_length xs (8 * n)
  have HZ := Lib.hid hz
  have HE := Lib.hid he
  clear hr hx hn hz he
  generalize txt (bitsOf xs (8 * n)) = s at *
  generalize bitsOf xs (8 * n) = B at *
  go_enter Try.func25, Try.ntmps25
  go_wp2_with fail
  refine C.out.mono ?_
  rintro e w1 ⟨rfl, hb1⟩
  obtain ⟨hc, hf⟩ := old_cells hb1
  have HB1 := Lib.hid (next_below hb0 hb1)
  have HC1 := Lib.hid hb1
  clear hb0 hb1 C
  go_wp2_with fail
  go_loop [5] (fun i => ∃ k : Nat, M ≤ k ∧ k ≤ 8 * n ∧ i = .int .i64 ((k : Int) - 1)) (fun i => (intOf i + 1).toNat)
  case atStart => exact ⟨8 * n, hM, Nat.le_refl _, by go_num⟩
  case round =>
    obtain ⟨k, hk0, hk, rfl⟩ := hrel
    cases k with
    | zero =>
      obtain rfl : M = 0 := by omega
      go_wp2_with fail
      refine bodyPost_ret (v := .tuple #[.agg #[.slice none 0 0, .int .i64 0], .int .i64 13]) (by simp [results, Try.results25, go_sem, hc]) rfl ⟨rfl, ?_⟩
      exact (HB1.out.setCell (by show _ ≤ w.heap.size; omega) _).setCell (by show _ ≤ w.heap.size; omega) _
    | succ j =>
      rw [show ((j + 1 : Nat) : Int) - 1 = (j : Nat) by omega]
      have hks : j < s.size := by omega
      have hg := HG.out j (by omega) hks
      by_cases hkK : M ≤ j
      · rw [HZ.out j hkK (by omega)] at hg
        have hg2 : (s[j].toNat : Int) = 48 := hg
        clear hg
        go_wp2_with fail
        exact ⟨⟨j, by omega, by omega, by go_num⟩, by simp [intOf] <;> omega⟩
      · obtain rfl : M = j + 1 := by omega
        rw [HE.out j rfl] at hg
        have hg2 : (s[j].toNat : Int) = 49 := hg
        clear hg
        have d1 : decide ((8 : Int) < 8 * (n : Int) - j) = true := by simp; omega
        go_wp2_with fail
        refine bodyPost_ret (v := .tuple #[.agg #[.slice none 0 0, .int .i64 0], .int .i64 13]) (by simp [results, Try.results25, go_sem, hc]) rfl ⟨rfl, ?_⟩
        exact (HB1.out.setCell (by show _ ≤ w.heap.size; omega) _).setCell (by show _ ≤ w.heap.size; omega) _
set_option maxHeartbeats 2000000 in
theorem refUnpack_good (A : Option Addr) (c n M : Nat) (xs : List Int) (w : World) (hr : RdB w A xs) (hx : isBytes xs) (hn : n = xs.length) (hm : n ≤ 250) (hM : M ≤ 8 * n)
    (hz : ∀ i, M ≤ i → i < 8 * n → (bitsOf xs (8 * n)).getD i false = false) (he : ∀ j, M = j + 1 → (bitsOf xs (8 * n)).getD j false = true) (h : 0 < M) (h2 : 8 * n ≤ M + 7) :
    Calls Try.prog 25 #[.slice A n c] w (NewSt ((bitsOf xs (8 * n)).take (M - 1)) w) := by
  have hb0 : Below w.heap.size w (w.alloc (.cells #[.slice none 0 0, .int .i64 0] 24)) := (Below.refl _ _).alloc (Nat.le_refl _) _
  have hs := txt_size (bitsOf xs (8 * n))
  rw [bitsOf_length] at hs
  have C := Lib.hid (refSaid_any A c n xs _ (hr.below hb0) hx hn (by omega))
  have HG : Hid (∀ i (_ : i < 8 * n) (h' : i < (txt (bitsOf xs (8 * n))).size), ((txt (bitsOf xs (8 * n)))[i].toNat : Int) = 48 + (((bitsOf xs (8 * n)).getD i false).toNat : Nat)) := Lib.hid (fun i h h' => txt_at _ i (by rw [bitsOf_length]; exact h) h')
  have HT := Lib.hid (txt_take (bitsOf xs (8 * n)))
  have hBl := bitsOf_length xs (8 * n)
  have HZ := Lib.hid hz
  have HE := Lib.hid he
  clear hr hx hn hz he
  generalize txt (bitsOf xs (8 * n)) = s at *
  generalize bitsOf xs (8 * n) = B at *
  go_enter Try.func25, Try.ntmps25
  go_wp2_with fail
  refine C.out.mono ?_
  rintro e w1 ⟨rfl, hb1⟩
  obtain ⟨hc, hf⟩ := old_cells hb1
  have HB1 := Lib.hid (next_below hb0 hb1)
  have HC1 := Lib.hid hb1
  clear hb0 hb1 C
  go_wp2_with fail
  go_loop [5] (fun i => ∃ k : Nat, M ≤ k ∧ k ≤ 8 * n ∧ i = .int .i64 ((k : Int) - 1)) (fun i => (intOf i + 1).toNat)
  case atStart => exact ⟨8 * n, hM, Nat.le_refl _, by go_num⟩
  case round =>
    obtain ⟨k, hk0, hk, rfl⟩ := hrel
    cases k with
    | zero =>
      obtain rfl : M = 0 := by omega
      omega
    | succ j =>
      rw [show ((j + 1 : Nat) : Int) - 1 = (j : Nat) by omega]
      have hks : j < s.size := by omega
      have hg := HG.out j (by omega) hks
      by_cases hkK : M ≤ j
      · rw [HZ.out j hkK (by omega)] at hg
        have hg2 : (s[j].toNat : Int) = 48 := hg
        clear hg
        go_wp2_with fail
        exact ⟨⟨j, by omega, by omega, by go_num⟩, by simp [intOf] <;> omega⟩
      · obtain rfl : M = j + 1 := by omega
        rw [HE.out j rfl] at hg
        have hg2 : (s[j].toNat : Int) = 49 := hg
        clear hg
        have d1 : decide ((8 : Int) < 8 * (n : Int) - j) = false := by simp; omega
        go_wp2_with fail
        rw [HT.out]
        refine (refOf_any (B.take j) w1 (by simp; omega)).mono ?_
        rintro e w3 ⟨g, v, rfl, ⟨rfl, hO⟩, hg, hb3⟩
        have hC3 := next_below HC1.out hb3
        have hB3 := next_below HB1.out hb3
        have hz := HC1.out.size
        clear hc hf
        obtain ⟨hc, hf⟩ := old_cells hC3
        have HO := Lib.hid hO
        have HB3 := Lib.hid hB3
        simp at hz
        clear hO hB3 hC3 hb3
        generalize hr' : B.take j = r at *
        go_wp2_with fail
        rw [Nat.add_sub_cancel, hr']
        have hne : g ≠ w.heap.size := by omega
        refine bodyPost_ret (v := .tuple #[.agg #[.slice (some ⟨g, 0, none⟩) (nB r) (nB r), .int .i64 (r.length : Nat)], .int .i64 0]) (by simp [results, Try.results25, go_sem, hc]) rfl ⟨g, _, rfl, ⟨rfl, (HO.out.far hne _).far hne _⟩, by omega, ?_⟩
        exact (HB3.out.setCell (by show _ ≤ w.heap.size; omega) _).setCell (by show _ ≤ w.heap.size; omega) _
end Go.Proofs.Ytgljaimoaijcaaa
