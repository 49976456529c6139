/- Walks: is a strand right? -/
import Derived.Test.YtgljaimoaijcaaaA3
namespace Go.Proofs.Ytgljaimoaijcaaa
open Go.RowKit

theorem drewN_below {B : Nat} {a w : World} (h : Below B a w) (n : Nat) : Below B a (w.drewN n) := ⟨h.os, h.tape, h.output, h.size, h.block⟩
theorem size_quiet (n : Int) (w : World) (a : Nat) (h0 : 0 ≤ n) (h1 : n ≤ 9000000000000000000) :
    Calls Try.prog 45 #[.int .i64 n] (w.drewN a) fun e w'' => e = .returned (.int .i64 ((n + 7) / 8)) ∧ ∃ m, w'' = w.drewN m :=
  (size_any n (w.drewN a) h0 h1).mono fun _ _ ⟨he, hw⟩ => ⟨he, a, hw.symm⟩

set_option maxHeartbeats 400000 in
theorem right_neg (A : Option Addr) (n c : Nat) (L : Int) (w : World) (h : L < 0) :
    Calls Try.prog 16 #[.agg #[.slice A n c, .int .i64 L]] w fun e w' => e = .returned (.bool false) ∧ Below w.heap.size w w' := by
  go_enter Try.func16, Try.ntmps16
  go_wp2_with fail
  go_quiet (fail)
  go_wp2
  go_ret
  exact ⟨rfl, drewN_below ((Below.refl _ _).alloc (Nat.le_refl _) _) _⟩

set_option maxHeartbeats 400000 in
theorem right_big (A : Option Addr) (n c : Nat) (L : Int) (w : World) (h : 4194304 < L) :
    Calls Try.prog 16 #[.agg #[.slice A n c, .int .i64 L]] w fun e w' => e = .returned (.bool false) ∧ Below w.heap.size w w' := by
  have h0 : decide (L < 0) = false := by simp; omega
  go_enter Try.func16, Try.ntmps16
  go_wp2_with fail
  go_quiet (fail)
  go_wp2
  go_ret
  exact ⟨rfl, drewN_below ((Below.refl _ _).alloc (Nat.le_refl _) _) _⟩
set_option maxHeartbeats 400000 in
theorem right_size (A : Option Addr) (n c : Nat) (L : Int) (w : World) (h0 : 0 ≤ L) (h1 : L ≤ 4194304) (h : (n : Int) ≠ (L + 7) / 8) :
    Calls Try.prog 16 #[.agg #[.slice A n c, .int .i64 L]] w fun e w' => e = .returned (.bool false) ∧ Below w.heap.size w w' := by
  have h0' : decide (L < 0) = false := by simp; omega
  have h1' : decide (4194304 < L) = false := by simp; omega
  have h2' : ((n : Int) != (L + 7) / 8) = true := by simpa using h
  clear h
  go_enter Try.func16, Try.ntmps16
  go_wp2_with fail
  go_quiet ((go_at_call 45; exact size_quiet _ _ _ (by omega) (by omega)))
  go_wp2
  go_ret
  exact ⟨rfl, drewN_below ((Below.refl _ _).alloc (Nat.le_refl _) _) _⟩
set_option maxHeartbeats 400000 in
theorem right_even (A : Option Addr) (n c : Nat) (L : Int) (w : World) (h0 : 0 ≤ L) (h1 : L ≤ 4194304) (h : (n : Int) = (L + 7) / 8) (h8 : L % 8 = 0) :
    Calls Try.prog 16 #[.agg #[.slice A n c, .int .i64 L]] w fun e w' => e = .returned (.bool true) ∧ Below w.heap.size w w' := by
  have h0' : decide (L < 0) = false := by simp; omega
  have h1' : decide (4194304 < L) = false := by simp; omega
  have h2' : ((n : Int) != (L + 7) / 8) = false := by simpa using h
  have h3' : (L % 8 == 0) = true := by simpa using h8
  clear h h8
  go_enter Try.func16, Try.ntmps16
  go_wp2_with fail
  go_quiet ((go_at_call 45; exact size_quiet _ _ _ (by omega) (by omega)))
  go_wp2
  go_ret
  exact ⟨rfl, drewN_below ((Below.refl _ _).alloc (Nat.le_refl _) _) _⟩

set_option maxHeartbeats 400000 in
theorem right_odd (ad : Addr) (n c : Nat) (L : Int) (z : Int) (w : World) (h0 : 0 ≤ L) (h1 : L ≤ 4194304) (h : (n : Int) = (L + 7) / 8) (h8 : L % 8 ≠ 0)
   (hbl : ad.block < w.heap.size)
   (hc : w.cell? (ad.add (n - 1)) = some (.int .u8 z)) :
    Calls Try.prog 16 #[.agg #[.slice (some ad) n c, .int .i64 L]] w fun e w' => e = .returned (.bool (z * 2 ^ (L % 8).toNat % 256 == 0)) ∧ Below w.heap.size w w' := by
  have hc' : ∀ o k, ((w.alloc o).drewN k).cell? (ad.add (n - 1)) = some (.int .u8 z) := fun o k => (World.cell?_alloc_lt w o _ (by rw [block_add]; exact hbl)).trans hc
  have h0' : decide (L < 0) = false := by simp; omega
  have h1' : decide (4194304 < L) = false := by simp; omega
  have h2' : ((n : Int) != (L + 7) / 8) = false := by simpa using h
  have h3' : (L % 8 == 0) = false := by simpa using h8
  have hn : 1 ≤ n := by omega
  have hn2 : n ≤ 600000 := by omega
  have h80 : 0 ≤ L % 8 := by omega
  have h81 : L % 8 < 8 := by omega
  clear h h8 hc
  go_enter Try.func16, Try.ntmps16
  go_wp2_with fail
  go_quiet ((go_at_call 45; exact size_quiet _ _ _ (by omega) (by omega)))
  go_wp2
  go_ret
  exact ⟨rfl, drewN_below ((Below.refl _ _).alloc (Nat.le_refl _) _) _⟩

/-- What stands at A reads as these bytes. -/
def RdB (w : World) (A : Option Addr) (xs : List Int) : Prop := ∀ q x, xs[q]? = some x → ∃ ad, A = some ad ∧ ad.block < w.heap.size ∧ w.cell? (ad.add q) = some (.int .u8 x)
theorem RdB.below {w w' : World} {A : Option Addr} {xs : List Int} (h : RdB w A xs) (hb : Below w.heap.size w w') : RdB w' A xs := fun q x hq => by
  obtain ⟨ad, e, hl, hc⟩ := h q x hq
  exact ⟨ad, e, Nat.lt_of_lt_of_le hl hb.size, (hb.cell (by rw [block_add]; exact hl)).trans hc⟩
def isBytes (xs : List Int) : Prop := ∀ x ∈ xs, 0 ≤ x ∧ x < 256
/-- Is that many bits in these bytes a strand? -/
def rightB (xs : List Int) (L : Int) : Bool := decide (0 ≤ L ∧ L ≤ 4194304 ∧ (xs.length : Int) = (L + 7) / 8) && (L % 8 == 0 || xs.getD (xs.length - 1) 0 * 2 ^ (L % 8).toNat % 256 == 0)

theorem right_val (A : Option Addr) (xs : List Int) (c : Nat) (L : Int) (w : World) (hr : RdB w A xs) :
    Calls Try.prog 16 #[.agg #[.slice A xs.length c, .int .i64 L]] w fun e w' => e = .returned (.bool (rightB xs L)) ∧ Below w.heap.size w w' := by
  by_cases h0 : L < 0
  · have e : rightB xs L = false := by unfold rightB; simp; omega
    rw [e]; exact right_neg A _ c L w h0
  by_cases h1 : 4194304 < L
  · have e : rightB xs L = false := by unfold rightB; simp; omega
    rw [e]; exact right_big A _ c L w h1
  by_cases h2 : (xs.length : Int) = (L + 7) / 8
  · by_cases h3 : L % 8 = 0
    · have e : rightB xs L = true := by unfold rightB; simp [h2, h3]; omega
      rw [e]; exact right_even A _ c L w (by omega) (by omega) h2 h3
    · have hlt : xs.length - 1 < xs.length := by omega
      have hq : xs[xs.length - 1]? = some (xs[xs.length - 1]) := List.getElem?_eq_getElem hlt
      obtain ⟨ad, rfl, hb, hc⟩ := hr _ _ hq
      have e : rightB xs L = (xs[xs.length - 1] * 2 ^ (L % 8).toNat % 256 == 0) := by
        unfold rightB
        have e1 : (L % 8 == 0) = false := by simpa using h3
        have e2 : decide (0 ≤ L ∧ L ≤ 4194304 ∧ (xs.length : Int) = (L + 7) / 8) = true := by simp; omega
        have e3 : xs.getD (xs.length - 1) 0 = xs[xs.length - 1] := by simp [List.getD, hq]
        rw [e1, e2, e3]; simp
      rw [e]; exact right_odd ad _ c L _ w (by omega) (by omega) h2 h3 hb hc
  · have e : rightB xs L = false := by unfold rightB; simp; omega
    rw [e]; exact right_size A _ c L w (by omega) (by omega) h2

theorem cast_shl (x k : Nat) : (x : Int) * 2 ^ k % 256 = ((x * 2 ^ k % 256 : Nat) : Int) := by rw [Int.natCast_emod, Int.natCast_mul, Int.natCast_pow]; rfl
theorem b8_of : ∀ x : Fin 256, b8 (x.val / 128 % 2 == 1) (x.val / 64 % 2 == 1) (x.val / 32 % 2 == 1) (x.val / 16 % 2 == 1) (x.val / 8 % 2 == 1) (x.val / 4 % 2 == 1) (x.val / 2 % 2 == 1) (x.val % 2 == 1) = x.val := by decide +kernel
theorem low_zero : ∀ (x : Fin 256) (r j : Fin 8), x.val * 2 ^ r.val % 256 = 0 → r.val ≤ j.val → x.val / 2 ^ (7 - j.val) % 2 = 0 := by decide +kernel
theorem zero_low (a b c d e f g h : Bool) : ∀ r : Fin 8, (∀ j : Fin 8, r.val ≤ j.val → [a,b,c,d,e,f,g,h].getD j.val false = false) → b8 a b c d e f g h * 2 ^ r.val % 256 = 0 := by
  revert a b c d e f g h; decide +kernel

def bitsOf (xs : List Int) (n : Nat) : List Bool := (List.range n).map fun i => (xs.getD (i / 8) 0).toNat / 2 ^ (7 - i % 8) % 2 == 1

theorem rightB_bits (xs : List Int) (L : Int) (hx : isBytes xs) (h : rightB xs L = true) :
    ∃ l : List Bool, L = (l.length : Nat) ∧ l.length ≤ 4194304 ∧ xs.length = nB l ∧ ∀ q, q < nB l → xs[q]? = some ((byteOf l q : Nat) : Int) := by
  unfold rightB at h
  rw [Bool.and_eq_true] at h
  obtain ⟨h1, h2⟩ := h
  have h1' := of_decide_eq_true h1
  obtain ⟨n, rfl⟩ := Int.eq_ofNat_of_zero_le h1'.1
  refine ⟨bitsOf xs n, by simp [bitsOf], by simp [bitsOf]; omega, by simp [bitsOf, nB]; omega, ?_⟩
  intro q hq
  have hn : nB (bitsOf xs n) = (n + 7) / 8 := by simp [bitsOf, nB]
  rw [hn] at hq
  have hql : q < xs.length := by omega
  have hxq := hx _ (List.getElem_mem hql)
  obtain ⟨x, hxe⟩ := Int.eq_ofNat_of_zero_le hxq.1
  have hx256 : x < 256 := by omega
  rw [List.getElem?_eq_getElem hql, hxe]
  congr 2
  have hbit : ∀ r, r < 8 → (bitsOf xs n).getD (8 * q + r) false = (x / 2 ^ (7 - r) % 2 == 1) := by
    intro r hr
    by_cases hin : 8 * q + r < n
    · have e1 : (8 * q + r) / 8 = q := by omega
      have e2 : (8 * q + r) % 8 = r := by omega
      have e3 : xs.getD q 0 = (x : Int) := by simp [List.getD, List.getElem?_eq_getElem hql, hxe]
      simp only [bitsOf, List.getD, List.getElem?_map, List.getElem?_range hin, Option.map_some, Option.getD_some, e1, e2]
      have e4 : xs[q]?.getD 0 = (x : Int) := e3
      rw [e4]
      simp
    · have hl : (bitsOf xs n).length ≤ 8 * q + r := by simp [bitsOf]; omega
      rw [List.getD, List.getElem?_eq_none hl]
      have hlast : q = xs.length - 1 := by omega
      simp only [Bool.or_eq_true] at h2
      rcases h2 with h3 | h3
      · have : (n : Int) % 8 = 0 := by simpa using h3
        omega
      · have e3 : xs.getD (xs.length - 1) 0 = (x : Int) := by rw [← hlast]; simp [List.getD, List.getElem?_eq_getElem hql, hxe]
        rw [e3] at h3
        have h4 : (x : Int) * 2 ^ ((n : Int) % 8).toNat % 256 = 0 := by simpa using h3
        have e5 : ((n : Int) % 8).toNat = n % 8 := by omega
        rw [e5] at h4
        have h5 : x * 2 ^ (n % 8) % 256 = 0 := by rw [cast_shl] at h4; exact Int.natCast_inj.1 h4
        have h6 := low_zero ⟨x, hx256⟩ ⟨n % 8, by omega⟩ ⟨r, hr⟩ h5 (by show n % 8 ≤ r; omega)
        simp at h6
        simp [h6]
  have hf := b8_of ⟨x, hx256⟩
  unfold byteOf
  have b0 := hbit 0 (by omega)
  rw [Nat.add_zero] at b0
  rw [b0, hbit 1 (by omega), hbit 2 (by omega), hbit 3 (by omega), hbit 4 (by omega), hbit 5 (by omega), hbit 6 (by omega), hbit 7 (by omega)]
  simpa using hf.symm

theorem bits_right (l : List Bool) (h : l.length ≤ 4194304) : rightB ((List.range (nB l)).map fun q => ((byteOf l q : Nat) : Int)) (l.length : Nat) = true := by
  unfold rightB
  rw [Bool.and_eq_true]
  constructor
  · simp [nB]; omega
  · rw [Bool.or_eq_true]
    by_cases h8 : l.length % 8 = 0
    · left; simp; omega
    · right
      have hn : nB l - 1 < nB l := by unfold nB; omega
      have e : ((List.range (nB l)).map fun q => ((byteOf l q : Nat) : Int)).getD (((List.range (nB l)).map fun q => ((byteOf l q : Nat) : Int)).length - 1) 0 = ((byteOf l (nB l - 1) : Nat) : Int) := by
        simp [List.getD, hn]
      rw [e]
      have e5 : ((l.length : Int) % 8).toNat = l.length % 8 := by omega
      rw [e5]
      have hz := zero_low (l.getD (8*(nB l - 1)) false) (l.getD (8*(nB l - 1)+1) false) (l.getD (8*(nB l - 1)+2) false) (l.getD (8*(nB l - 1)+3) false) (l.getD (8*(nB l - 1)+4) false) (l.getD (8*(nB l - 1)+5) false) (l.getD (8*(nB l - 1)+6) false) (l.getD (8*(nB l - 1)+7) false) ⟨l.length % 8, by omega⟩
      have hfar : ∀ j, l.length % 8 ≤ j → l.getD (8 * (nB l - 1) + j) false = false := by
        intro j hj
        rw [List.getD, List.getElem?_eq_none (by unfold nB at *; omega)]; rfl
      have hz' : byteOf l (nB l - 1) * 2 ^ (l.length % 8) % 256 = 0 := by
        unfold byteOf
        apply hz
        intro j hj
        have := hfar j.val hj
        match j, this with
        | ⟨0, _⟩, h => exact h
        | ⟨1, _⟩, h => exact h
        | ⟨2, _⟩, h => exact h
        | ⟨3, _⟩, h => exact h
        | ⟨4, _⟩, h => exact h
        | ⟨5, _⟩, h => exact h
        | ⟨6, _⟩, h => exact h
        | ⟨7, _⟩, h => exact h
      have : ((byteOf l (nB l - 1) : Nat) : Int) * 2 ^ (l.length % 8) % 256 = 0 := by rw [cast_shl, hz']; rfl
      rw [this]; rfl

theorem Rd.bytes {w : World} {A : Option Addr} {l : List Bool} (h : Rd w A l) : RdB w A ((List.range (nB l)).map fun q => ((byteOf l q : Nat) : Int)) := by
  intro q x hq
  have hlt : q < nB l := by have := (List.getElem?_eq_some_iff.1 hq).1; simpa using this
  obtain ⟨ad, e, hb, hc⟩ := h q hlt
  refine ⟨ad, e, hb, ?_⟩
  rw [hc]
  simp [hlt] at hq
  rw [← hq]; rfl

theorem right_yes (A : Option Addr) (l : List Bool) (n c : Nat) (L : Int) (w : World) (hr : Rd w A l) (hn : n = nB l) (hL : L = (l.length : Nat)) (hm : l.length ≤ 4194304) :
    Calls Try.prog 16 #[.agg #[.slice A n c, .int .i64 L]] w fun e w' => e = .returned (.bool true) ∧ Below w.heap.size w w' := by
  subst hn hL
  have h := right_val A _ c (l.length : Nat) w hr.bytes
  rw [bits_right l hm] at h
  simpa using h
end Go.Proofs.Ytgljaimoaijcaaa
