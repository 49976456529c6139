/- The document's own answer, what a strand's digits are: of a right one, and of one that is not. -/
import Derived.Test.YtgljaimoaijcaaaT7
import Derived.Test.YtgljaimoaijcaaaB6
namespace Go.Proofs.Ytgljaimoaijcaaa
open Go.RowKit

theorem first_true (f : Nat → Bool) (a d : Nat) : (∀ i, a ≤ i → i < a + d → f i = false) ∨ ∃ K, a ≤ K ∧ K < a + d ∧ f K = true ∧ ∀ i, a ≤ i → i < K → f i = false := by
  induction d with
  | zero => left; intro i h1 h2; omega
  | succ d ih =>
    rcases ih with h | ⟨K, h1, h2, h3, h4⟩
    · by_cases e : f (a + d) = true
      · right
        exact ⟨a + d, by omega, by omega, e, h⟩
      · left
        intro i h1 h2
        by_cases hi : i = a + d
        · subst hi
          simpa using e
        · exact h i h1 (by omega)
    · right
      exact ⟨K, h1, by omega, h3, h4⟩
theorem bitsOf_get (xs : List Int) (n i : Nat) (h : i < n) : (bitsOf xs n).getD i false = ((xs.getD (i / 8) 0).toNat / 2 ^ (7 - i % 8) % 2 == 1) := by
  simp [bitsOf, List.getD, h]
def rowB (l : List Bool) : List Int := (List.range (nB l)).map fun q => ((byteOf l q : Nat) : Int)
theorem rowB_length (l : List Bool) : (rowB l).length = nB l := by simp [rowB]
theorem rowB_bytes (l : List Bool) : isBytes (rowB l) := by
  intro x hx
  simp only [rowB, List.mem_map] at hx
  obtain ⟨q, _, rfl⟩ := hx
  have := byteOf_lt l q
  omega
theorem bits_row (l : List Bool) (i : Nat) (h : i < 8 * nB l) : (bitsOf (rowB l) (8 * nB l)).getD i false = l.getD i false := by
  rw [bitsOf_get _ _ _ h]
  have hq : i / 8 < nB l := by omega
  have e : (rowB l).getD (i / 8) 0 = ((byteOf l (i / 8) : Nat) : Int) := by simp [rowB, List.getD, hq]
  rw [e, Int.toNat_natCast, byteOf_at]
  cases l.getD i false <;> rfl
theorem nB_bounds (l : List Bool) : l.length ≤ 8 * nB l ∧ 8 * nB l ≤ l.length + 7 := by unfold nB; omega
theorem row_take (l : List Bool) : (bitsOf (rowB l) (8 * nB l)).take l.length = l := by
  have hb := nB_bounds l
  apply List.ext_getElem (by simp [bitsOf_length]; omega)
  intro i h1 h2
  have h := bits_row l i (by omega)
  rw [List.getElem_take]
  have e1 : (bitsOf (rowB l) (8 * nB l)).getD i false = (bitsOf (rowB l) (8 * nB l))[i]'(by rw [bitsOf_length]; omega) := by
    simp [List.getD, List.getElem?_eq_getElem (show i < (bitsOf (rowB l) (8 * nB l)).length by rw [bitsOf_length]; omega)]
  have e2 : l.getD i false = l[i] := by simp [List.getD, List.getElem?_eq_getElem h2]
  rw [← e1, ← e2, h]

theorem refText_yes (A : Option Addr) (c : Nat) (l : List Bool) (w : World) (hr : Rd w A l) (hm : l.length ≤ 4194304) :
    Calls Try.prog 13 #[.agg #[.slice A (nB l) c, .int .i64 (l.length : Nat)]] w fun e w' => e = .returned (.tuple #[.string (txt l), .bool true]) ∧ Below w.heap.size w w' := by
  have hb := nB_bounds l
  have h := refText_loop A c (nB l) l.length (8 * nB l) (rowB l) w hr.bytes (rowB_bytes l) (rowB_length l).symm (by omega) hm hb.1 hb.2 hb.1 (Nat.le_refl _) (fun i h1 h2 => by
    rw [bits_row l i h2]; simp [List.getD, List.getElem?_eq_none h1]) (fun h => absurd h (by omega))
  rw [row_take] at h
  simpa using h

theorem zero_right (xs : List Int) (l : Nat) (hx : isBytes xs) (hl : l ≤ 4194304) (hn : xs.length = (l + 7) / 8) (hz : ∀ i, l ≤ i → i < 8 * xs.length → (bitsOf xs (8 * xs.length)).getD i false = false) : rightB xs (l : Nat) = true := by
  unfold rightB
  rw [Bool.and_eq_true]
  refine ⟨decide_eq_true ⟨by omega, by omega, by omega⟩, ?_⟩
  rw [Bool.or_eq_true]
  by_cases h8 : l % 8 = 0
  · left
    have : (l : Int) % 8 = 0 := by omega
    simpa using this
  · right
    have hql : xs.length - 1 < xs.length := by omega
    have hxq := hx _ (List.getElem_mem hql)
    obtain ⟨x, hxe⟩ := Int.eq_ofNat_of_zero_le hxq.1
    have hx256 : x < 256 := by omega
    have e3 : xs.getD (xs.length - 1) 0 = (x : Int) := by simp [List.getD, List.getElem?_eq_getElem hql, hxe]
    have e5 : ((l : Int) % 8).toNat = l % 8 := by omega
    have hf := b8_of ⟨x, hx256⟩
    have hz2 : ∀ j : Fin 8, l % 8 ≤ j.val → x / 2 ^ (7 - j.val) % 2 = 0 := by
      intro j hj
      have h1 := hz (8 * (xs.length - 1) + j.val) (by omega) (by have := j.isLt; omega)
      rw [bitsOf_get _ _ _ (by have := j.isLt; omega), show (8 * (xs.length - 1) + j.val) / 8 = xs.length - 1 by have := j.isLt; omega, show (8 * (xs.length - 1) + j.val) % 8 = j.val by have := j.isLt; omega, e3, Int.toNat_natCast] at h1
      have := beq_eq_false_iff_ne.1 h1
      omega
    have h9 := zero_low (x / 128 % 2 == 1) (x / 64 % 2 == 1) (x / 32 % 2 == 1) (x / 16 % 2 == 1) (x / 8 % 2 == 1) (x / 4 % 2 == 1) (x / 2 % 2 == 1) (x % 2 == 1) ⟨l % 8, by omega⟩ (by
      intro j hj
      have h := hz2 j hj
      match j, hj, h with
      | ⟨0, _⟩, _, h => simpa using h
      | ⟨1, _⟩, _, h => simpa using h
      | ⟨2, _⟩, _, h => simpa using h
      | ⟨3, _⟩, _, h => simpa using h
      | ⟨4, _⟩, _, h => simpa using h
      | ⟨5, _⟩, _, h => simpa using h
      | ⟨6, _⟩, _, h => simpa using h
      | ⟨7, _⟩, _, h => simpa using h)
    have hf' : b8 (x / 128 % 2 == 1) (x / 64 % 2 == 1) (x / 32 % 2 == 1) (x / 16 % 2 == 1) (x / 8 % 2 == 1) (x / 4 % 2 == 1) (x / 2 % 2 == 1) (x % 2 == 1) = x := hf
    rw [hf'] at h9
    rw [e3, e5, cast_shl]
    have h10 : x * 2 ^ (l % 8) % 256 = 0 := h9
    rw [h10]; rfl

theorem refText_no (A : Option Addr) (c n : Nat) (L : Int) (xs : List Int) (w : World) (hr : RdB w A xs) (hx : isBytes xs) (hn : n = xs.length) (hm : n ≤ 600000) (h : rightB xs L = false)
    (hL0 : -9223372036854775808 ≤ L) (hL1 : L ≤ 9223372036854775807) :
    Calls Try.prog 13 #[.agg #[.slice A n c, .int .i64 L]] w fun e w' => e = .returned (.tuple #[.string ⟨#[]⟩, .bool false]) ∧ Below w.heap.size w w' := by
  by_cases hb : L < 0 ∨ 4194304 < L ∨ 8 * (n : Int) < L ∨ 7 < 8 * (n : Int) - L
  · exact refText_bad A c n L xs w hr hx hn hm hb hL0 hL1
  · obtain ⟨l, rfl⟩ := Int.eq_ofNat_of_zero_le (by omega : 0 ≤ L)
    rcases first_true (fun i => (bitsOf xs (8 * n)).getD i false) l (8 * n - l) with hz | ⟨K, h1, h2, h3, h4⟩
    · exfalso
      subst hn
      rw [zero_right xs l hx (by omega) (by omega) (fun i a b => hz i a (by omega))] at h
      cases h
    · have hk : K < 8 * n := by omega
      have hh := refText_loop A c n l K xs w hr hx hn hm (by omega) (by omega) (by omega) h1 (by omega) h4 (fun _ => h3)
      rw [if_pos hk] at hh
      simpa [hk] using hh
end Go.Proofs.Ytgljaimoaijcaaa
