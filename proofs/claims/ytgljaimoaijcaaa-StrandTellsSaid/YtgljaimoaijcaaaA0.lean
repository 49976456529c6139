/- Plain facts on bits in a row and the bytes that hold them. -/
import Derived.WalkKit
namespace Go.Proofs.Ytgljaimoaijcaaa
open Go.RowKit

def b8 (a b c d e f g h : Bool) : Nat := 128 * a.toNat + 64 * b.toNat + 32 * c.toNat + 16 * d.toNat + 8 * e.toNat + 4 * f.toNat + 2 * g.toNat + h.toNat
/-- The byte of number q of bits in a row. -/
def byteOf (l : List Bool) (q : Nat) : Nat := b8 (l.getD (8*q) false) (l.getD (8*q+1) false) (l.getD (8*q+2) false) (l.getD (8*q+3) false) (l.getD (8*q+4) false) (l.getD (8*q+5) false) (l.getD (8*q+6) false) (l.getD (8*q+7) false)

theorem b8_lt (a b c d e f g h : Bool) : b8 a b c d e f g h < 256 := by revert a b c d e f g h; decide +kernel
theorem byteOf_lt (l : List Bool) (q : Nat) : byteOf l q < 256 := b8_lt _ _ _ _ _ _ _ _

theorem b8_bit (a b c d e f g h : Bool) : ∀ r : Fin 8, b8 a b c d e f g h / 2 ^ (7 - r.val) % 2 = ([a,b,c,d,e,f,g,h].getD r.val false).toNat := by
  revert a b c d e f g h; decide +kernel
theorem byteOf_bit (l : List Bool) (q r : Nat) (h : r < 8) : byteOf l q / 2 ^ (7 - r) % 2 = (l.getD (8*q+r) false).toNat := by
  unfold byteOf
  rw [b8_bit _ _ _ _ _ _ _ _ ⟨r, h⟩]
  match r, h with
  | 0, _ => rfl
  | 1, _ => rfl
  | 2, _ => rfl
  | 3, _ => rfl
  | 4, _ => rfl
  | 5, _ => rfl
  | 6, _ => rfl
  | 7, _ => rfl
theorem byteOf_at (l : List Bool) (i : Nat) : byteOf l (i / 8) / 2 ^ (7 - i % 8) % 2 = (l.getD i false).toNat := by
  rw [byteOf_bit l (i/8) (i%8) (by omega), show 8 * (i/8) + i % 8 = i from by omega]

theorem b8_or (a b c d e f g h : Bool) : ∀ r : Fin 8, b8 a b c d e f g h ||| 2 ^ (7 - r.val) =
    b8 (a || r.val == 0) (b || r.val == 1) (c || r.val == 2) (d || r.val == 3) (e || r.val == 4) (f || r.val == 5) (g || r.val == 6) (h || r.val == 7) := by
  revert a b c d e f g h; decide +kernel

theorem getD_set (l : List Bool) (i j : Nat) (h : i < l.length) : (l.set i true).getD j false = (l.getD j false || j == i) := by
  by_cases e : j = i
  · subst e; simp [List.getD, h]
  · have : (j == i) = false := by simpa using e
    rw [this]; simp [List.getD, List.getElem?_set_ne (Ne.symm e)]

theorem byteOf_set (l : List Bool) (i : Nat) (h : i < l.length) : byteOf (l.set i true) (i/8) = byteOf l (i/8) ||| 2 ^ (7 - i % 8) := by
  unfold byteOf
  rw [b8_or _ _ _ _ _ _ _ _ ⟨i % 8, by omega⟩]
  simp only [getD_set _ _ _ h]
  have e : ∀ r, r < 8 → ((8 * (i/8) + r == i) = (i % 8 == r)) := by
    intro r hr; rw [Bool.eq_iff_iff]; simp; omega
  have e0 := e 0 (by omega)
  rw [Nat.add_zero] at e0
  rw [e0, e 1 (by omega), e 2 (by omega), e 3 (by omega), e 4 (by omega), e 5 (by omega), e 6 (by omega), e 7 (by omega)]

theorem byteOf_set_other (l : List Bool) (i q : Nat) (h : i < l.length) (hq : q ≠ i / 8) : byteOf (l.set i true) q = byteOf l q := by
  unfold byteOf
  simp only [getD_set _ _ _ h]
  have e : ∀ r, r < 8 → ((8 * q + r == i) = false) := by
    intro r hr; simp; omega
  have e0 := e 0 (by omega)
  rw [Nat.add_zero] at e0
  rw [e0, e 1 (by omega), e 2 (by omega), e 3 (by omega), e 4 (by omega), e 5 (by omega), e 6 (by omega), e 7 (by omega)]
  simp

theorem byteOf_congr {l m : List Bool} {q : Nat} (h : ∀ r, r < 8 → l.getD (8*q+r) false = m.getD (8*q+r) false) : byteOf l q = byteOf m q := by
  unfold byteOf
  have h0 := h 0 (by omega)
  rw [Nat.add_zero] at h0
  rw [h0, h 1 (by omega), h 2 (by omega), h 3 (by omega), h 4 (by omega), h 5 (by omega), h 6 (by omega), h 7 (by omega)]

theorem byteOf_nil (q : Nat) : byteOf [] q = 0 := by unfold byteOf; simp [b8]
theorem byteOf_far {l : List Bool} {q : Nat} (h : l.length ≤ 8 * q) : byteOf l q = 0 := by
  rw [← byteOf_nil q]
  apply byteOf_congr
  intro r _
  simp [List.getD, List.getElem?_eq_none (show l.length ≤ 8*q+r by omega)]

/-- How many bytes bits take. -/
def nB (l : List Bool) : Nat := (l.length + 7) / 8
def by8 (n : Nat) : Value := .int .u8 (n : Int)
/-- The cells of bits in a row. -/
def cellsOf (l : List Bool) : Array Value := ((List.range (nB l)).map fun q => by8 (byteOf l q)).toArray
theorem cellsOf_size (l : List Bool) : (cellsOf l).size = nB l := by simp [cellsOf]
theorem cellsOf_get (l : List Bool) (q : Nat) (h : q < nB l) : (cellsOf l)[q]? = some (by8 (byteOf l q)) := by
  simp [cellsOf, h]

theorem nB_set (l : List Bool) (i : Nat) (b : Bool) : nB (l.set i b) = nB l := by simp [nB]
theorem cellsOf_set (l : List Bool) (i : Nat) (h : i < l.length) : (cellsOf l).setIfInBounds (i/8) (by8 (byteOf l (i/8) ||| 2 ^ (7 - i % 8))) = cellsOf (l.set i true) := by
  apply Array.ext
  · simp [cellsOf_size, nB_set]
  · intro q h1 h2
    have hq : q < nB l := by simpa [cellsOf_size] using h1
    rw [Array.getElem_setIfInBounds (by simpa using h1)]
    split
    · rename_i e; subst e
      simp [cellsOf, byteOf_set l i h]
    · rename_i e
      simp [cellsOf, byteOf_set_other l i q h (Ne.symm e)]

theorem or_u8 : ∀ (x : Fin 256) (k : Fin 8), bits .or .u8 ((x.val : Nat) : Int) (2 ^ k.val % 256) = ((x.val ||| 2 ^ k.val : Nat) : Int) := by decide +kernel
theorem and_u8 : ∀ (x : Fin 256) (k : Fin 8), bits .and .u8 (((x.val : Nat) : Int) / 2 ^ k.val) 1 = ((x.val / 2 ^ k.val % 2 : Nat) : Int) := by decide +kernel

theorem or_at (l : List Bool) (i : Nat) : bits .or .u8 ((byteOf l (i/8) : Nat) : Int) (2 ^ (7 - i % 8) % 256) = ((byteOf l (i/8) ||| 2 ^ (7 - i % 8) : Nat) : Int) :=
  or_u8 ⟨_, byteOf_lt l (i/8)⟩ ⟨7 - i % 8, by omega⟩
theorem and_at (l : List Bool) (i : Nat) : bits .and .u8 (((byteOf l (i/8) : Nat) : Int) / 2 ^ (7 - i % 8)) 1 = (((l.getD i false).toNat : Nat) : Int) := by
  rw [← byteOf_at]
  exact and_u8 ⟨_, byteOf_lt l (i/8)⟩ ⟨7 - i % 8, by omega⟩
end Go.Proofs.Ytgljaimoaijcaaa
