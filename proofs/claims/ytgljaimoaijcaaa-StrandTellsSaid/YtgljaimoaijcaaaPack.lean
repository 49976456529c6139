/- The walk of StrandPack. -/
import Derived.Test.YtgljaimoaijcaaaB6
namespace Go.Proofs.Ytgljaimoaijcaaa
open Go.RowKit

/-- A value that came in as bytes. -/
def OkBytes (w : World) (v : Value) : Prop := ∃ (A : Option Addr) (c : Nat) (xs : List Int), v = .slice A xs.length c ∧ isBytes xs ∧ RdB w A xs ∧ xs.length ≤ 9223372036854775807
open Go.ChangeShapes Go.WideShapes in
theorem open_bytes {H : Type} {enc : TypeId × Value → H} {W : World} {r : Reach} {b0 : Nat} {v : Value} {d : DataW H} {p : List MemPlace}
    (hv : Value.okWide Try.prog W r b0 22 v) (h : DataW.Trod enc Try.prog W 0 (fun _ => true) true 22 v d p) : OkBytes W v := by
  obtain ⟨a0, len, cap, rfl⟩ := okWide_slice Try.underlying22 hv
  obtain ⟨fuel, hf⟩ := h
  rcases open_ints Try.underlying22 Try.underlying5 (by kernel_rfl) hf with ⟨hcs, _⟩ | ⟨x, l, c, zs, hcs, _, hl, hm, hz, _, hcell, hwz⟩
  · simp [Value.cells] at hcs
    obtain ⟨rfl, rfl, rfl⟩ := hcs
    exact ⟨none, 0, [], rfl, (by intro x hx; cases hx), (by intro q x hq; simp at hq), by simp⟩
  · simp [Value.cells] at hcs
    obtain ⟨rfl, rfl, rfl⟩ := hcs
    have hzl : zs.length = cap := by simpa using hz
    have hlen : (zs.take len).length = len := by simp; omega
    refine ⟨some x, cap, zs.take len, by rw [hlen], ?_, ?_, by rw [hlen]; unfold maxLen at hm; omega⟩
    · intro b hb
      have hb' := hwz b (List.mem_of_mem_take hb)
      simp [Lit.wf, IntKind.min, IntKind.max, IntKind.signed, IntKind.bits] at hb'
      omega
    · intro q b hq
      have hql : q < len := by have := (List.getElem?_eq_some_iff.1 hq).1; omega
      have hc := hcell q (by omega)
      rw [List.getElem?_take, if_pos hql] at hq
      have : zs.getD q 0 = b := by simp [List.getD, hq]
      rw [this] at hc
      have hlt := World.block_lt_of_cell? W _ hc
      rw [block_add] at hlt
      exact ⟨x, rfl, hlt, hc⟩

theorem last_bit : ∀ x : Fin 256, x.val ≠ 0 → ∃ r : Fin 8, x.val / 2 ^ (7 - r.val) % 2 = 1 ∧ ∀ j : Fin 8, r.val < j.val → x.val / 2 ^ (7 - j.val) % 2 = 0 := by decide +kernel

/-- Bytes whose last one is not 0 are the bytes of a strand with a one behind it. -/
theorem bytes_strand (xs : List Int) (hx : isBytes xs) (hne : xs ≠ []) (hl : xs.getD (xs.length - 1) 0 ≠ 0) :
    ∃ l : List Bool, xs.length = nB (l ++ [true]) ∧ l.length < 8 * xs.length ∧ ∀ q, q < nB (l ++ [true]) → xs[q]? = some ((byteOf (l ++ [true]) q : Nat) : Int) := by
  have hpos : 0 < xs.length := List.length_pos_iff.2 hne
  have hlt : xs.length - 1 < xs.length := by omega
  have hxl := hx _ (List.getElem_mem hlt)
  have hgl : xs.getD (xs.length - 1) 0 = xs[xs.length - 1] := by simp [List.getD, List.getElem?_eq_getElem hlt]
  rw [hgl] at hl
  obtain ⟨z, hz⟩ := Int.eq_ofNat_of_zero_le hxl.1
  obtain ⟨r, h1, h0⟩ := last_bit ⟨z, by omega⟩ (by simp; omega)
  have hn : (bitsOf xs (8 * (xs.length - 1) + r.val)).length = 8 * (xs.length - 1) + r.val := by simp [bitsOf]
  have hr8 := r.isLt
  refine ⟨bitsOf xs (8 * (xs.length - 1) + r.val), ?_, by rw [hn]; omega, ?_⟩
  · unfold nB; rw [List.length_append, hn]; simp; omega
  · intro q hq
    have hq' : q < xs.length := by
      unfold nB at hq; rw [List.length_append, hn] at hq; simp at hq; omega
    have hxq := hx _ (List.getElem_mem hq')
    obtain ⟨x, hxe⟩ := Int.eq_ofNat_of_zero_le hxq.1
    have hx256 : x < 256 := by omega
    rw [List.getElem?_eq_getElem hq', hxe]
    congr 2
    have hbit : ∀ j, j < 8 → (bitsOf xs (8 * (xs.length - 1) + r.val) ++ [true]).getD (8 * q + j) false = (x / 2 ^ (7 - j) % 2 == 1) := by
      intro j hj
      have e1 : (8 * q + j) / 8 = q := by omega
      have e2 : (8 * q + j) % 8 = j := by omega
      have e4 : xs[q]?.getD 0 = (x : Int) := by simp [List.getElem?_eq_getElem hq', hxe]
      rw [getD_append, hn]
      by_cases hin : 8 * q + j < 8 * (xs.length - 1) + r.val
      · rw [if_pos hin]
        simp only [bitsOf, List.getD, List.getElem?_map, List.getElem?_range hin, Option.map_some, Option.getD_some, e1, e2]
        rw [e4]
        simp
      · rw [if_neg hin]
        have hql : q = xs.length - 1 := by omega
        have hxz : x = z := by
          subst hql
          have : (x : Int) = z := by rw [← hxe, ← hz]
          omega
        by_cases he : j = r.val
        · rw [show 8 * q + j - (8 * (xs.length - 1) + r.val) = 0 by omega, he, hxz]
          have : z / 2 ^ (7 - r.val) % 2 = 1 := h1
          rw [this]; rfl
        · rw [getD_far (by simp; omega), hxz]
          have : z / 2 ^ (7 - j) % 2 = 0 := h0 ⟨j, hj⟩ (by show r.val < j; omega)
          rw [this]; rfl
    have hf := b8_of ⟨x, hx256⟩
    unfold byteOf
    have b0 := hbit 0 (by omega)
    rw [Nat.add_zero] at b0
    rw [b0, hbit 1 (by omega), hbit 2 (by omega), hbit 3 (by omega), hbit 4 (by omega), hbit 5 (by omega), hbit 6 (by omega), hbit 7 (by omega)]
    simpa using hf.symm

/-- What unpacking tells. -/
def Unp (xs : List Int) (w' : World) (P : Option Addr) (a b : Nat) (L k : Int) : Prop :=
  (k = 0 ∧ ∃ (l : List Bool) (g : Nat), P = some ⟨g, 0, none⟩ ∧ a = nB l ∧ b = nB l ∧ L = (l.length : Nat) ∧ Own w' g l ∧ xs.length = nB (l ++ [true]) ∧ (∀ q, q < nB (l ++ [true]) → xs[q]? = some ((byteOf (l ++ [true]) q : Nat) : Int)) ∧ l.length ≤ 2000) ∨
  (k = 13 ∧ (xs = [] ∨ xs ≠ [] ∧ xs.getD (xs.length - 1) 0 = 0))
theorem unpack_c (A : Option Addr) (xs : List Int) (c : Nat) (w : World) (hx : isBytes xs) (hr : RdB w A xs) (hl : xs.length ≤ 250) :
    Calls Try.prog 24 #[.slice A xs.length c] w fun e w' => ∃ (P : Option Addr) (a b : Nat) (L k : Int), e = .returned (.tuple #[.agg #[.slice P a b, .int .i64 L], .int .i64 k]) ∧ Below w.heap.size w w' ∧ Unp xs w' P a b L k := by
  by_cases hne : xs = []
  · subst hne
    exact (unpack_none A c w).mono fun _ _ ⟨he, hb⟩ => ⟨none, 0, 0, 0, 13, he, hb, .inr ⟨rfl, .inl rfl⟩⟩
  · have hpos : 0 < xs.length := List.length_pos_iff.2 hne
    by_cases h0 : xs.getD (xs.length - 1) 0 = 0
    · have hq : xs[xs.length - 1]? = some 0 := by
        rw [List.getElem?_eq_getElem (by omega)]
        simp [List.getD, List.getElem?_eq_getElem (show xs.length - 1 < xs.length by omega)] at h0
        rw [h0]
      obtain ⟨ad, rfl, hb, hc⟩ := hr _ _ hq
      exact (unpack_zero ad xs.length c w (by omega) (by omega) hb hc).mono fun _ _ ⟨he, hb⟩ => ⟨none, 0, 0, 0, 13, he, hb, .inr ⟨rfl, .inr ⟨hne, h0⟩⟩⟩
    · obtain ⟨l, h1, h2, h3⟩ := bytes_strand xs hx hne h0
      have hrd : Rd w A (l ++ [true]) := fun q hq => by
        obtain ⟨ad, e, hb, hc⟩ := hr q _ (h3 q hq)
        exact ⟨ad, e, hb, hc⟩
      refine (unpack_any A l xs.length c w hrd h1 (by omega)).mono ?_
      rintro e w' ⟨g, v, rfl, ⟨rfl, ho⟩, _, hb⟩
      exact ⟨_, _, _, _, 0, rfl, hb, .inl ⟨rfl, l, g, rfl, rfl, rfl, rfl, ho, h1, h3, by omega⟩⟩
end Go.Proofs.Ytgljaimoaijcaaa
