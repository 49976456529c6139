/- Plain facts on knots; arguments that are strands. -/
import Derived.Test.YtgljaimoaijcaaaB4
import Derived.Test.YtgljaimoaijcaaaRows
import Derived.ProofKit
import Derived.OpenShut
import Derived.ShutString
import Derived.ChangeOld
import Derived.Lib.SmallJoins
namespace Go.Proofs.Ytgljaimoaijcaaa
open Go.RowKit

theorem half_step (x i : Nat) : 2 * (x / 2 % 2 ^ i) + x % 2 = x % 2 ^ (i + 1) := by
  have h := Nat.mod_mul (x := x) (a := 2) (b := 2 ^ i)
  rw [Nat.pow_succ, Nat.mul_comm (2 ^ i) 2, h]; omega
theorem numAt_digs (l : List Bool) (fr n W : Nat) (h : ∀ i, i < W → l.getD (fr + i) false = (n / 2 ^ (W - 1 - i) % 2 == 1)) : ∀ i, i ≤ W → numAt l fr i = n / 2 ^ (W - i) % 2 ^ i
  | 0, _ => by simp [numAt, Nat.mod_one]
  | i + 1, hi => by
    have ih := numAt_digs l fr n W h i (by omega)
    rw [numAt, ih, h i (by omega)]
    have e1 : W - 1 - i = W - (i + 1) := by omega
    have e2 : n / 2 ^ (W - i) = n / 2 ^ (W - (i + 1)) / 2 := by
      rw [Nat.div_div_eq_div_mul, ← Nat.pow_succ, show (W - (i + 1)).succ = W - i by omega]
    rw [e1, e2]
    have e3 : (n / 2 ^ (W - (i + 1)) % 2 == 1).toNat = n / 2 ^ (W - (i + 1)) % 2 := by
      rcases Nat.mod_two_eq_zero_or_one (n / 2 ^ (W - (i + 1))) with e | e <;> rw [e] <;> rfl
    rw [e3]
    exact half_step _ i
theorem numAt_full (l : List Bool) (fr n W : Nat) (h : ∀ i, i < W → l.getD (fr + i) false = (n / 2 ^ (W - 1 - i) % 2 == 1)) (hn : n < 2 ^ W) : numAt l fr W = n := by
  rw [numAt_digs l fr n W h W (Nat.le_refl _), Nat.sub_self, Nat.pow_zero, Nat.div_one, Nat.mod_eq_of_lt hn]

/-- How many noughts a knot begins with. -/
def lead (n : Nat) : Nat := Lib.bitLen (n + 1) - 1
theorem lead_bounds (n : Nat) (hn : n < 18446744073709551615) : 2 ^ lead n ≤ n + 1 ∧ n + 1 < 2 ^ (lead n + 1) ∧ lead n < 64 ∧ (knot n).length = 2 * lead n + 1 := by
  have h := Lib.bitLenAux_bounds 64 (n + 1) (by omega) (by omega)
  have hle : Lib.bitLen (n + 1) ≤ 64 := Lib.bitLen_le _ _ (by omega) (by omega)
  have h1 : 1 ≤ Lib.bitLen (n + 1) := h.1
  have h2 : 2 ^ (Lib.bitLen (n + 1) - 1) ≤ n + 1 := h.2.1
  have h3 : n + 1 < 2 ^ Lib.bitLen (n + 1) := h.2.2
  refine ⟨h2, ?_, ?_, ?_⟩
  · unfold lead; rw [show Lib.bitLen (n + 1) - 1 + 1 = Lib.bitLen (n + 1) by omega]; exact h3
  · unfold lead; omega
  · unfold knot lead; rw [digs_length]; omega
theorem knot_get (n i : Nat) (hn : n < 18446744073709551615) (hi : i < 2 * lead n + 1) : (knot n).getD i false = ((n + 1) / 2 ^ (2 * lead n - i) % 2 == 1) := by
  have hb := lead_bounds n hn
  have e : 2 * Lib.bitLen (n + 1) - 1 = 2 * lead n + 1 := by
    have := hb.2.2.2; unfold knot at this; rw [digs_length] at this; exact this
  unfold knot
  rw [e, digs_at _ _ _ hi, show 2 * lead n + 1 - 1 - i = 2 * lead n - i by omega]
theorem knot_zero (n i : Nat) (hn : n < 18446744073709551615) (hi : i < lead n) : (knot n).getD i false = false := by
  have hb := lead_bounds n hn
  rw [knot_get n i hn (by omega)]
  have : (n + 1) / 2 ^ (2 * lead n - i) = 0 := Nat.div_eq_of_lt (Nat.lt_of_lt_of_le hb.2.1 (Nat.pow_le_pow_right (by omega) (by omega)))
  rw [this]; rfl
theorem knot_one (n : Nat) (hn : n < 18446744073709551615) : (knot n).getD (lead n) false = true := by
  have hb := lead_bounds n hn
  rw [knot_get n (lead n) hn (by omega), show 2 * lead n - lead n = lead n by omega]
  have : (n + 1) / 2 ^ lead n = 1 := by
    have hp : 0 < 2 ^ lead n := Nat.pow_pos (by omega)
    have h1 : 1 ≤ (n + 1) / 2 ^ lead n := (Nat.le_div_iff_mul_le hp).2 (by omega)
    have h2 : (n + 1) / 2 ^ lead n < 2 := Nat.div_lt_of_lt_mul (by have := hb.2.1; rw [Nat.pow_succ] at this; omega)
    omega
  rw [this]; rfl
/-- Of bits that hold a knot at a place: what is read there. -/
theorem knot_reads (l : List Bool) (fr n : Nat) (hn : n < 18446744073709551615) (h : ∀ i, i < 2 * lead n + 1 → l.getD (fr + i) false = (knot n).getD i false) :
    (∀ i, i < lead n → l.getD (fr + i) false = false) ∧ l.getD (fr + lead n) false = true ∧ numAt l (fr + lead n) (lead n + 1) - 1 = n := by
  have hb := lead_bounds n hn
  refine ⟨fun i hi => ?_, ?_, ?_⟩
  · rw [h i (by omega)]; exact knot_zero n i hn hi
  · rw [h _ (by omega)]; exact knot_one n hn
  · rw [numAt_full l (fr + lead n) (n + 1) (lead n + 1) (fun i hi => ?_) hb.2.1]
    · omega
    · rw [Nat.add_assoc, h _ (by omega), knot_get n _ hn (by omega)]
      rw [show 2 * lead n - (lead n + i) = lead n + 1 - 1 - i by omega]
theorem knot_inj {n m : Nat} (hn : n < 18446744073709551615) (hm : m < 18446744073709551615) (h : knot n = knot m) : n = m := by
  have h1 := (lead_bounds n hn).2.2.2
  have h2 := (lead_bounds m hm).2.2.2
  have hl : lead n = lead m := by rw [h] at h1; omega
  have r1 := (knot_reads (knot n) 0 n hn (fun i _ => by rw [Nat.zero_add])).2.2
  have r2 := (knot_reads (knot n) 0 m hm (fun i _ => by rw [Nat.zero_add, h])).2.2
  rw [hl] at r1
  omega
theorem knot_mono {n m : Nat} (hm : m < 18446744073709551615) (h : n ≤ m) : (knot n).length ≤ (knot m).length := by
  have h1 := lead_bounds n (by omega)
  have h2 := lead_bounds m hm
  rw [h1.2.2.2, h2.2.2.2]
  rcases Nat.lt_or_ge (lead m) (lead n) with hlt | hge
  · have : 2 ^ (lead m + 1) ≤ 2 ^ lead n := Nat.pow_le_pow_right (by omega) (by omega)
    omega
  · omega

/-- A value that came in as a strand. -/
def OkStrand (w : World) (v : Value) : Prop := ∃ (A : Option Addr) (c : Nat) (L : Int) (xs : List Int), v = .agg #[.slice A xs.length c, .int .i64 L] ∧ isBytes xs ∧ RdB w A xs ∧ xs.length ≤ 9223372036854775807
theorem OkStrand.below {w w' : World} {v : Value} (h : OkStrand w v) (hb : Below w.heap.size w w') : OkStrand w' v := by
  obtain ⟨A, c, L, xs, e, h1, h2, h3⟩ := h
  exact ⟨A, c, L, xs, e, h1, h2.below hb, h3⟩
open Go.ChangeShapes Go.WideShapes in
theorem open_strand {H : Type} {enc : TypeId × Value → H} {W : World} {r : Reach} {b0 : Nat} {v : Value} {d : DataW H} {p : List MemPlace}
    (hv : Value.okWide Try.prog W r b0 24 v) (h : DataW.Trod enc Try.prog W 0 (fun _ => true) true 24 v d p) : OkStrand W v := by
  obtain ⟨c0, c1, y0, y1, n, rfl, _, _, h0, h1⟩ := Go.Joins.open_agg2 Try.underlying24 (by kernel_rfl) (by kernel_rfl) hv h
  obtain ⟨L, e1, _, _⟩ := DataW.trod_int Try.underlying3 h1
  simp at e1
  subst e1
  rcases open_ints Try.underlying22 Try.underlying5 (by kernel_rfl) h0 with ⟨hcs, _⟩ | ⟨x, l, c, zs, hcs, _, hl, hm, hz, _, hcell, hwz⟩
  · simp at hcs
    subst hcs
    exact ⟨none, 0, L, [], rfl, (by intro x hx; cases hx), (by intro q x hq; simp at hq), by simp⟩
  · simp at hcs
    subst hcs
    have hzl : zs.length = c := by simpa using hz
    have hlen : (zs.take l).length = l := by simp; omega
    refine ⟨some x, c, L, zs.take l, by rw [hlen], ?_, ?_, by rw [hlen]; unfold maxLen at hm; omega⟩
    · intro b hb
      have hb' := hwz b (List.mem_of_mem_take hb)
      simp [Lit.wf, IntKind.min, IntKind.max, IntKind.signed, IntKind.bits] at hb'
      omega
    · intro q b hq
      have hql : q < l := by have := (List.getElem?_eq_some_iff.1 hq).1; omega
      have hc := hcell q (by omega)
      rw [List.getElem?_take, if_pos hql] at hq
      have : zs.getD q 0 = b := by simp [List.getD, hq]
      rw [this] at hc
      have hlt := World.block_lt_of_cell? W _ hc
      rw [block_add] at hlt
      exact ⟨x, rfl, hlt, hc⟩
end Go.Proofs.Ytgljaimoaijcaaa
