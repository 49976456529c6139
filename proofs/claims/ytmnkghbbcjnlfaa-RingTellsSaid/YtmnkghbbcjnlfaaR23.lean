/- The walk of RingTells. -/
import Derived.Test.YtmnkghbbcjnlfaaR22
namespace Go.Proofs.Ytmnkghbbcjnlfaa
open Go.RowKit

theorem held_monoT {P : Program} {md : Region.Mode} {ops : Array Oper} {Q : Exit → Act → World → Prop} {S S' : World → Prop} (h : ∀ w, S' w → S w) :
    ∀ (fuel : Nat) (listed : Array Bool) (a : Act) (w : World), wpAnyH P md ops Q S' fuel listed a w → wpAnyH P md ops Q S fuel listed a w
  | 0, _, _, _, hh => hh
  | fuel + 1, _, _, _, hh => ⟨hh.1, fun i hi => wpOp_mono (fun a' w' h' => ⟨h _ h'.1, held_monoT h fuel _ a' w' h'.2⟩) (hh.2 i hi)⟩
/-- The places that are told, of any circle. -/
def placesL (L : List (List Nat)) : List Nat := (List.range (L.length / (lp L L.length 0 1).2)).map fun q => (lp L L.length 0 1).1 + (lp L L.length 0 1).2 * q
theorem placesL_le (L : List (List Nat)) : (placesL L).length ≤ L.length := by
  unfold placesL
  rw [List.length_map, List.length_range]
  exact Nat.div_le_self _ _
theorem places_cells {w : World} {base J p s g cap : Nat} {n : Nat} {e : TypeId} (h : w.ownsRow base e 1 (.slice (some ⟨g, 0, none⟩) J cap) J (placesN p s J)) (hs : 0 < s) (hn : n = s * J) : RdI w (some ⟨g, 0, none⟩) ((List.range (n / s)).map fun q => p + s * q) := by
  refine rdI_own (n := J) (cap := cap) (base := base) (e := e) ?_
  rw [hn, Nat.mul_div_cancel_left _ hs, List.map_map]
  exact h
theorem least_all (A : Option Addr) (c n : Nat) (L : List (List Nat)) (w : World) (hl : RdW w A L) (ol : OkW L) (hw : ∀ xs ∈ L, xs.length ≤ 1000000) (hn : n = L.length) (hL : n ≤ 1000000) :
    Calls Try.prog 9 #[.slice A n c] w fun e w' => ∃ (Av : Option Addr) (cv : Nat) (A' : Option Addr) (c' : Nat), e = .returned (.tuple #[.slice Av (placesL L).length cv, .slice A' n c']) ∧ RdI w' Av (placesL L) ∧ RdW w' A' (turnN L (lp L L.length 0 1).1) ∧ Below w.heap.size w w' := by
  by_cases h0 : 0 < n
  · refine (least_any A c n L w hl ol hw hn hL h0).mono ?_
    rintro e w' ⟨v, J, g, vs, rfl, ho, h1, h2, hr, hb⟩
    have hg := lp_right L (by rw [← hn]; exact h0)
    obtain ⟨hnJ, hJ⟩ := good_count (by rw [hn]; exact hg.1) (by rw [hn]; exact hg.2.1) h0 h1 h2
    obtain ⟨g1, c1, rfl, _⟩ := ho.form hJ
    have hs : 0 < (lp L n 0 1).2 := by
      have := hg.1
      rw [hn]; omega
    have hJl : J = (placesL L).length := by
      unfold placesL
      rw [List.length_map, List.length_range, ← hn]
      conv => rhs; rw [hnJ]
      rw [← hnJ]
      conv => rhs; arg 1; rw [hnJ]
      rw [Nat.mul_div_cancel_left _ hs]
    have hrd := places_cells ho hs hnJ
    refine ⟨_, c1, _, n, by rw [← hJl], ?_, ?_, hb⟩
    · unfold placesL
      rw [← hn]
      exact hrd
    · rw [← hn]; exact hr.rd
  · obtain rfl : n = 0 := by omega
    obtain rfl : L = [] := List.eq_nil_of_length_eq_zero hn.symm
    refine (least_nil A c w).mono ?_
    rintro e w' ⟨rfl, rfl⟩
    exact ⟨none, 0, none, 0, rfl, (by intro j x hj; simp [placesL, lp] at hj), (by intro i xs hi; simp [turnN] at hi), Below.refl _ _⟩
theorem refLeast_all (A : Option Addr) (c n : Nat) (L : List (List Nat)) (w : World) (hl : RdW w A L) (hw : ∀ xs ∈ L, xs.length ≤ 1000000) (hn : n = L.length) (hL : n ≤ 1000000) :
    Calls Try.prog 10 #[.slice A n c] w fun e w' => ∃ (Av : Option Addr) (cv : Nat) (A' : Option Addr) (c' : Nat), e = .returned (.tuple #[.slice Av (placesL L).length cv, .slice A' n c']) ∧ RdI w' Av (placesL L) ∧ RdW w' A' (turnN L (lp L L.length 0 1).1) ∧ Below w.heap.size w w' := by
  by_cases h0 : 0 < n
  · have hg := lp_right L (by rw [← hn]; exact h0)
    refine (refLeast_any A c n _ _ L w hl hw hn hL h0 hg).mono ?_
    rintro e w' ⟨v, J, A', c', rfl, ho, h1, h2, hr, hb⟩
    obtain ⟨hnJ, hJ⟩ := good_count hg.1 (by rw [hn]; exact hg.2.1) h0 h1 h2
    obtain ⟨g1, c1, rfl, _⟩ := ho.form hJ
    have hs : 0 < (lp L L.length 0 1).2 := by have := hg.1; omega
    have hJl : J = (placesL L).length := by
      unfold placesL
      rw [List.length_map, List.length_range, ← hn]
      exact (Nat.div_eq_of_eq_mul_right (by rw [hn]; exact hs) (by rw [hn] at hnJ ⊢; exact hnJ)).symm
    have hrd := places_cells ho hs hnJ
    refine ⟨_, c1, _, c', by rw [← hJl], ?_, hr, hb⟩
    unfold placesL
    rw [hn] at hrd
    exact hrd
  · obtain rfl : n = 0 := by omega
    obtain rfl : L = [] := List.eq_nil_of_length_eq_zero hn.symm
    refine (refLeast_nil A c w).mono ?_
    rintro e w' ⟨rfl, rfl⟩
    exact ⟨none, 0, none, 0, rfl, (by intro j x hj; simp [placesL, lp] at hj), (by intro i xs hi; simp [turnN] at hi), Below.refl _ _⟩
end Go.Proofs.Ytmnkghbbcjnlfaa
