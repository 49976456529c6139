/- A row of ints of one's own is sorted; the same ones behind one another are one (layer 8). -/
import Derived.Test.YtlkddjpjhchjfaaH5
import Derived.Test.YtlkddjpjhchjfaaH6
import Derived.Sort.OwnSortedInts
namespace Go.Proofs.Ytlkddjpjhchjfaa
set_option maxRecDepth 100000
open Go.RowKit

def srtZ (xs : List Int) : List Int := xs.mergeSort fun x y => decide (x ≤ y)
theorem srtZ_length (xs : List Int) : (srtZ xs).length = xs.length := by unfold srtZ; rw [List.length_mergeSort]
theorem sortI_any (base n : Nat) (v : Value) (xs : List Int) (w : World) (h : w.ownsRow base 3 1 v n (zs xs)) (hn : n ≤ 10000000) :
    Calls Try.prog 79 #[v] w fun e w' => e = .returned (.tuple #[]) ∧ w'.ownsRow base 3 1 v n (zs (srtZ xs)) ∧ w.grownBy w' v.ownBlock := by
  obtain ⟨hl, h0 | ⟨g, cap, cur, rfl, h1, h2, h3, h4, h5, h6⟩⟩ := h
  · obtain ⟨rfl, rfl⟩ := h0
    have hx : xs = [] := by
      cases xs with
      | nil => rfl
      | cons a l => simp [zs] at hl
    subst hx
    refine (Any.slices_Sort_int_none srtI_lays none 0 w).mono ?_
    rintro e w' ⟨rfl, rfl⟩
    rw [show srtZ [] = [] by simp [srtZ]]
    exact ⟨rfl, World.ownsRow_nil _ _ _ _, ⟨rfl, rfl, rfl, Nat.le_refl _, fun _ _ _ => rfl⟩⟩
  · have hlx : xs.length = n := by simpa [zs] using hl
    subst hlx
    rw [Nat.mul_one] at h5 h6
    have hH := holds_of_blockI (ss := xs) h2 h6
    refine (Any.slices_Sort_int srtI_lays g 0 cap xs w hH (lt_of_block h2) (by omega)).mono ?_
    rintro e w' ⟨rfl, q, os, rfl⟩
    refine ⟨rfl, ⟨by simp [zs, srtZ_length], .inr ⟨g, cap, _, rfl, h1, heap_sortedI _ h2, h3, h4, by simp [Sort.putCells, h5], ?_⟩⟩, grownBy_sortedI _⟩
    rw [Nat.mul_one]
    have := take_putCellsI cur (srtZ xs) (by rw [srtZ_length]; omega)
    rw [srtZ_length] at this
    exact this
theorem compI_any (base n : Nat) (v : Value) (xs : List Int) (w : World) (h : w.ownsRow base 3 1 v n (zs xs)) (hn : n ≤ 10000000) :
    Calls Try.prog 80 #[v] w fun e w' => ∃ u, e = .returned u ∧ w'.ownsRow base 3 1 u (Lib.compact xs).length (zs (Lib.compact xs)) ∧ w.grownBy w' v.ownBlock ∧ u.ownBlock = v.ownBlock := by
  obtain ⟨hl, h0 | ⟨g, cap, cur, rfl, h1, h2, h3, h4, h5, h6⟩⟩ := h
  · obtain ⟨rfl, rfl⟩ := h0
    have hx : xs = [] := by
      cases xs with
      | nil => rfl
      | cons a l => simp [zs] at hl
    subst hx
    refine (Any.slices_Compact_int_empty cmpI_lays none 0 w).mono ?_
    rintro e w' ⟨rfl, rfl⟩
    exact ⟨_, rfl, World.ownsRow_nil _ _ _ _, ⟨rfl, rfl, rfl, Nat.le_refl _, fun _ _ _ => rfl⟩, rfl⟩
  · have hlx : xs.length = n := by simpa [zs] using hl
    subst hlx
    rw [Nat.mul_one] at h5 h6
    have hH := holds_of_blockI (ss := xs) h2 h6
    have hcl : (Lib.compact xs).length ≤ xs.length := by
      unfold Lib.compact Lib.compactUpTo
      rw [List.length_map]
      exact Nat.le_trans (List.length_filter_le _ _) (by simp)
    refine (Any.slices_Compact_int cmpI_lays g 0 cap xs w hH (by omega) h3).mono ?_
    rintro e w' ⟨rfl, q, rfl⟩
    refine ⟨_, rfl, ⟨by simp [zs], .inr ⟨g, cap, Sort.putCells (Value.int .i64) 0 (Lib.compact xs ++ List.replicate (xs.length - (Lib.compact xs).length) 0).toArray cur, rfl, h1, ?_, by omega, h4, by simp [Sort.putCells, h5], ?_⟩⟩, ?_, rfl⟩
    · have := heap_sortedI (n := q) (os := #[]) (Lib.compact xs ++ List.replicate (xs.length - (Lib.compact xs).length) 0).toArray h2
      rwa [Sort.grow_empty] at this
    · have hlen : (Lib.compact xs ++ List.replicate (xs.length - (Lib.compact xs).length) 0).length = xs.length := by simp; omega
      have := take_putCellsI cur (Lib.compact xs ++ List.replicate (xs.length - (Lib.compact xs).length) 0) (by rw [hlen]; omega)
      rw [hlen] at this
      rw [Nat.mul_one]
      have h7 := congrArg (List.take (Lib.compact xs).length) this
      rw [List.take_take, Nat.min_eq_left hcl] at h7
      rw [h7, List.map_append, List.take_append_of_le_length (by simp), List.take_of_length_le (by simp)]
      rfl
    · have := grownBy_sortedI (w := w) (g := g) (n := q) (os := #[]) (Lib.compact xs ++ List.replicate (xs.length - (Lib.compact xs).length) 0).toArray
      rwa [Sort.grow_empty] at this
end Go.Proofs.Ytlkddjpjhchjfaa
