/- Rows of what a search tells, in memory; an edge's lower end (layer 5). -/
import Derived.Test.YtlkddjpjhchjfaaW8
import Derived.Test.YtlkddjpjhchjfaaW29
import Derived.Lib.SmallJoins
import Derived.BigQuiet
namespace Go.Proofs.Ytlkddjpjhchjfaa
set_option maxRecDepth 100000
open Go.RowKit

/-- The cells of a row of (Num, Up, Low). -/
def tcells : List (Int × Int × Int) → List Value
  | [] => []
  | x :: L => zv x.1 :: zv x.2.1 :: zv x.2.2 :: tcells L
theorem tcells_length : ∀ L : List (Int × Int × Int), (tcells L).length = L.length * 3
  | [] => rfl
  | x :: L => by
    have := tcells_length L
    simp only [tcells, List.length_cons]
    omega
theorem tcells_at : ∀ (L : List (Int × Int × Int)) (k : Nat) (x : Int × Int × Int), L[k]? = some x → (tcells L)[k * 3]? = some (zv x.1) ∧ (tcells L)[k * 3 + 1]? = some (zv x.2.1) ∧ (tcells L)[k * 3 + 2]? = some (zv x.2.2)
  | [], k, x, h => by simp at h
  | y :: L, 0, x, h => by
    simp at h
    subst h
    exact ⟨rfl, rfl, rfl⟩
  | y :: L, k + 1, x, h => by
    obtain ⟨h1, h2, h3⟩ := tcells_at L k x (by simpa using h)
    rw [show (k + 1) * 3 = k * 3 + 3 by omega, show k * 3 + 3 + 1 = (k * 3 + 1) + 3 by omega, show k * 3 + 3 + 2 = (k * 3 + 2) + 3 by omega]
    exact ⟨h1, h2, h3⟩
theorem tcells_set2 : ∀ (L : List (Int × Int × Int)) (k : Nat) (x : Int × Int × Int) (z : Int), L[k]? = some x → (tcells L).set (k * 3 + 2) (zv z) = tcells (L.set k (x.1, x.2.1, z))
  | [], k, x, z, h => by simp at h
  | y :: L, 0, x, z, h => by
    simp at h
    subst h
    rfl
  | y :: L, k + 1, x, z, h => by
    have ih := tcells_set2 L k x z (by simpa using h)
    rw [show (k + 1) * 3 + 2 = (k * 3 + 2) + 3 by omega]
    show zv y.1 :: zv y.2.1 :: zv y.2.2 :: (tcells L).set (k * 3 + 2) (zv z) = zv y.1 :: zv y.2.1 :: zv y.2.2 :: tcells (L.set k _)
    rw [ih]
theorem tcells_set : ∀ (L : List (Int × Int × Int)) (k : Nat) (z : Int × Int × Int), k < L.length → (((tcells L).set (k * 3) (zv z.1)).set (k * 3 + 1) (zv z.2.1)).set (k * 3 + 2) (zv z.2.2) = tcells (L.set k z)
  | [], k, z, h => by simp at h
  | y :: L, 0, z, _ => rfl
  | y :: L, k + 1, z, h => by
    have ih := tcells_set L k z (by simpa using h)
    rw [show (k + 1) * 3 = k * 3 + 3 by omega]
    show zv y.1 :: zv y.2.1 :: zv y.2.2 :: (((tcells L).set (k * 3) (zv z.1)).set (k * 3 + 1) (zv z.2.1)).set (k * 3 + 2) (zv z.2.2) = zv y.1 :: zv y.2.1 :: zv y.2.2 :: tcells (L.set k z)
    rw [ih]
/-- A block of what a search tells. -/
def OwnT (w : World) (B : Nat) (L : List (Int × Int × Int)) : Prop := w.heap[B]? = some (.cells (tcells L).toArray 57 (0, 0))
theorem OwnT.below {w w' : World} {B : Nat} {L : List (Int × Int × Int)} (h : OwnT w B L) (hb : Below w.heap.size w w') : OwnT w' B L := blk_below h hb
theorem OwnT.at_ {w : World} {B k : Nat} {x : Int × Int × Int} {L : List (Int × Int × Int)} (h : OwnT w B L) (hx : L[k]? = some x) : w.cell? ⟨B, k * 3, none⟩ = some (.int .i64 x.1) ∧ w.cell? ⟨B, k * 3 + 1, none⟩ = some (.int .i64 x.2.1) ∧ w.cell? ⟨B, k * 3 + 2, none⟩ = some (.int .i64 x.2.2) := by
  obtain ⟨h1, h2, h3⟩ := tcells_at L k x hx
  exact ⟨by rw [cell_of h]; simpa [zv] using h1, by rw [cell_of h]; simpa [zv] using h2, by rw [cell_of h]; simpa [zv] using h3⟩
theorem OwnT.set2 {w : World} {B k : Nat} {x : Int × Int × Int} {L : List (Int × Int × Int)} (h : OwnT w B L) (hx : L[k]? = some x) (z : Int) : OwnT (w.setCell ⟨B, k * 3 + 2, none⟩ (.int .i64 z)) B (L.set k (x.1, x.2.1, z)) := by
  show _ = _
  rw [Go.Joins.block_setCell h, ← tcells_set2 L k x z hx]
  simp [zv]
theorem OwnT.set3 {w : World} {B k : Nat} {L : List (Int × Int × Int)} (h : OwnT w B L) (hk : k < L.length) (z : Int × Int × Int) : OwnT (((w.setCell ⟨B, k * 3, none⟩ (.int .i64 z.1)).setCell ⟨B, k * 3 + 1, none⟩ (.int .i64 z.2.1)).setCell ⟨B, k * 3 + 2, none⟩ (.int .i64 z.2.2)) B (L.set k z) := by
  show _ = _
  rw [Go.Joins.block_setCell (Go.Joins.block_setCell (Go.Joins.block_setCell h _) _), ← tcells_set L k z hk]
  simp [zv]
def lw (L : List (Int × Int × Int)) (v : Nat) : Int × Int × Int := L.getD v (0, 0, 0)
theorem lw_at {L : List (Int × Int × Int)} {v : Nat} (h : v < L.length) : L[v]? = some (lw L v) := by simp [lw, List.getD, List.getElem?_eq_getElem h]
set_option maxHeartbeats 4000000 in
theorem lower_any (x y N B ps : Nat) (L : List (Int × Int × Int)) (w : World) (hL : OwnT w B L) (hN : L.length = N) (hx : x < N) (hy : y < N) (hc : w.cell? ⟨ps, 0, none⟩ = some (.slice (some ⟨B, 0, none⟩) N N)) :
    Calls Try.prog 53 #[.agg #[.int .i64 (x : Nat), .int .i64 (y : Nat)], .pointer (some ⟨ps, 0, none⟩)] w fun e w' => e = .returned (.int .i64 ((if (lw L y).1 < (lw L x).1 then x else y : Nat) : Int)) ∧ Below w.heap.size w w' := by
  obtain ⟨W, hW⟩ : ∃ W, W = w.alloc (.cells #[.int .i64 (x : Nat), .int .i64 (y : Nat)] 51) := ⟨_, rfl⟩
  have hb : Below w.heap.size w W := by rw [hW]; exact (Below.refl _ _).alloc (Nat.le_refl _) _
  obtain ⟨i0, i1, _, _⟩ := cells_two (w := W) (by rw [hW]; exact heap_alloc_new w _)
  have hLW := hL.below hb
  obtain ⟨a0, _, _⟩ := hLW.at_ (lw_at (show x < L.length by omega))
  obtain ⟨b0, _, _⟩ := hLW.at_ (lw_at (show y < L.length by omega))
  have c0 : W.cell? ⟨ps, 0, none⟩ = some (.slice (some ⟨B, 0, none⟩) N N) := by rw [hb.cell (World.block_lt_of_cell? _ _ hc)]; exact hc
  obtain ⟨hX0, hX1⟩ : (0 : Int) ≤ (x : Int) ∧ (x : Int) < (N : Nat) := by omega
  obtain ⟨hY0, hY1⟩ : (0 : Int) ≤ (y : Int) ∧ (y : Int) < (N : Nat) := by omega
  have HW := Lib.hid hW
  have HB := Lib.hid hb
  clear hL hN hx hy hc hLW hW hb
  generalize (lw L x).1 = a at *
  generalize (lw L y).1 = b at *
  by_cases hab : b < a
  · have d1 : decide (b < a) = true := by simpa using hab
    rw [if_pos hab]
    clear hab
    go_enter Try.func53, Try.ntmps53
    go_upto_region 1 with fail
    rw [← HW.out]
    go_quiet (fail)
    go_wp2_with fail
    go_ret
    exact ⟨rfl, below_drewN HB.out _⟩
  · have d1 : decide (b < a) = false := by simpa using hab
    rw [if_neg hab]
    clear hab
    go_enter Try.func53, Try.ntmps53
    go_upto_region 1 with fail
    rw [← HW.out]
    go_quiet (fail)
    go_wp2_with fail
    go_ret
    exact ⟨rfl, below_drewN HB.out _⟩
end Go.Proofs.Ytlkddjpjhchjfaa
