/- What is known of a world: blocks, and rows of bytes that are read, each between two numbers of blocks. -/
import Derived.Test.YtgljaimoaijcaaaT23
namespace Go.Proofs.Ytgljaimoaijcaaa
open Go.RowKit

def Kn (W0 w : World) (L : List (Nat × Obj)) (R : List (Option Addr × List Nat × Nat × Nat)) : Prop :=
  Has w L ∧ (∀ r, r ∈ R → RdN w r.1 r.2.1 ∧ ∀ (q x : Nat), r.2.1[q]? = some x → ∃ ad, r.1 = some ad ∧ r.2.2.1 ≤ ad.block ∧ ad.block < r.2.2.2) ∧ Below W0.heap.size W0 w
section
variable {W0 w w' : World} {L : List (Nat × Obj)} {R : List (Option Addr × List Nat × Nat × Nat)}
theorem Kn.below (h : Kn W0 w L R) (hb : Below w.heap.size w w') : Kn W0 w' L R := ⟨h.1.below hb, fun r hr => ⟨(h.2.1 r hr).1.below hb, (h.2.1 r hr).2⟩, next_below h.2.2 hb⟩
theorem Kn.new (h : Kn W0 w L R) (o : Obj) : Kn W0 (w.alloc o) ((w.heap.size, o) :: L) R := ⟨h.1.new o, fun r hr => ⟨(h.2.1 r hr).1.below ((Below.refl _ _).alloc (Nat.le_refl _) o), (h.2.1 r hr).2⟩, h.2.2.alloc h.2.2.size o⟩
theorem Kn.rd (h : Kn W0 w L R) {A : Option Addr} {xs : List Nat} {lo : Nat} (hr : RdN w A xs) (hlo : ∀ ad, A = some ad → lo ≤ ad.block) : Kn W0 w L ((A, xs, lo, w.heap.size) :: R) := by
  refine ⟨h.1, fun r hm => ?_, h.2.2⟩
  rcases List.mem_cons.1 hm with rfl | hm
  · refine ⟨hr, fun q x hq => ?_⟩
    obtain ⟨ad, e, hb, _⟩ := hr q x hq
    exact ⟨ad, e, hlo ad e, hb⟩
  · exact h.2.1 r hm
theorem Kn.blk (h : Kn W0 w L R) (i : Nat) {g : Nat} {o : Obj} (hi : L[i]? = some (g, o)) : w.heap[g]? = some o := h.1 (g, o) (List.mem_of_getElem? hi)
theorem Kn.row (h : Kn W0 w L R) (i : Nat) {A : Option Addr} {xs : List Nat} {lo hi : Nat} (hm : R[i]? = some (A, xs, lo, hi)) : RdN w A xs := (h.2.1 _ (List.mem_of_getElem? hm)).1
theorem Kn.b (h : Kn W0 w L R) : Below W0.heap.size W0 w := h.2.2
theorem Kn.two (h : Kn W0 w L R) (i : Nat) {g : Nat} {a b : Value} {t : TypeId} (hi : L[i]? = some (g, .cells #[a, b] t (0, 0))) :
    w.cell? ⟨g, 0, none⟩ = some a ∧ w.cell? ⟨g, 1, none⟩ = some b ∧ w.frozen? ⟨g, 0, none⟩ = false ∧ w.frozen? ⟨g, 1, none⟩ = false := cells_two (h.blk i hi)
theorem Kn.five (h : Kn W0 w L R) (i : Nat) {g : Nat} {a b c d e : Value} {t : TypeId} (hi : L[i]? = some (g, .cells #[a, b, c, d, e] t (0, 0))) :
    w.cell? ⟨g, 0, none⟩ = some a ∧ w.cell? ⟨g, 1, none⟩ = some b ∧ w.cell? ⟨g, 2, none⟩ = some c ∧ w.cell? ⟨g, 3, none⟩ = some d ∧ w.cell? ⟨g, 4, none⟩ = some e := by
  have k := h.blk i hi
  exact ⟨by rw [cell_of k]; rfl, by rw [cell_of k]; rfl, by rw [cell_of k]; rfl, by rw [cell_of k]; rfl, by rw [cell_of k]; rfl⟩
theorem Kn.sub {L' : List (Nat × Obj)} {R' : List (Option Addr × List Nat × Nat × Nat)} (h : Kn W0 w L R) (h1 : ∀ p, p ∈ L' → p ∈ L) (h2 : ∀ r, r ∈ R' → r ∈ R) : Kn W0 w L' R' :=
  ⟨fun p hp => h.1 p (h1 p hp), fun r hr => h.2.1 r (h2 r hr), h.2.2⟩
/-- Both cells of a block of two are stored: the block is turned, all else stays. -/
theorem Kn.store {g : Nat} {x y : Value} {t : TypeId} {L1 L2 : List (Nat × Obj)} (h : Kn W0 w (L1 ++ (g, .cells #[x, y] t (0, 0)) :: L2) R) (hg : W0.heap.size ≤ g) (hL : ∀ p, p ∈ L1 ++ L2 → p.1 ≠ g)
    (hR : ∀ r, r ∈ R → g < r.2.2.1 ∨ r.2.2.2 ≤ g) (u v : Value) : Kn W0 ((w.setCell ⟨g, 0, none⟩ u).setCell ⟨g, 1, none⟩ v) (L1 ++ (g, .cells #[u, v] t (0, 0)) :: L2) R := by
  refine ⟨?_, ?_, (h.2.2.setCell hg u).setCell hg v⟩
  · intro p hp
    by_cases e : p.1 = g
    · have hpe : p = (g, .cells #[u, v] t (0, 0)) := by
        rcases List.mem_append.1 hp with h1 | h1
        · exact absurd e (hL p (List.mem_append.2 (.inl h1)))
        · rcases List.mem_cons.1 h1 with h2 | h2
          · exact h2
          · exact absurd e (hL p (List.mem_append.2 (.inr h2)))
      subst hpe
      have hz : w.heap[g]? = some (.cells #[x, y] t (0, 0)) := h.1 (g, _) (by simp)
      show _ = _
      simp [World.setCell, Array.getElem?_modify, hz]
    · have hm : p ∈ L1 ++ (g, .cells #[x, y] t (0, 0)) :: L2 := by
        rcases List.mem_append.1 hp with h1 | h1
        · exact List.mem_append.2 (.inl h1)
        · rcases List.mem_cons.1 h1 with h2 | h2
          · exact absurd (by rw [h2]) e
          · exact List.mem_append.2 (.inr (List.mem_cons.2 (.inr h2)))
      rw [Below.heap_setCell _ _ _ _ (fun k => e k), Below.heap_setCell _ _ _ _ (fun k => e k)]
      exact h.1 p hm
  · intro r hr
    obtain ⟨k1, k2⟩ := h.2.1 r hr
    refine ⟨?_, k2⟩
    intro q n hq
    obtain ⟨ad, e, hb, hc⟩ := k1 q n hq
    obtain ⟨ad', e', h1, h2⟩ := k2 q n hq
    obtain rfl : ad = ad' := by rw [e] at e'; injection e'
    have hne : ad.block ≠ g := by rcases hR r hr with h3 | h3 <;> omega
    refine ⟨ad, e, by simpa [World.setCell] using hb, ?_⟩
    rw [World.cell?_setCell_other _ _ _ _ (fun e2 => hne (by have := congrArg Addr.block e2; rw [block_add] at this; exact this.symm)), World.cell?_setCell_other _ _ _ _ (fun e2 => hne (by have := congrArg Addr.block e2; rw [block_add] at this; exact this.symm))]
    exact hc
end
theorem PSide.right {W : World} {v : Value} {o : Option (List Bool)} (h : PSide W v o) : RightIs W v o.isSome := by
  cases o with
  | none => exact h.1
  | some l => exact h.1
theorem sameB_n (A B : Option Addr) (n c d : Nat) (xs : List Nat) (w : World) (hx : RdN w A xs) (hy : RdN w B xs) (hn : n = xs.length) (h1 : ∀ x ∈ xs, x < 256) :
    Calls Try.prog 32 #[.slice A n c, .slice B n d] w fun e w' => e = .returned (.bool true) ∧ Below w.heap.size w w' := by
  refine (sameBytes_any A B n n c d xs xs w hx hy hn hn h1 h1).mono ?_
  rintro e w' ⟨rfl, rfl⟩
  exact ⟨by simp, Below.refl _ _⟩
end Go.Proofs.Ytgljaimoaijcaaa
