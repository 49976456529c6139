/- Contracts said of the world in which a function began; errors of great strands. -/
import Derived.Test.YtgljaimoaijcaaaB5
namespace Go.Proofs.Ytgljaimoaijcaaa
open Go.RowKit

theorem bits_st {w : World} {A : Option Addr} {c : Nat} {L : Int} {xs : List Int} (hx : isBytes xs) (hr : RdB w A xs) (h : rightB xs L = true) :
    ∃ l : List Bool, L = (l.length : Nat) ∧ xs.length = nB l ∧ Rd w A l ∧ l.length ≤ 4194304 ∧ St w (.agg #[.slice A xs.length c, .int .i64 L]) l := by
  obtain ⟨l, hL, hm, hlen, hq⟩ := rightB_bits xs L hx h
  have hrd : Rd w A l := fun q hqq => by
    obtain ⟨ad, e, hb, hc⟩ := hr q _ (hq q hqq)
    exact ⟨ad, e, hb, hc⟩
  exact ⟨l, hL, hlen, hrd, hm, A, c, by rw [hL, hlen], hrd, hm⟩
theorem not_great {l : List Bool} (h : l.length ≤ 2000) : (decide ((2000 : Int) < (l.length : Nat)) || decide (250 < nB l)) = false := by
  rw [Bool.or_eq_false_iff]
  exact ⟨decide_eq_false (by omega), decide_eq_false (by unfold nB; omega)⟩
/-- Is a strand more than is looked at? -/
def gB (L : Int) (n : Nat) : Bool := decide (2000 < L) || decide (250 < n)
section
variable {W0 : World}
theorem great_c {w : World} (hW : Below W0.heap.size W0 w) (A : Option Addr) (n c : Nat) (L : Int) :
    Calls Try.prog 10 #[.agg #[.slice A n c, .int .i64 L]] w fun e w' => e = .returned (.bool (gB L n)) ∧ Below W0.heap.size W0 w' :=
  (great_any A n c L w).mono fun _ _ ⟨he, hb⟩ => ⟨he, next_below hW hb⟩
theorem right_c {w : World} (hW : Below W0.heap.size W0 w) (A : Option Addr) (xs : List Int) (c : Nat) (L : Int) (hr : RdB W0 A xs) :
    Calls Try.prog 16 #[.agg #[.slice A xs.length c, .int .i64 L]] w fun e w' => e = .returned (.bool (rightB xs L)) ∧ Below W0.heap.size W0 w' :=
  (right_val A xs c L w (hr.below hW)).mono fun _ _ ⟨he, hb⟩ => ⟨he, next_below hW hb⟩
theorem awake_c {w : World} (hW : Below W0.heap.size W0 w) :
    Calls Try.prog 11 #[] w fun e w' => e = .returned (.bool true) ∧ Below W0.heap.size W0 w' :=
  (awake_any w).mono fun _ _ ⟨he, hb⟩ => ⟨he, next_below hW hb⟩
end
theorem RdB.alloc {w : World} {A : Option Addr} {xs : List Int} (h : RdB w A xs) (o : Obj) : RdB (w.alloc o) A xs := h.below ((Below.refl _ _).alloc (Nat.le_refl _) o)
section
variable {W w' : World} {b : Nat} {v0 v1 : Value}
theorem held_alloc (o : Obj) (hb : b < W.heap.size) (h : w'.cell? ⟨b, 0, none⟩ = some v0 ∧ w'.cell? ⟨b, 1, none⟩ = some v1 ∧ Below W.heap.size W w') :
    (w'.alloc o).cell? ⟨b, 0, none⟩ = some v0 ∧ (w'.alloc o).cell? ⟨b, 1, none⟩ = some v1 ∧ Below W.heap.size W (w'.alloc o) :=
  ⟨(World.cell?_alloc_lt _ _ _ (Nat.lt_of_lt_of_le hb h.2.2.size)).trans h.1, (World.cell?_alloc_lt _ _ _ (Nat.lt_of_lt_of_le hb h.2.2.size)).trans h.2.1, h.2.2.alloc h.2.2.size o⟩
theorem held_drew (h : w'.cell? ⟨b, 0, none⟩ = some v0 ∧ w'.cell? ⟨b, 1, none⟩ = some v1 ∧ Below W.heap.size W w') :
    w'.drew.cell? ⟨b, 0, none⟩ = some v0 ∧ w'.drew.cell? ⟨b, 1, none⟩ = some v1 ∧ Below W.heap.size W w'.drew := ⟨h.1, h.2.1, h.2.2.drew⟩
theorem held_set (p : Addr) (u : Value) (hb : b < W.heap.size) (hp : W.heap.size ≤ p.block) (h : w'.cell? ⟨b, 0, none⟩ = some v0 ∧ w'.cell? ⟨b, 1, none⟩ = some v1 ∧ Below W.heap.size W w') :
    (w'.setCell p u).cell? ⟨b, 0, none⟩ = some v0 ∧ (w'.setCell p u).cell? ⟨b, 1, none⟩ = some v1 ∧ Below W.heap.size W (w'.setCell p u) :=
  ⟨(World.cell?_setCell_other _ _ _ _ (fun e => by subst e; exact absurd hb (by simpa using hp))).trans h.1, (World.cell?_setCell_other _ _ _ _ (fun e => by subst e; exact absurd hb (by simpa using hp))).trans h.2.1, h.2.2.setCell hp u⟩
theorem held_below (w2 : World) (hb : b < W.heap.size) (h : w'.cell? ⟨b, 0, none⟩ = some v0 ∧ w'.cell? ⟨b, 1, none⟩ = some v1 ∧ Below W.heap.size W w') (k : Below w'.heap.size w' w2) :
    w2.cell? ⟨b, 0, none⟩ = some v0 ∧ w2.cell? ⟨b, 1, none⟩ = some v1 ∧ Below W.heap.size W w2 :=
  ⟨(k.cell (p := ⟨b, 0, none⟩) (Nat.lt_of_lt_of_le hb h.2.2.size)).trans h.1, (k.cell (p := ⟨b, 1, none⟩) (Nat.lt_of_lt_of_le hb h.2.2.size)).trans h.2.1, next_below h.2.2 k⟩
end
/-- What is known of a world: blocks, bits that stand at addresses, and that nothing of the first world has turned. -/
def Bun (W0 w : World) (L : List (Nat × Obj)) (R : List (Option Addr × List Bool)) : Prop := Has w L ∧ (∀ r, r ∈ R → Rd w r.1 r.2) ∧ Below W0.heap.size W0 w
section
variable {W0 w w' : World} {L : List (Nat × Obj)} {R : List (Option Addr × List Bool)}
theorem Bun.start (w : World) : Bun w w [] [] := ⟨Has.nil_ w, fun _ h => (by cases h), Below.refl _ _⟩
theorem Bun.below (h : Bun W0 w L R) (hb : Below w.heap.size w w') : Bun W0 w' L R := ⟨h.1.below hb, fun r hr => (h.2.1 r hr).below hb, next_below h.2.2 hb⟩
theorem Bun.alloc (h : Bun W0 w L R) (o : Obj) : Bun W0 (w.alloc o) L R := h.below ((Below.refl _ _).alloc (Nat.le_refl _) o)
theorem Bun.drew (h : Bun W0 w L R) : Bun W0 w.drew L R := h.below (Below.refl _ _).drew
theorem Bun.new (h : Bun W0 w L R) (o : Obj) : Bun W0 (w.alloc o) ((w.heap.size, o) :: L) R := ⟨(h.alloc o).1.cons (heap_alloc_new w o), (h.alloc o).2.1, (h.alloc o).2.2⟩
theorem Bun.own (h : Bun W0 w L R) {g : Nat} {o : Obj} (ho : w.heap[g]? = some o) : Bun W0 w ((g, o) :: L) R := ⟨h.1.cons ho, h.2.1, h.2.2⟩
theorem Bun.rd (h : Bun W0 w L R) {A : Option Addr} {l : List Bool} (hr : Rd w A l) : Bun W0 w L ((A, l) :: R) := ⟨h.1, fun r hm => by
  rcases List.mem_cons.1 hm with rfl | hm
  · exact hr
  · exact h.2.1 r hm, h.2.2⟩
theorem Bun.get (h : Bun W0 w L R) {g : Nat} {o : Obj} (hp : (g, o) ∈ L) : w.heap[g]? = some o := h.1.get hp
theorem Bun.read (h : Bun W0 w L R) {A : Option Addr} {l : List Bool} (hp : (A, l) ∈ R) : Rd w A l := h.2.1 _ hp
theorem Bun.st (h : Bun W0 w L R) {A : Option Addr} {l : List Bool} (c : Nat) (hp : (A, l) ∈ R) (hm : l.length ≤ 4194304) : St w (.agg #[.slice A (nB l) c, .int .i64 (l.length : Nat)]) l := ⟨A, c, rfl, h.read hp, hm⟩
theorem Bun.sv (h : Bun W0 w L R) {g : Nat} {l : List Bool} (hp : (g, ob l) ∈ L) (hm : l.length ≤ 4194304) : St w (sv g l) l := own_st (h.get hp) hm
theorem Bun.olds (h : Bun W0 w L R) : (∀ b o, b < W0.heap.size → w.cell? ⟨b, o, none⟩ = W0.cell? ⟨b, o, none⟩) ∧ (∀ b o, b < W0.heap.size → w.frozen? ⟨b, o, none⟩ = W0.frozen? ⟨b, o, none⟩) := old_cells h.2.2
theorem Bun.cells (h : Bun W0 w L R) {g : Nat} {a b : Value} {t : TypeId} (hp : (g, Obj.cells #[a, b] t (0, 0)) ∈ L) :
    w.cell? ⟨g, 0, none⟩ = some a ∧ w.cell? ⟨g, 1, none⟩ = some b ∧ w.frozen? ⟨g, 0, none⟩ = false ∧ w.frozen? ⟨g, 1, none⟩ = false := cells_two (h.get hp)
end
end Go.Proofs.Ytgljaimoaijcaaa
