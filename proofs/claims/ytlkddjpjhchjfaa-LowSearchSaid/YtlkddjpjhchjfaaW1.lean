/- Edges are put in order. -/
import Derived.Test.YtlkddjpjhchjfaaW0
import Derived.Deep.RegionHeld3
namespace Go.Proofs.Ytlkddjpjhchjfaa
set_option maxRecDepth 100000
open Go.RowKit

def cmpZ (a b : Int) : Int := if a < b then -1 else if b < a then 1 else 0
def orZ (a b : Int) : Int := if a = 0 then b else a
/-- How two pairs stand. -/
def cmpP (a b : Int × Int) : Int := orZ (cmpZ a.1 b.1) (cmpZ a.2 b.2)

section
variable {W w' : World} {b : Nat} {v0 v1 : Value}
theorem held_alloc (o : Obj) (hb : b < W.heap.size) (h : w'.cell? ⟨b, 0, none⟩ = some v0 ∧ w'.cell? ⟨b, 1, none⟩ = some v1 ∧ Below W.heap.size W w') :
    (w'.alloc o).cell? ⟨b, 0, none⟩ = some v0 ∧ (w'.alloc o).cell? ⟨b, 1, none⟩ = some v1 ∧ Below W.heap.size W (w'.alloc o) :=
  ⟨(World.cell?_alloc_lt _ _ _ (Nat.lt_of_lt_of_le hb h.2.2.size)).trans h.1, (World.cell?_alloc_lt _ _ _ (Nat.lt_of_lt_of_le hb h.2.2.size)).trans h.2.1, h.2.2.alloc h.2.2.size o⟩
theorem held_drew (h : w'.cell? ⟨b, 0, none⟩ = some v0 ∧ w'.cell? ⟨b, 1, none⟩ = some v1 ∧ Below W.heap.size W w') :
    w'.drew.cell? ⟨b, 0, none⟩ = some v0 ∧ w'.drew.cell? ⟨b, 1, none⟩ = some v1 ∧ Below W.heap.size W w'.drew := ⟨h.1, h.2.1, h.2.2.drew⟩
theorem held_set (p : Addr) (u : Value) (hb : b < W.heap.size) (hp : W.heap.size ≤ p.block) (h : w'.cell? ⟨b, 0, none⟩ = some v0 ∧ w'.cell? ⟨b, 1, none⟩ = some v1 ∧ Below W.heap.size W w') :
    (w'.setCell p u).cell? ⟨b, 0, none⟩ = some v0 ∧ (w'.setCell p u).cell? ⟨b, 1, none⟩ = some v1 ∧ Below W.heap.size W (w'.setCell p u) :=
  ⟨(World.cell?_setCell_other _ _ _ _ (fun e => by subst e; exact absurd hb (by simpa using hp))).trans h.1, (World.cell?_setCell_other _ _ _ _ (fun e => by subst e; exact absurd hb (by simpa using hp))).trans h.2.1, h.2.2.setCell hp u⟩
theorem held_below (w2 : World) (hb : b < W.heap.size) (h : w'.cell? ⟨b, 0, none⟩ = some v0 ∧ w'.cell? ⟨b, 1, none⟩ = some v1 ∧ Below W.heap.size W w') (k : Below w'.heap.size w' w2) :
    w2.cell? ⟨b, 0, none⟩ = some v0 ∧ w2.cell? ⟨b, 1, none⟩ = some v1 ∧ Below W.heap.size W w2 :=
  ⟨(k.cell (p := ⟨b, 0, none⟩) (Nat.lt_of_lt_of_le hb h.2.2.size)).trans h.1, (k.cell (p := ⟨b, 1, none⟩) (Nat.lt_of_lt_of_le hb h.2.2.size)).trans h.2.1, next_below h.2.2 k⟩
end
section
variable {W w' : World} {b0 b1 : Nat} {v0 v1 u0 u1 : Value}
theorem four_alloc (o : Obj) (h0 : b0 < W.heap.size) (h1 : b1 < W.heap.size) (h : w'.cell? ⟨b0, 0, none⟩ = some v0 ∧ w'.cell? ⟨b0, 1, none⟩ = some v1 ∧ w'.cell? ⟨b1, 0, none⟩ = some u0 ∧ w'.cell? ⟨b1, 1, none⟩ = some u1 ∧ Below W.heap.size W w') :
    (w'.alloc o).cell? ⟨b0, 0, none⟩ = some v0 ∧ (w'.alloc o).cell? ⟨b0, 1, none⟩ = some v1 ∧ (w'.alloc o).cell? ⟨b1, 0, none⟩ = some u0 ∧ (w'.alloc o).cell? ⟨b1, 1, none⟩ = some u1 ∧ Below W.heap.size W (w'.alloc o) := by
  obtain ⟨a, b, c, d, e⟩ := h
  have k0 := held_alloc o h0 ⟨a, b, e⟩
  have k1 := held_alloc o h1 ⟨c, d, e⟩
  exact ⟨k0.1, k0.2.1, k1.1, k1.2.1, k1.2.2⟩
theorem four_drew (h : w'.cell? ⟨b0, 0, none⟩ = some v0 ∧ w'.cell? ⟨b0, 1, none⟩ = some v1 ∧ w'.cell? ⟨b1, 0, none⟩ = some u0 ∧ w'.cell? ⟨b1, 1, none⟩ = some u1 ∧ Below W.heap.size W w') :
    w'.drew.cell? ⟨b0, 0, none⟩ = some v0 ∧ w'.drew.cell? ⟨b0, 1, none⟩ = some v1 ∧ w'.drew.cell? ⟨b1, 0, none⟩ = some u0 ∧ w'.drew.cell? ⟨b1, 1, none⟩ = some u1 ∧ Below W.heap.size W w'.drew := by
  obtain ⟨a, b, c, d, e⟩ := h
  exact ⟨a, b, c, d, e.drew⟩
theorem four_set (p : Addr) (u : Value) (h0 : b0 < W.heap.size) (h1 : b1 < W.heap.size) (hp : W.heap.size ≤ p.block) (h : w'.cell? ⟨b0, 0, none⟩ = some v0 ∧ w'.cell? ⟨b0, 1, none⟩ = some v1 ∧ w'.cell? ⟨b1, 0, none⟩ = some u0 ∧ w'.cell? ⟨b1, 1, none⟩ = some u1 ∧ Below W.heap.size W w') :
    (w'.setCell p u).cell? ⟨b0, 0, none⟩ = some v0 ∧ (w'.setCell p u).cell? ⟨b0, 1, none⟩ = some v1 ∧ (w'.setCell p u).cell? ⟨b1, 0, none⟩ = some u0 ∧ (w'.setCell p u).cell? ⟨b1, 1, none⟩ = some u1 ∧ Below W.heap.size W (w'.setCell p u) := by
  obtain ⟨a, b, c, d, e⟩ := h
  have k0 := held_set p u h0 hp ⟨a, b, e⟩
  have k1 := held_set p u h1 hp ⟨c, d, e⟩
  exact ⟨k0.1, k0.2.1, k1.1, k1.2.1, k1.2.2⟩
theorem four_below (w2 : World) (h0 : b0 < W.heap.size) (h1 : b1 < W.heap.size) (h : w'.cell? ⟨b0, 0, none⟩ = some v0 ∧ w'.cell? ⟨b0, 1, none⟩ = some v1 ∧ w'.cell? ⟨b1, 0, none⟩ = some u0 ∧ w'.cell? ⟨b1, 1, none⟩ = some u1 ∧ Below W.heap.size W w') (k : Below w'.heap.size w' w2) :
    w2.cell? ⟨b0, 0, none⟩ = some v0 ∧ w2.cell? ⟨b0, 1, none⟩ = some v1 ∧ w2.cell? ⟨b1, 0, none⟩ = some u0 ∧ w2.cell? ⟨b1, 1, none⟩ = some u1 ∧ Below W.heap.size W w2 := by
  obtain ⟨a, b, c, d, e⟩ := h
  have k0 := held_below w2 h0 ⟨a, b, e⟩ k
  have k1 := held_below w2 h1 ⟨c, d, e⟩ k
  exact ⟨k0.1, k0.2.1, k1.1, k1.2.1, k1.2.2⟩
end

theorem isNaN_any (a : Int) (w : World) : Calls Try.prog 84 #[.int .i64 a] w fun e w' => e = .returned (.bool false) ∧ w = w' := by
  go_enter Try.func84, Try.ntmps84
  go_wp2_with fail
  go_ret
  exact ⟨rfl, rfl⟩

theorem cmpZ_any (a b : Int) (w : World) : Calls Try.prog 76 #[.int .i64 a, .int .i64 b] w fun e w' => e = .returned (.int .i64 (cmpZ a b)) ∧ w = w' := by
  by_cases h1 : a < b
  · have hc : Hid (cmpZ a b = -1) := by show _ = _; simp [cmpZ, h1]
    go_enter Try.func76, Try.ntmps76
    go_wp2_with (first | (go_at_call 84; refine (isNaN_any _ _).mono ?_; rintro e wn ⟨rfl, rfl⟩))
    go_ret
    exact ⟨ret_int hc.out.symm, rfl⟩
  · by_cases h2 : b < a
    · have hc : Hid (cmpZ a b = 1) := by show _ = _; simp [cmpZ, h1, h2]
      go_enter Try.func76, Try.ntmps76
      go_wp2_with (first | (go_at_call 84; refine (isNaN_any _ _).mono ?_; rintro e wn ⟨rfl, rfl⟩))
      go_ret
      exact ⟨ret_int hc.out.symm, rfl⟩
    · have hc : Hid (cmpZ a b = 0) := by show _ = _; simp [cmpZ, h1, h2]
      go_enter Try.func76, Try.ntmps76
      go_wp2_with (first | (go_at_call 84; refine (isNaN_any _ _).mono ?_; rintro e wn ⟨rfl, rfl⟩))
      go_ret
      exact ⟨ret_int hc.out.symm, rfl⟩

theorem or_any (g c : Nat) (a b : Int) (w : World) (h0 : w.cell? ⟨g, 0, none⟩ = some (.int .i64 a)) (h1 : w.cell? ⟨g, 1, none⟩ = some (.int .i64 b)) :
    Calls Try.prog 75 #[.slice (some ⟨g, 0, none⟩) 2 c] w fun e w' => e = .returned (.int .i64 (orZ a b)) ∧ Below w.heap.size w w' := by
  by_cases ha : a = 0
  · subst ha
    by_cases hb : b = 0
    · subst hb
      go_enter Try.func75, Try.ntmps75
      go_wp2_with fail
      go_loopw [8] (fun s wr => (s = .int .i64 0 ∨ s = .int .i64 1 ∨ s = .int .i64 2) ∧ wr = w) (fun s _ => 2 - (intOf s).toNat)
      case atStart => exact ⟨.inl rfl, rfl⟩
      case round =>
        obtain ⟨rfl | rfl | rfl, rfl⟩ := hrel
        · go_wp2_with fail
          go_roundw
          case rel => exact ⟨.inr (.inl rfl), by first | rfl | trivial⟩
          case measure => simp [intOf]
        · go_wp2_with fail
          go_roundw
          case rel => exact ⟨.inr (.inr rfl), by first | rfl | trivial⟩
          case measure => simp [intOf]
        · go_wp2_with fail
          go_ret
          exact ⟨rfl, Below.refl _ _⟩
    · have hd : (b == 0) = false := by simpa using hb
      go_enter Try.func75, Try.ntmps75
      go_wp2_with fail
      go_loopw [8] (fun s wr => (s = .int .i64 0 ∨ s = .int .i64 1) ∧ wr = w) (fun s _ => 2 - (intOf s).toNat)
      case atStart => exact ⟨.inl rfl, rfl⟩
      case round =>
        obtain ⟨rfl | rfl, rfl⟩ := hrel
        · go_wp2_with fail
          go_roundw
          case rel => exact ⟨.inr rfl, by first | rfl | trivial⟩
          case measure => simp [intOf]
        · go_wp2_with fail
          go_ret
          exact ⟨rfl, Below.refl _ _⟩
  · have hd : (a == 0) = false := by simpa using ha
    have ho : Hid (orZ a b = a) := by show _ = _; simp [orZ, ha]
    go_enter Try.func75, Try.ntmps75
    go_wp2_with fail
    go_loopw [8] (fun s wr => s = .int .i64 0 ∧ wr = w) (fun s _ => 2 - (intOf s).toNat)
    case atStart => exact ⟨rfl, rfl⟩
    case round =>
      obtain ⟨rfl, rfl⟩ := hrel
      go_wp2_with fail
      go_ret
      exact ⟨ret_int ho.out.symm, Below.refl _ _⟩

set_option maxHeartbeats 2000000 in
theorem compare_any (a b : Int × Int) (w : World) :
    Calls Try.prog 62 #[.agg #[.int .i64 a.1, .int .i64 a.2], .agg #[.int .i64 b.1, .int .i64 b.2]] w fun e w' => e = .returned (.int .i64 (cmpP a b)) ∧ Below w.heap.size w w' := by
  obtain ⟨a0, a1⟩ := a
  obtain ⟨b0, b1⟩ := b
  have HC : Hid (cmpP (a0, a1) (b0, b1) = orZ (cmpZ a0 b0) (cmpZ a1 b1)) := rfl
  rw [HC.out]
  obtain ⟨W, hW⟩ : ∃ W, W = (w.alloc (.cells #[.int .i64 a0, .int .i64 a1] 51)).alloc (.cells #[.int .i64 b0, .int .i64 b1] 51) := ⟨_, rfl⟩
  have hWS : W.heap.size = w.heap.size + 1 + 1 := by rw [hW]; simp
  have hbW : Below w.heap.size w W := by rw [hW]; exact ((Below.refl _ _).alloc (Nat.le_refl _) _).alloc (by simp) _
  obtain ⟨i0, i1, _, _⟩ := cells_two (w := W) (by rw [hW]; exact two_first w _ _)
  obtain ⟨i2, i3, _, _⟩ := cells_two (w := W) (by rw [hW]; exact two_second w _ _)
  have HW := Lib.hid hW
  have HB := Lib.hid hbW
  have H0 : Hid (w.heap.size < W.heap.size) := by show _ < _; omega
  have H1 : Hid (w.heap.size + 1 < W.heap.size) := by show _ < _; omega
  have hD : W.drew.cell? ⟨w.heap.size, 0, none⟩ = some (.int .i64 a0) ∧ W.drew.cell? ⟨w.heap.size, 1, none⟩ = some (.int .i64 a1) ∧ W.drew.cell? ⟨w.heap.size + 1, 0, none⟩ = some (.int .i64 b0) ∧ W.drew.cell? ⟨w.heap.size + 1, 1, none⟩ = some (.int .i64 b1) ∧ Below W.heap.size W W.drew := ⟨i0, i1, i2, i3, (Below.refl _ _).drew⟩
  clear hW hbW hWS
  go_enter Try.func62, Try.ntmps62
  go_wp2_with fail
  rw [← HW.out]
  go_region_held3 (fun w' => w'.cell? ⟨w.heap.size, 0, none⟩ = some (.int .i64 a0) ∧ w'.cell? ⟨w.heap.size, 1, none⟩ = some (.int .i64 a1) ∧ w'.cell? ⟨w.heap.size + 1, 0, none⟩ = some (.int .i64 b0) ∧ w'.cell? ⟨w.heap.size + 1, 1, none⟩ = some (.int .i64 b1) ∧ Below W.heap.size W w')
    (first | exact hS | exact hD | exact four_alloc _ H0.out H1.out (by assumption))
    (first
      | (go_at_call 76; refine (cmpZ_any _ _ _).mono ?_; rintro e wn ⟨rfl, rfl⟩)
      | (go_at_call 75; refine (or_any _ _ (cmpZ a0 b0) (cmpZ a1 b1) _ (World.cell?_alloc_at _ _ _ _ rfl) (World.cell?_alloc_at _ _ _ _ rfl)).mono ?_; rintro e wn ⟨rfl, hb⟩; have hS := four_below wn H0.out H1.out (by assumption) hb))
  all_goals go_wp2_with fail
  all_goals go_ret
  all_goals exact ⟨rfl, next_below HB.out hS.2.2.2.2⟩
end Go.Proofs.Ytlkddjpjhchjfaa
