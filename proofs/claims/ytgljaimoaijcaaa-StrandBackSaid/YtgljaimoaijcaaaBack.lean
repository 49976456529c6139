/- Things that are put, and got. -/
import Derived.Test.YtgljaimoaijcaaaB6
namespace Go.Proofs.Ytgljaimoaijcaaa
open Go.RowKit

/-- A thing's number, and its bits. -/
def num (N W : Nat) : Nat := if W < 64 then N % 2 ^ W else min N 18446744073709551614
def enc (N W : Nat) : List Bool := if W ≤ 64 then digs (num N W) W else knot (num N W)
theorem num_lt {N W : Nat} (hW : W ≤ 64) : num N W < 2 ^ W := by
  unfold num
  split
  · exact Nat.mod_lt _ (Nat.pow_pos (by omega))
  · obtain rfl : W = 64 := by omega
    have : (2 : Nat) ^ 64 = 18446744073709551616 := by decide
    omega
theorem num_lt2 {N W : Nat} (hW : 64 < W) : num N W < 18446744073709551615 := by
  unfold num
  rw [if_neg (by omega)]
  omega
theorem enc_le (N W : Nat) : (enc N W).length ≤ 200 := by
  unfold enc
  split
  · rw [digs_length]; omega
  · have := lead_bounds (num N W) (num_lt2 (by omega))
    omega
theorem digs_get (n W j : Nat) (hj : j < W) : (digs n W).getD j false = (n / 2 ^ (W - 1 - j) % 2 == 1) := digs_at _ _ _ hj

abbrev tv (N W : Nat) : Value := .agg #[.int .u64 (N : Nat), .int .u8 (W : Nat)]
set_option maxHeartbeats 400000 in
theorem number_any (N W : Nat) (w : World) (hN : N < 18446744073709551616) (hW : W < 256) :
    Calls Try.prog 35 #[tv N W] w fun e w' => e = .returned (.int .u64 (num N W : Nat)) ∧ Below w.heap.size w w' := by
  by_cases hlt : W < 64
  · have hm : num N W = N % 2 ^ W := if_pos hlt
    have hp0 : 0 < 2 ^ W := Nat.pow_pos (by omega)
    have hp2 : 2 ^ W < 2 ^ 64 := Nat.pow_lt_pow_right (by omega) hlt
    have e64 : (2 : Nat) ^ 64 = 18446744073709551616 := by decide
    rw [e64] at hp2
    obtain ⟨p, hp⟩ : ∃ p, p = 2 ^ W := ⟨_, rfl⟩
    have hpI : (2 : Int) ^ W = (p : Nat) := by rw [hp, Int.natCast_pow]; rfl
    rw [← hp] at hm hp0 hp2
    have hwr : IntKind.u64.wrap ((2 : Int) ^ W) = (p : Nat) := by rw [hpI]; simp [IntKind.wrap, IntKind.bits, IntKind.signed]; omega
    have hpz : ((p : Int) == 0) = false := by simp; omega
    have HM := Lib.hid hm
    clear hp hm
    generalize num N W = r at *
    go_enter Try.func35, Try.ntmps35
    go_wp2_with fail
    first | done | go_ret
    exact ⟨by rw [HM.out]; simp, (Below.refl _ _).alloc (Nat.le_refl _) _⟩
  · have hm : num N W = min N 18446744073709551614 := if_neg hlt
    have HM := Lib.hid hm
    generalize num N W = r at *
    clear hm
    go_enter Try.func35, Try.ntmps35
    go_wp2_with fail
    go_ret
    exact ⟨ret_int (by show min (N : Int) 18446744073709551614 = _; rw [HM.out]; omega), (Below.refl _ _).alloc (Nat.le_refl _) _⟩

section
variable {W w' : World} {b1 b2 : Nat} {u0 u1 v0 v1 : Value}
def Two (W : World) (b1 : Nat) (u0 u1 : Value) (b2 : Nat) (v0 v1 : Value) (w' : World) : Prop :=
  w'.cell? ⟨b1, 0, none⟩ = some u0 ∧ w'.cell? ⟨b1, 1, none⟩ = some u1 ∧ w'.cell? ⟨b2, 0, none⟩ = some v0 ∧ w'.cell? ⟨b2, 1, none⟩ = some v1 ∧ Below W.heap.size W w'
theorem two_drew (h : w'.cell? ⟨b1, 0, none⟩ = some u0 ∧ w'.cell? ⟨b1, 1, none⟩ = some u1 ∧ w'.cell? ⟨b2, 0, none⟩ = some v0 ∧ w'.cell? ⟨b2, 1, none⟩ = some v1 ∧ Below W.heap.size W w') :
    w'.drew.cell? ⟨b1, 0, none⟩ = some u0 ∧ w'.drew.cell? ⟨b1, 1, none⟩ = some u1 ∧ w'.drew.cell? ⟨b2, 0, none⟩ = some v0 ∧ w'.drew.cell? ⟨b2, 1, none⟩ = some v1 ∧ Below W.heap.size W w'.drew := ⟨h.1, h.2.1, h.2.2.1, h.2.2.2.1, h.2.2.2.2.drew⟩
theorem two_below (w2 : World) (k : Below w'.heap.size w' w2)
    (h : w'.cell? ⟨b1, 0, none⟩ = some u0 ∧ w'.cell? ⟨b1, 1, none⟩ = some u1 ∧ w'.cell? ⟨b2, 0, none⟩ = some v0 ∧ w'.cell? ⟨b2, 1, none⟩ = some v1 ∧ Below W.heap.size W w') :
    w2.cell? ⟨b1, 0, none⟩ = some u0 ∧ w2.cell? ⟨b1, 1, none⟩ = some u1 ∧ w2.cell? ⟨b2, 0, none⟩ = some v0 ∧ w2.cell? ⟨b2, 1, none⟩ = some v1 ∧ Below W.heap.size W w2 := by
  obtain ⟨a, b, c, d, hb⟩ := h
  exact ⟨(k.cell (World.block_lt_of_cell? w' _ a)).trans a, (k.cell (World.block_lt_of_cell? w' _ b)).trans b, (k.cell (World.block_lt_of_cell? w' _ c)).trans c, (k.cell (World.block_lt_of_cell? w' _ d)).trans d, next_below hb k⟩
theorem two_set (p : Addr) (u : Value) (h1 : b1 ≠ p.block) (h2 : b2 ≠ p.block) (hp : W.heap.size ≤ p.block)
    (h : w'.cell? ⟨b1, 0, none⟩ = some u0 ∧ w'.cell? ⟨b1, 1, none⟩ = some u1 ∧ w'.cell? ⟨b2, 0, none⟩ = some v0 ∧ w'.cell? ⟨b2, 1, none⟩ = some v1 ∧ Below W.heap.size W w') :
    (w'.setCell p u).cell? ⟨b1, 0, none⟩ = some u0 ∧ (w'.setCell p u).cell? ⟨b1, 1, none⟩ = some u1 ∧ (w'.setCell p u).cell? ⟨b2, 0, none⟩ = some v0 ∧ (w'.setCell p u).cell? ⟨b2, 1, none⟩ = some v1 ∧ Below W.heap.size W (w'.setCell p u) :=
  ⟨(World.cell?_of_block (Below.heap_setCell w' p u b1 h1)).trans h.1, (World.cell?_of_block (Below.heap_setCell w' p u b1 h1)).trans h.2.1, (World.cell?_of_block (Below.heap_setCell w' p u b2 h2)).trans h.2.2.1, (World.cell?_of_block (Below.heap_setCell w' p u b2 h2)).trans h.2.2.2.1, h.2.2.2.2.setCell hp u⟩
end
theorem three_first (w : World) (a b c : Obj) : (((w.alloc a).alloc b).alloc c).heap[w.heap.size]? = some a := (Below.heap_alloc _ c _ (by simp; omega)).trans (two_first w a b)
theorem three_second (w : World) (a b c : Obj) : (((w.alloc a).alloc b).alloc c).heap[w.heap.size + 1]? = some b := (Below.heap_alloc _ c _ (by simp)).trans (two_second w a b)
theorem three_third (w : World) (a b c : Obj) : (((w.alloc a).alloc b).alloc c).heap[w.heap.size + 2]? = some c := by
  have h := heap_alloc_new ((w.alloc a).alloc b) c
  simpa using h

set_option maxRecDepth 100000 in
set_option maxHeartbeats 2000000 in
theorem put_any (N W : Nat) (x : Value) (a : List Bool) (w : World) (hx : St w x a) (hN : N < 18446744073709551616) (hW : W < 256) (hm : a.length + 200 ≤ 4194304) :
    Calls Try.prog 33 #[tv N W, x] w (NewSt (a ++ enc N W) w) := by
  have hlen := enc_le N W
  obtain ⟨A, c, rfl, hr, hm1⟩ := hx
  obtain ⟨W0, hW0⟩ : ∃ W0, ((w.alloc (.cells #[.int .u64 (N : Nat), .int .u8 (W : Nat)] 52)).alloc (.cells #[.slice A (nB a) c, .int .i64 (a.length : Nat)] 24)).alloc (.cells #[.slice none 0 0, .int .i64 0] 24) = W0 := ⟨_, rfl⟩
  have hz : W0.heap.size = w.heap.size + 3 := by rw [← hW0]; simp
  have hB0 : Below w.heap.size w W0 := by rw [← hW0]; exact (((Below.refl _ _).alloc (Nat.le_refl _) _).alloc (by simp) _).alloc (by simp; omega) _
  have hA : W0.heap[w.heap.size]? = some (.cells #[.int .u64 (N : Nat), .int .u8 (W : Nat)] 52) := by rw [← hW0]; exact three_first w _ _ _
  have hBb : W0.heap[w.heap.size + 1]? = some (.cells #[.slice A (nB a) c, .int .i64 (a.length : Nat)] 24) := by rw [← hW0]; exact three_second w _ _ _
  have hCb : W0.heap[w.heap.size + 2]? = some (.cells #[.slice none 0 0, .int .i64 0] 24) := by rw [← hW0]; exact three_third w _ _ _
  have HR := Lib.hid hr
  have HC := Lib.hid hCb
  have HW0 := Lib.hid hW0
  obtain ⟨a1, a2, _, _⟩ := cells_two hA
  obtain ⟨b1, b2, _, _⟩ := cells_two hBb
  have HD := Lib.hid (two_drew ⟨a1, a2, b1, b2, hB0⟩)
  clear hB0 hCb hr hA hBb hW0
  have CN : Hid (∀ w', Calls Try.prog 35 #[tv N W] w' fun e w'' => e = .returned (.int .u64 (num N W : Nat)) ∧ Below w'.heap.size w' w'') := fun w' => number_any N W w' hN hW
  have hres : ∀ (g : Nat) (w2 : World), W0.heap.size ≤ g → Own w2 g (a ++ enc N W) → Below w.heap.size w w2 →
      NewSt (a ++ enc N W) w (.returned (.tuple #[.agg #[.slice (some ⟨g, 0, none⟩) (nB (a ++ enc N W)) (nB (a ++ enc N W)), .int .i64 ((a ++ enc N W).length : Nat)], .int .i64 0]))
        ((w2.setCell ⟨w.heap.size + 2, 0, none⟩ (.slice (some ⟨g, 0, none⟩) (nB (a ++ enc N W)) (nB (a ++ enc N W)))).setCell ⟨w.heap.size + 2, 1, none⟩ (.int .i64 ((a ++ enc N W).length : Nat))) := by
    intro g w2 hg ho hb
    have hne : g ≠ w.heap.size + 2 := by omega
    refine ⟨g, _, rfl, ⟨rfl, (ho.far hne _).far hne _⟩, by omega, ?_⟩
    exact (hb.setCell (by show _ ≤ w.heap.size + 2; omega) _).setCell (by show _ ≤ w.heap.size + 2; omega) _
  have HRES := Lib.hid hres
  have N1 : Hid (w.heap.size ≠ w.heap.size + 2) := by show _ ≠ _; omega
  have N2 : Hid (w.heap.size + 1 ≠ w.heap.size + 2) := by show _ ≠ _; omega
  have N3 : Hid (w.heap.size ≤ w.heap.size + 2) := by show _ ≤ _; omega
  clear hres
  by_cases hle : W ≤ 64
  · have hd : decide ((W : Int) ≤ 64) = true := by simp; omega
    have he : enc N W = digs (num N W) W := if_pos hle
    have hwr : IntKind.i64.wrap (W : Int) = (W : Int) := IntWalk.i64_in _ (by omega)
    have HE := Lib.hid he
    have CF : Hid (∀ w', Below w.heap.size w w' → Calls Try.prog 20 #[.agg #[.slice A (nB a) c, .int .i64 (a.length : Nat)], .int .u64 (num N W : Nat), .int .i64 (W : Nat)] w' (NewSt (a ++ enc N W) w')) := by
      intro w' h
      rw [he]
      exact field_any _ a (num N W) W w' ⟨A, c, rfl, HR.out.below h, hm1⟩ hle (num_lt hle) (by omega)
    generalize a ++ enc N W = l at *
    clear he hlen
    go_enter Try.func33, Try.ntmps33
    go_upto_region 2 with fail
    rw [HW0.out]
    go_region_held3 (fun w' => w'.cell? ⟨w.heap.size, 0, none⟩ = some (.int .u64 (N : Nat)) ∧ w'.cell? ⟨w.heap.size, 1, none⟩ = some (.int .u8 (W : Nat)) ∧ w'.cell? ⟨w.heap.size + 1, 0, none⟩ = some (.slice A (nB a) c) ∧ w'.cell? ⟨w.heap.size + 1, 1, none⟩ = some (.int .i64 (a.length : Nat)) ∧ Below w.heap.size w w')
      (first | exact hS | exact HD.out | exact two_set _ _ N1.out N2.out N3.out (two_set _ _ N1.out N2.out N3.out (by assumption)))
      (first
        | (go_at_call 35; (with_reducible refine (CN.out _).mono ?_); rintro e w1 ⟨rfl, hb⟩; have hS := two_below w1 hb (by assumption); have HY1 := Lib.hid (blk_below (w := W0.drew) HC.out hb); have HZ1 := Lib.hid (show W0.heap.size ≤ w1.heap.size from hb.size))
        | (go_at_call 20; (with_reducible refine (CF.out _ hS.2.2.2.2).mono ?_); rintro e w2 ⟨g, v, rfl, ⟨rfl, ho⟩, hg, hb⟩; have hS2 := hS.2.2.2.2; have hS := two_below w2 hb (by assumption); have HY2 := Lib.hid (blk_below HY1.out hb); obtain ⟨y3, y4, z3, z4⟩ := cells_two HY2.out))
    go_wp2_with fail
    have hz1 := HZ1.out
    refine bodyPost_ret (v := .tuple #[.agg #[.slice (some ⟨g, 0, none⟩) (nB l) (nB l), .int .i64 (l.length : Nat)], .int .i64 0]) (by simp [results, Try.results33, go_sem, y3, y4]) rfl (HRES.out g w2 (Nat.le_trans hz1 hg) ho hS.2.2.2.2)
  · have hd : decide ((W : Int) ≤ 64) = false := by simp; omega
    have he : enc N W = knot (num N W) := if_neg hle
    have HE := Lib.hid he
    have CF : Hid (∀ w', Below w.heap.size w w' → Calls Try.prog 22 #[.agg #[.slice A (nB a) c, .int .i64 (a.length : Nat)], .int .u64 (num N W : Nat)] w' (NewSt (a ++ enc N W) w')) := by
      intro w' h
      rw [he]
      exact knot_any _ a (num N W) w' ⟨A, c, rfl, HR.out.below h, hm1⟩ (num_lt2 (by omega)) (by omega)
    generalize a ++ enc N W = l at *
    clear he hlen
    go_enter Try.func33, Try.ntmps33
    go_upto_region 3 with fail
    rw [HW0.out]
    go_region_held3 (fun w' => w'.cell? ⟨w.heap.size, 0, none⟩ = some (.int .u64 (N : Nat)) ∧ w'.cell? ⟨w.heap.size, 1, none⟩ = some (.int .u8 (W : Nat)) ∧ w'.cell? ⟨w.heap.size + 1, 0, none⟩ = some (.slice A (nB a) c) ∧ w'.cell? ⟨w.heap.size + 1, 1, none⟩ = some (.int .i64 (a.length : Nat)) ∧ Below w.heap.size w w')
      (first | exact hS | exact HD.out | exact two_set _ _ N1.out N2.out N3.out (two_set _ _ N1.out N2.out N3.out (by assumption)))
      (first
        | (go_at_call 35; (with_reducible refine (CN.out _).mono ?_); rintro e w1 ⟨rfl, hb⟩; have hS := two_below w1 hb (by assumption); have HY1 := Lib.hid (blk_below (w := W0.drew) HC.out hb); have HZ1 := Lib.hid (show W0.heap.size ≤ w1.heap.size from hb.size))
        | (go_at_call 22; (with_reducible refine (CF.out _ hS.2.2.2.2).mono ?_); rintro e w2 ⟨g, v, rfl, ⟨rfl, ho⟩, hg, hb⟩; have hS2 := hS.2.2.2.2; have hS := two_below w2 hb (by assumption); have HY2 := Lib.hid (blk_below HY1.out hb); obtain ⟨y3, y4, z3, z4⟩ := cells_two HY2.out))
    go_wp2_with fail
    have hz1 := HZ1.out
    refine bodyPost_ret (v := .tuple #[.agg #[.slice (some ⟨g, 0, none⟩) (nB l) (nB l), .int .i64 (l.length : Nat)], .int .i64 0]) (by simp [results, Try.results33, go_sem, y3, y4]) rfl (HRES.out g w2 (Nat.le_trans hz1 hg) ho hS.2.2.2.2)
end Go.Proofs.Ytgljaimoaijcaaa
