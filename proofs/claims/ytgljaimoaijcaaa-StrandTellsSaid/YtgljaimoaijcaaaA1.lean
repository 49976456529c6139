/- Walks of the small functions of strand, and of what makes a strand in memory of its own. -/
import Derived.Test.YtgljaimoaijcaaaProg
import Derived.Test.YtgljaimoaijcaaaA0
import Derived.WalkKit
import Derived.WalkSpells
import Derived.WalkLawsBesides
import Derived.BigQuiet
import Derived.Deep.QuietTactic
import Derived.Deep.Draws
import Derived.Deep.RegionHeld3
import Derived.Deep.RegionWith
import Derived.StillTailTactics
import Derived.Laws.CopyOwn
import Derived.Lib.Hide
namespace Go.Proofs.Ytgljaimoaijcaaa
open Go.RowKit

theorem block_add (a : Addr) (n : Nat) : (a.add n).block = a.block := by unfold Addr.add; split <;> rfl
theorem add_off (g n : Nat) : (⟨g, 0, none⟩ : Addr).add n = ⟨g, n, none⟩ := by unfold Addr.add; split <;> simp_all

/-- Block g holds the bytes of these bits, and nothing else. -/
def Own (w : World) (g : Nat) (l : List Bool) : Prop := w.heap[g]? = some (.cells (cellsOf l) 5 (0, 0))
/-- What stands at A reads as the bytes of these bits. -/
def Rd (w : World) (A : Option Addr) (l : List Bool) : Prop := ∀ q, q < nB l → ∃ ad, A = some ad ∧ ad.block < w.heap.size ∧ w.cell? (ad.add q) = some (by8 (byteOf l q))

theorem Own.lt {w : World} {g : Nat} {l : List Bool} (h : Own w g l) : g < w.heap.size := lt_of_block h
theorem Own.cell {w : World} {g : Nat} {l : List Bool} (h : Own w g l) {q : Nat} (hq : q < nB l) : w.cell? ⟨g, q, none⟩ = some (by8 (byteOf l q)) := by
  unfold Own at h
  simp [World.cell?, h, cellsOf_get l q hq]
theorem Own.free {w : World} {g : Nat} {l : List Bool} (h : Own w g l) (q : Nat) : w.frozen? ⟨g, q, none⟩ = false := by
  unfold Own at h
  simp [World.frozen?, h]
theorem Own.rd {w : World} {g : Nat} {l : List Bool} (h : Own w g l) : Rd w (some ⟨g, 0, none⟩) l :=
  fun q hq => ⟨_, rfl, h.lt, by rw [add_off]; exact h.cell hq⟩
theorem Own.alloc {w : World} {g : Nat} {l : List Bool} (h : Own w g l) (o : Obj) : Own (w.alloc o) g l := (Below.heap_alloc w o g h.lt).trans h
theorem Own.drew {w : World} {g : Nat} {l : List Bool} (h : Own w g l) : Own w.drew g l := h
theorem Own.below {w w' : World} {g : Nat} {l : List Bool} (h : Own w g l) (hb : Below w.heap.size w w') : Own w' g l := (hb.block g h.lt).trans h
theorem Own.far {w : World} {g : Nat} {l : List Bool} (h : Own w g l) {p : Addr} (hp : g ≠ p.block) (u : Value) : Own (w.setCell p u) g l := (Below.heap_setCell w p u g hp).trans h
theorem Own.grown {w w' : World} {g k : Nat} {l : List Bool} (h : Own w g l) (hb : w.grownBy w' (some k)) (hg : g ≠ k) : Own w' g l := (hb.block g h.lt (by simpa using hg)).trans h
theorem Own.set_ {w : World} {g : Nat} {l : List Bool} (h : Own w g l) {i : Nat} (hi : i < l.length) : Own (w.setCell ⟨g, i / 8, none⟩ (by8 (byteOf l (i/8) ||| 2 ^ (7 - i % 8)))) g (l.set i true) := by
  unfold Own at h ⊢
  rw [← cellsOf_set l i hi]
  simp [World.setCell, Array.getElem?_modify, h]

theorem Rd.nil_ {w : World} {A : Option Addr} : Rd w A [] := fun q hq => absurd hq (by simp [nB])
theorem Rd.alloc {w : World} {A : Option Addr} {l : List Bool} (h : Rd w A l) (o : Obj) : Rd (w.alloc o) A l := fun q hq => by
  obtain ⟨ad, e, hb, hc⟩ := h q hq
  exact ⟨ad, e, by simp; omega, (World.cell?_alloc_lt w o _ (by rw [block_add]; exact hb)).trans hc⟩
theorem Rd.drew {w : World} {A : Option Addr} {l : List Bool} (h : Rd w A l) : Rd w.drew A l := h
theorem Rd.below {w w' : World} {A : Option Addr} {l : List Bool} (h : Rd w A l) (hb : Below w.heap.size w w') : Rd w' A l := fun q hq => by
  obtain ⟨ad, e, hl, hc⟩ := h q hq
  exact ⟨ad, e, Nat.lt_of_lt_of_le hl hb.size, (hb.cell (by rw [block_add]; exact hl)).trans hc⟩
/-- Bits that lie apart from block k stay, whatever is laid there. -/
def RdNot (w : World) (k : Nat) (A : Option Addr) (l : List Bool) : Prop := ∀ q, q < nB l → ∃ ad, A = some ad ∧ ad.block < w.heap.size ∧ ad.block ≠ k ∧ w.cell? (ad.add q) = some (by8 (byteOf l q))
theorem RdNot.rd {w : World} {k : Nat} {A : Option Addr} {l : List Bool} (h : RdNot w k A l) : Rd w A l := fun q hq => by
  obtain ⟨ad, e, hl, _, hc⟩ := h q hq
  exact ⟨ad, e, hl, hc⟩
theorem RdNot.grown {w w' : World} {k : Nat} {A : Option Addr} {l : List Bool} (h : RdNot w k A l) (hb : w.grownBy w' (some k)) : RdNot w' k A l := fun q hq => by
  obtain ⟨ad, e, hl, hn, hc⟩ := h q hq
  exact ⟨ad, e, Nat.lt_of_lt_of_le hl hb.size, hn, (World.cell?_of_block (hb.block (ad.add q).block (by rw [block_add]; exact hl) (by rw [block_add]; simpa using hn))).trans hc⟩

theorem gb_alloc {a w : World} {row : Option Nat} (h : a.grownBy w row) (o : Obj) : a.grownBy (w.alloc o) row :=
  ⟨h.os, h.tape, h.output, Nat.le_trans h.size (by simp), fun i hi hne => (Below.heap_alloc w o i (Nat.lt_of_lt_of_le hi h.size)).trans (h.block i hi hne)⟩
theorem gb_drew {a w : World} {row : Option Nat} (h : a.grownBy w row) : a.grownBy w.drew row := ⟨h.os, h.tape, h.output, h.size, h.block⟩
theorem gb_set {a w : World} {g : Nat} (h : a.grownBy w (some g)) {p : Addr} (hp : p.block = g) (u : Value) : a.grownBy (w.setCell p u) (some g) :=
  ⟨h.os, h.tape, h.output, by simpa [World.setCell] using h.size, fun i hi hne => (Below.heap_setCell w p u i (by rintro rfl; exact hne (by rw [hp]))).trans (h.block i hi hne)⟩

set_option maxHeartbeats 400000 in
theorem size_any (n : Int) (w : World) (h0 : 0 ≤ n) (h1 : n ≤ 9000000000000000000) :
    Calls Try.prog 45 #[.int .i64 n] w fun e w' => e = .returned (.int .i64 ((n + 7) / 8)) ∧ w = w' := by
  go_enter Try.func45, Try.ntmps45
  go_wp2
  go_ret
  exact ⟨rfl, rfl⟩

theorem ret_int {k : IntKind} {a b : Int} (h : a = b) : Ending.returned (.int k a) = .returned (.int k b) := by rw [h]

set_option maxHeartbeats 400000 in
theorem bit_any (A : Option Addr) (l : List Bool) (n c : Nat) (L : Int) (i : Nat) (w : World) (hr : Rd w A l) (hn : n = nB l) (hi : i < l.length) (hm : l.length ≤ 9000000000000000) :
    Calls Try.prog 56 #[.agg #[.slice A n c, .int .i64 L], .int .i64 i] w fun e w' => e = .returned (.int .u8 ((l.getD i false).toNat : Nat)) ∧ Below w.heap.size w w' := by
  have hq : i / 8 < nB l := by unfold nB; omega
  obtain ⟨ad, rfl, hb, hc⟩ := hr (i / 8) hq
  have hfin := Lib.hid (and_at l i)
  have hlt := byteOf_lt l (i / 8)
  unfold by8 at hc
  generalize hx : byteOf l (i / 8) = x at *
  clear hx
  have hc' : ∀ o, (w.alloc o).cell? (ad.add (i / 8)) = some (.int .u8 x) := fun o => (World.cell?_alloc_lt w o _ (by rw [block_add]; exact hb)).trans hc
  have hn1 : i / 8 < n := by omega
  have hn2 : n ≤ 9000000000000000 := by rw [hn]; unfold nB; omega
  clear hc hr hn hq
  go_enter Try.func56, Try.ntmps56
  go_wp2
  go_ret
  exact ⟨ret_int hfin.out, (Below.refl _ _).alloc (Nat.le_refl _) _⟩

set_option maxHeartbeats 400000 in
theorem set_any (g : Nat) (l : List Bool) (n c : Nat) (L : Int) (i : Nat) (w : World) (ho : Own w g l) (hn : n = nB l) (hi : i < l.length) (hm : l.length ≤ 9000000000000000) :
    Calls Try.prog 54 #[.agg #[.slice (some ⟨g, 0, none⟩) n c, .int .i64 L], .int .i64 i] w
      fun e w' => e = .returned (.tuple #[]) ∧ Own w' g (l.set i true) ∧ w.grownBy w' (some g) := by
  have hq : i / 8 < nB l := by unfold nB; omega
  have hfin := Lib.hid (ho.set_ hi)
  have hor := Lib.hid (or_at l i)
  have hlt := byteOf_lt l (i / 8)
  have hg := ho.lt
  have hc := ho.cell hq
  have hf := ho.free (i / 8)
  unfold by8 at hc
  clear ho
  generalize byteOf l (i / 8) = x at *
  have hc' : ∀ o, (w.alloc o).cell? ⟨g, i / 8, none⟩ = some (.int .u8 x) := fun o => (World.cell?_alloc_lt w o _ hg).trans hc
  have hf' : ∀ o, (w.alloc o).frozen? ⟨g, i / 8, none⟩ = false := fun o => (World.frozen?_alloc_old _ _ _ (by simp; omega)).trans hf
  have hn1 : i / 8 < n := by omega
  have hn2 : n ≤ 9000000000000000 := by rw [hn]; unfold nB; omega
  clear hc hf hn hq
  go_enter Try.func54, Try.ntmps54
  go_wp2
  go_region
  all_goals
    go_end0
    rw [hor.out]
    exact ⟨rfl, (Own.drew (Own.alloc hfin.out _)), gb_drew (gb_alloc (gb_set (p := ⟨g, i / 8, none⟩) (World.grownBy.refl w (some g)) rfl _) _)⟩
end Go.Proofs.Ytgljaimoaijcaaa
