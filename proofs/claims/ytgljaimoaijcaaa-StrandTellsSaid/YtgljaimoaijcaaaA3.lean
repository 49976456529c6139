/- Walks: bits that are laid into a strand, and numbers that are read from one. -/
import Derived.Test.YtgljaimoaijcaaaA2
namespace Go.Proofs.Ytgljaimoaijcaaa
open Go.RowKit

/-- i bits of m, from a place on, laid into l. -/
def lay (l : List Bool) (tt : Nat) (m : List Bool) (fr : Nat) : Nat → List Bool
  | 0 => l
  | i + 1 => if m.getD (fr + i) false = true then (lay l tt m fr i).set (tt + i) true else lay l tt m fr i
theorem lay_length (l : List Bool) (tt : Nat) (m : List Bool) (fr i : Nat) : (lay l tt m fr i).length = l.length := by
  induction i with
  | zero => rfl
  | succ i ih => unfold lay; split <;> simp [ih]
theorem lay_nB (l : List Bool) (tt : Nat) (m : List Bool) (fr i : Nat) : nB (lay l tt m fr i) = nB l := by unfold nB; rw [lay_length]
theorem RdNot.below {w w' : World} {k : Nat} {A : Option Addr} {l : List Bool} (h : RdNot w k A l) (hb : Below w.heap.size w w') : RdNot w' k A l := fun q hq => by
  obtain ⟨ad, e, hl, hn, hc⟩ := h q hq
  exact ⟨ad, e, Nat.lt_of_lt_of_le hl hb.size, hn, (hb.cell (by rw [block_add]; exact hl)).trans hc⟩
theorem RdNot.alloc {w : World} {k : Nat} {A : Option Addr} {l : List Bool} (h : RdNot w k A l) (o : Obj) : RdNot (w.alloc o) k A l :=
  h.below ((Below.refl _ _).alloc (Nat.le_refl _) o)
theorem gb_below {a w w' : World} {row : Option Nat} (h : a.grownBy w row) (hb : Below w.heap.size w w') : a.grownBy w' row :=
  ⟨hb.os.trans h.os, hb.tape.trans h.tape, hb.output.trans h.output, Nat.le_trans h.size hb.size, fun k hk hne => (hb.block k (Nat.lt_of_lt_of_le hk h.size)).trans (h.block k hk hne)⟩
theorem gb_trans {a w w' : World} {row : Option Nat} (h : a.grownBy w row) (k : w.grownBy w' row) : a.grownBy w' row :=
  ⟨k.os.trans h.os, k.tape.trans h.tape, k.output.trans h.output, Nat.le_trans h.size k.size, fun j hj hne => (k.block j (Nat.lt_of_lt_of_le hj h.size) hne).trans (h.block j hj hne)⟩
theorem blk_below {w w' : World} {g : Nat} {o : Obj} (h : w.heap[g]? = some o) (hb : Below w.heap.size w w') : w'.heap[g]? = some o := (hb.block g (lt_of_block h)).trans h
theorem blk_gb {w w' : World} {g k : Nat} {o : Obj} (h : w.heap[g]? = some o) (hb : w.grownBy w' (some k)) (hne : g ≠ k) : w'.heap[g]? = some o := (hb.block g (lt_of_block h) (by simpa using hne)).trans h

theorem bit_at (A : Option Addr) (l : List Bool) (n c : Nat) (L : Int) (j : Int) (i : Nat) (v : Int) (w : World) (hj : j = i) (hv : v = ((l.getD i false).toNat : Nat)) (hr : Rd w A l) (hn : n = nB l) (hi : i < l.length) (hm : l.length ≤ 9000000000000000) :
    Calls Try.prog 56 #[.agg #[.slice A n c, .int .i64 L], .int .i64 j] w fun e w' => e = .returned (.int .u8 v) ∧ Below w.heap.size w w' := by
  subst hj hv
  exact bit_any A l n c L i w hr hn hi hm
theorem set_at (g : Nat) (l : List Bool) (n c : Nat) (L : Int) (j : Int) (i : Nat) (w : World) (hj : j = i) (ho : Own w g l) (hn : n = nB l) (hi : i < l.length) (hm : l.length ≤ 9000000000000000) :
    Calls Try.prog 54 #[.agg #[.slice (some ⟨g, 0, none⟩) n c, .int .i64 L], .int .i64 j] w
      fun e w' => e = .returned (.tuple #[]) ∧ Own w' g (l.set i true) ∧ w.grownBy w' (some g) := by
  subst hj
  exact set_any g l n c L i w ho hn hi hm

set_option maxHeartbeats 1000000 in
theorem copyBits_any (g : Nat) (l : List Bool) (N : Nat) (L : Int) (tt : Nat) (A : Option Addr) (m : List Bool) (n c : Nat) (M : Int) (fr cnt : Nat) (w : World)
    (ho : Own w g l) (hN : N = nB l) (hs : RdNot w g A m) (hn : n = nB m) (h1 : tt + cnt ≤ l.length) (h2 : fr + cnt ≤ m.length) (hl : l.length ≤ 100000000000000) (hm : m.length ≤ 100000000000000) :
    Calls Try.prog 43 #[.agg #[.slice (some ⟨g, 0, none⟩) N N, .int .i64 L], .int .i64 tt, .agg #[.slice A n c, .int .i64 M], .int .i64 fr, .int .i64 cnt] w
      fun e w' => e = .returned (.tuple #[]) ∧ Own w' g (lay l tt m fr cnt) ∧ w.grownBy w' (some g) := by
  have hg := ho.lt
  have HO := Lib.hid ((ho.alloc (.cells #[.slice (some ⟨g, 0, none⟩) N N, .int .i64 L] 24)).alloc (.cells #[.slice A n c, .int .i64 M] 24))
  have HR := Lib.hid ((hs.alloc (.cells #[.slice (some ⟨g, 0, none⟩) N N, .int .i64 L] 24)).alloc (.cells #[.slice A n c, .int .i64 M] 24))
  have HN := Lib.hid hN
  have Hn := Lib.hid hn
  clear ho hs hN hn
  go_enter Try.func43, Try.ntmps43
  go_wp2_with fail
  go_loopw [12] (fun i wr => ∃ k : Nat, k ≤ cnt ∧ i = .int .i64 k ∧ Hid (Own wr g (lay l tt m fr k)) ∧ Hid (RdNot wr g A m) ∧ w.grownBy wr (some g) ∧
      Hid (wr.heap[w.heap.size]? = some (.cells #[.slice (some ⟨g, 0, none⟩) N N, .int .i64 L] 24 (0, 0))) ∧ Hid (wr.heap[w.heap.size + 1]? = some (.cells #[.slice A n c, .int .i64 M] 24 (0, 0))))
    (fun i _ => cnt - (intOf i).toNat)
  case atStart => exact ⟨0, Nat.zero_le _, rfl, HO, HR, gb_alloc (gb_alloc (World.grownBy.refl w _) _) _, two_first w _ _, two_second w _ _⟩
  case round =>
    obtain ⟨k, hk, rfl, HOk, HRk, hgk, hB1, hB2⟩ := hrel
    by_cases hlt : k < cnt
    · obtain ⟨a1, a2, _, _⟩ := cells_two hB1.out
      obtain ⟨b1, b2, _, _⟩ := cells_two hB2.out
      by_cases hb : m.getD (fr + k) false = true
      · have HS : Hid (lay l tt m fr (k + 1) = (lay l tt m fr k).set (tt + k) true) := by show _ = _; rw [lay, if_pos hb]
        have HV : Hid ((1 : Int) = ((m.getD (fr + k) false).toNat : Nat)) := by show _ = _; rw [hb]; rfl
        clear hb
        go_wp2_with fail
        refine (bit_at _ m _ _ _ _ (fr + k) 1 _ (by omega) HV.out HRk.out.rd Hn.out (by omega) (by omega)).mono ?_
        rintro e w1 ⟨rfl, hb1⟩
        have HOk1 := Lib.hid (HOk.out.below hb1)
        have HRk1 := Lib.hid (HRk.out.below hb1)
        have hC1 := Lib.hid (blk_below hB1.out hb1)
        have hC2 := Lib.hid (blk_below hB2.out hb1)
        have hgk1 := gb_below hgk hb1
        obtain ⟨a1, a2, _, _⟩ := cells_two hC1.out
        go_wp2_with fail
        refine (set_at _ (lay l tt m fr k) _ _ _ _ (tt + k) _ (by omega) HOk1.out (HN.out.trans (lay_nB _ _ _ _ _).symm) (by rw [lay_length]; omega) (by rw [lay_length]; omega)).mono ?_
        rintro e w2 ⟨rfl, hO2, hg2⟩
        have HO2 := Lib.hid hO2
        clear hO2
        go_wp2_with fail
        go_roundw
        case rel => exact ⟨k + 1, by omega, by go_num, by rw [HS.out]; exact HO2.out, HRk1.out.grown hg2, gb_trans hgk1 hg2, blk_gb hC1.out hg2 (by omega), blk_gb hC2.out hg2 (by omega)⟩
        case measure => simp [intOf]; omega
      · have HS : Hid (lay l tt m fr (k + 1) = lay l tt m fr k) := by show _ = _; rw [lay, if_neg hb]
        have HV : Hid ((0 : Int) = ((m.getD (fr + k) false).toNat : Nat)) := by
          show _ = _
          have : m.getD (fr + k) false = false := by simpa using hb
          rw [this]; rfl
        clear hb
        go_wp2_with fail
        refine (bit_at _ m _ _ _ _ (fr + k) 0 _ (by omega) HV.out HRk.out.rd Hn.out (by omega) (by omega)).mono ?_
        rintro e w1 ⟨rfl, hb1⟩
        have HOk1 := Lib.hid (HOk.out.below hb1)
        have HRk1 := Lib.hid (HRk.out.below hb1)
        have hC1 := Lib.hid (blk_below hB1.out hb1)
        have hC2 := Lib.hid (blk_below hB2.out hb1)
        have hgk1 := gb_below hgk hb1
        go_wp2_with fail
        go_roundw
        case rel => exact ⟨k + 1, by omega, by go_num, by rw [HS.out]; exact HOk1.out, HRk1, hgk1, hC1, hC2⟩
        case measure => simp [intOf]; omega
    · obtain rfl : k = cnt := by omega
      go_wp2_with fail
      go_end0
      exact ⟨rfl, HOk.out, hgk⟩
end Go.Proofs.Ytgljaimoaijcaaa
