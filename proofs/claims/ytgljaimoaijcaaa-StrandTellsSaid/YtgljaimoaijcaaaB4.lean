/- The walk of the chapter's examples. -/
import Derived.Test.YtgljaimoaijcaaaB3
namespace Go.Proofs.Ytgljaimoaijcaaa
open Go.RowKit

/-- The blocks of a list, with what they hold. -/
def Has (w : World) (L : List (Nat × Obj)) : Prop := ∀ p, p ∈ L → w.heap[p.1]? = some p.2
theorem Has.nil_ (w : World) : Has w [] := fun _ h => by cases h
theorem Has.below {w w' : World} {L : List (Nat × Obj)} (h : Has w L) (hb : Below w.heap.size w w') : Has w' L := fun p hp => blk_below (h p hp) hb
theorem Has.alloc {w : World} {L : List (Nat × Obj)} (h : Has w L) (o : Obj) : Has (w.alloc o) L := h.below ((Below.refl _ _).alloc (Nat.le_refl _) o)
theorem Has.cons {w : World} {L : List (Nat × Obj)} (h : Has w L) {g : Nat} {o : Obj} (ho : w.heap[g]? = some o) : Has w ((g, o) :: L) := fun p hp => by
  rcases List.mem_cons.1 hp with rfl | hp
  · exact ho
  · exact h p hp
theorem Has.new {w : World} {L : List (Nat × Obj)} (h : Has w L) (o : Obj) : Has (w.alloc o) ((w.heap.size, o) :: L) := (h.alloc o).cons (heap_alloc_new w o)
theorem Has.get {w : World} {L : List (Nat × Obj)} (h : Has w L) {g : Nat} {o : Obj} (hp : (g, o) ∈ L) : w.heap[g]? = some o := h _ hp
/-- The block of bits in a row; that of a strand. -/
abbrev ob (l : List Bool) : Obj := .cells (cellsOf l) 5 (0, 0)
abbrev sv (g : Nat) (l : List Bool) : Value := .agg #[.slice (some ⟨g, 0, none⟩) (nB l) (nB l), .int .i64 (l.length : Nat)]
abbrev os (g : Nat) (l : List Bool) : Obj := .cells #[.slice (some ⟨g, 0, none⟩) (nB l) (nB l), .int .i64 (l.length : Nat)] 24 (0, 0)
theorem own_st {w : World} {g : Nat} {l : List Bool} (h : w.heap[g]? = some (ob l)) (hm : l.length ≤ 4194304) : St w (sv g l) l := ⟨_, _, rfl, Own.rd h, hm⟩

def four : List Bool := [false, false, true, false, true]
theorem knot_four : knot 4 = four := by decide +kernel
theorem four_len : four.length = 5 := rfl
theorem four_nB : nB four = 1 := rfl

theorem rd_two (w : World) : ∀ g : Nat, w.heap[g]? = some (.cells #[.int .u8 44] 5 (0, 0)) → Rd w (some ⟨g, 0, none⟩) (four ++ [true]) := by
  intro g h q hq
  have hn : nB (four ++ [true]) = 1 := by decide +kernel
  obtain rfl : q = 0 := by omega
  refine ⟨_, rfl, lt_of_block h, ?_⟩
  rw [add_off, cell_of_one h]
  have hb : byteOf (four ++ [true]) 0 = 44 := by decide +kernel
  rw [hb]; rfl
theorem new_byte (w : World) (o : Obj) (z : Int) : ((w.alloc o).alloc (.cells #[.int .u8 z] 5)).cell? ((⟨w.heap.size + 1, 0, none⟩ : Addr).add (1 - 1)) = some (.int .u8 z) := by
  rw [add_off]
  exact cell_of_one (two_second w o _)
def five : List Bool := [false, true, false, true]
theorem five_digs : [] ++ digs 5 4 = five := by decide +kernel
theorem str_five : strN (bytesN five) = ⟨#[80]⟩ := by decide +kernel
theorem str_four : strN (bytesN (four ++ [true])) = ⟨#[44]⟩ := by decide +kernel
theorem str_none : strN (bytesN ([] ++ [true])) = ⟨#[128]⟩ := by decide +kernel

set_option maxRecDepth 100000 in
set_option maxHeartbeats 4000000 in
theorem awake_any (w : World) :
    Calls Try.prog 11 #[] w fun e w' => e = .returned (.bool true) ∧ Below w.heap.size w w' := by
  go_enter Try.func11, Try.ntmps11
  go_wp2_with fail
  refine (knots_one _ 4 _ (by omega) (heap_alloc_new w _)).mono ?_
  rintro e w1 ⟨g, v, rfl, ⟨rfl, ho⟩, hg, hb1⟩
  rw [knot_four] at ho ⊢
  have H1 := Lib.hid (((Has.nil_ w1).cons ho).new (os g four))
  have hB1 := Lib.hid ((((Below.refl w.heap.size w).alloc (Nat.le_refl _) _).trans (hb1.mono (by simp))).alloc (by have := hb1.size; simp at this; omega) (os g four))
  clear ho hg hb1
  have hpos : ∀ i, i < 2 → four.getD (0 + i) false = false := by decide
  have hnum0 : numAt four 2 3 - 1 = 4 := by decide +kernel
  have hnum1 : numAt four 2 2 - 1 = 1 := by decide +kernel
  have HN0 := Lib.hid hnum0
  have HN1 := Lib.hid hnum1
  have HZ0 := Lib.hid hpos
  clear hnum0 hnum1 hpos
  go_wp2_with fail
  refine (pack_any _ four _ (own_st (H1.out.get (o := ob four) (by simp)) (by decide))).mono ?_
  rintro e w2 ⟨gb, rfl, ho, hg, hb2⟩
  have H2 := Lib.hid ((H1.out.below hb2).cons ho)
  have hB2 := Lib.hid (hB1.out.trans (hb2.mono hB1.out.size))
  clear ho hg hb2 hB1 H1
  obtain ⟨s1, s2, _, _⟩ := cells_two (H2.out.get (g := w1.heap.size) (o := os g four) (by simp))
  go_wp2_with fail
  refine (getKnot_ok _ four 0 2 _ (own_st (H2.out.get (o := ob four) (by simp)) (by decide)) (by omega) (by decide) HZ0.out (by decide)).mono ?_
  rintro e w3 ⟨rfl, hb3⟩
  have H3 := Lib.hid (H2.out.below hb3)
  have hB3 := Lib.hid (hB2.out.trans (hb3.mono hB2.out.size))
  clear hb3 hB2 H2 s1 s2
  obtain ⟨s1, s2, _, _⟩ := cells_two (H3.out.get (g := w1.heap.size) (o := os g four) (by simp))
  rw [show (0 : Nat) + 2 = 2 from rfl, HN0.out]
  go_wp2_with fail
  refine (getKnot_ok _ four 1 1 _ (own_st (H3.out.get (o := ob four) (by simp)) (by decide)) (by omega) (by decide) (by decide) (by decide)).mono ?_
  rintro e w4 ⟨rfl, hb4⟩
  have H4 := Lib.hid (H3.out.below hb4)
  have hB4 := Lib.hid (hB3.out.trans (hb4.mono hB3.out.size))
  clear hb4 hB3 H3 s1 s2
  obtain ⟨s1, s2, _, _⟩ := cells_two (H4.out.get (g := w1.heap.size) (o := os g four) (by simp))
  rw [show (1 : Nat) + 1 = 2 from rfl, HN1.out]
  go_wp2_with fail
  refine (pack_any _ [] _ (st_nil _ _ _)).mono ?_
  rintro e w5 ⟨gn, rfl, ho, hg, hb5⟩
  have H5 := Lib.hid ((H4.out.below hb5).cons ho)
  have hB5 := Lib.hid (hB4.out.trans (hb5.mono hB4.out.size))
  clear ho hg hb5 hB4 H4 s1 s2
  obtain ⟨s1, s2, _, _⟩ := cells_two (H5.out.get (g := w1.heap.size) (o := os g four) (by simp))
  go_wp2_with fail
  refine (unpack_none _ _ _).mono ?_
  rintro e w6 ⟨rfl, hb6⟩
  have H6 := Lib.hid ((H5.out.below hb6).alloc (.cells #[.slice none 0 0, .int .i64 0] 24))
  have hB6 := Lib.hid ((hB5.out.trans (hb6.mono hB5.out.size)).alloc (hB5.out.trans (hb6.mono hB5.out.size)).size (.cells #[.slice none 0 0, .int .i64 0] 24))
  clear hb6 hB5 H5 s1 s2
  go_wp2_with fail
  refine (unpack_zero ⟨w6.heap.size + 1, 0, none⟩ 1 1 _ (by omega) (by omega) (by simp) (new_byte _ _ _)).mono ?_
  rintro e w7 ⟨rfl, hb7⟩
  have H7 := Lib.hid (((H6.out.alloc _).below hb7).alloc (.cells #[.slice none 0 0, .int .i64 0] 24))
  have hD7 := (hB6.out.alloc hB6.out.size _).trans (hb7.mono (hB6.out.alloc hB6.out.size _).size)
  have hB7 := Lib.hid (hD7.alloc hD7.size (.cells #[.slice none 0 0, .int .i64 0] 24))
  clear hb7 hB6 H6 hD7
  go_wp2_with fail
  refine (unpack_any _ four 1 1 _ (rd_two _ _ (two_second w7 _ _)) (by decide) (by decide)).mono ?_
  rintro e w8 ⟨gt, v, rfl, ⟨rfl, ho⟩, hg, hb8⟩
  have H8 := Lib.hid ((((H7.out.alloc _).below hb8).cons ho).new (os gt four))
  have hD8 := (hB7.out.alloc hB7.out.size _).trans (hb8.mono (hB7.out.alloc hB7.out.size _).size)
  have hB8 := Lib.hid (hD8.alloc hD8.size (os gt four))
  clear ho hg hb8 hB7 H7 hD8
  obtain ⟨s1, s2, _, _⟩ := cells_two (H8.out.get (g := w1.heap.size) (o := os g four) (by simp))
  go_wp2_with fail
  refine (same_any _ _ four four _ (own_st (H8.out.get (o := ob four) (by simp)) (by decide)) (own_st (H8.out.get (o := ob four) (by simp)) (by decide))).mono ?_
  rintro e w9 ⟨rfl, hb9⟩
  rw [show decide (four = four) = true from decide_eq_true rfl]
  have H9 := Lib.hid (H8.out.below hb9)
  have hB9 := Lib.hid (hB8.out.trans (hb9.mono hB8.out.size))
  clear hb9 hB8 H8 s1 s2
  obtain ⟨s1, s2, _, _⟩ := cells_two (H9.out.get (g := w1.heap.size) (o := os g four) (by simp))
  have hfl : ((four.length : Nat) : Int) = 5 := rfl
  go_wp2_with fail
  refine (field_any _ [] 5 4 _ (st_nil _ _ _) (by omega) (by omega) (by simp)).mono ?_
  rintro e w10 ⟨gf, v, rfl, ⟨rfl, ho⟩, hg, hb10⟩
  rw [five_digs] at ho ⊢
  have H10 := Lib.hid (((H9.out.below hb10).cons ho).new (os gf five))
  have hD10 := hB9.out.trans (hb10.mono hB9.out.size)
  have hB10 := Lib.hid (hD10.alloc hD10.size (os gf five))
  clear ho hg hb10 hB9 H9 hD10 s1 s2
  have c1 := conv_rd (P := Try.prog) (w10.alloc (os gf five)) 22 5 Try.underlying22 Try.underlying5 (some ⟨gf, 0, none⟩) (nB five) (nB five) (bytesN five) (bytesN_length _).symm (Own.rd (H10.out.get (o := ob five) (by simp))).n 9 Try.underlying9
  have c2 := conv_rd (P := Try.prog) (w10.alloc (os gf five)) 22 5 Try.underlying22 Try.underlying5 (some ⟨gb, 0, none⟩) (nB (four ++ [true])) (nB (four ++ [true])) (bytesN (four ++ [true])) (bytesN_length _).symm (Own.rd (H10.out.get (o := ob (four ++ [true])) (by simp))).n 9 Try.underlying9
  have c3 := conv_rd (P := Try.prog) (w10.alloc (os gf five)) 22 5 Try.underlying22 Try.underlying5 (some ⟨gn, 0, none⟩) (nB ([] ++ [true])) (nB ([] ++ [true])) (bytesN ([] ++ [true])) (bytesN_length _).symm (Own.rd (H10.out.get (o := ob ([] ++ [true])) (by simp))).n 9 Try.underlying9
  rw [str_five] at c1
  rw [str_four] at c2
  rw [str_none] at c3
  have hfv : ((five.length : Nat) : Int) = 4 := rfl
  simp only [os, hfv, List.nil_append] at c1 c2 c3
  go_wp2_with fail
  go_ret
  exact ⟨rfl, hB10.out⟩
end Go.Proofs.Ytgljaimoaijcaaa
