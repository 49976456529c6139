/- The chapter's examples. -/
import Derived.Test.YtmnkghbbcjnlfaaR8
import Derived.Lib.SlBytesConst
namespace Go.Proofs.Ytmnkghbbcjnlfaa
open Go.RowKit

theorem rdN_of {w : World} {g : Nat} {xs : List Nat} {t : TypeId} {f : Nat × Nat} (h : w.heap[g]? = some (.cells (u8s xs).toArray t f)) : RdN w (some ⟨g, 0, none⟩) xs := fun q x hq => ⟨_, rfl, lt_of_block h, by
  rw [add_off, cell_of h]
  simp [u8s, hq]⟩
theorem rdI_of {w : World} {g : Nat} {xs : List Nat} {t : TypeId} {f : Nat × Nat} (h : w.heap[g]? = some (.cells (xs.map iv).toArray t f)) : RdI w (some ⟨g, 0, none⟩) xs := fun q x hq => ⟨_, rfl, lt_of_block h, by
  rw [add_off, cell_of h]
  simp [hq]⟩
theorem rdI_own {w : World} {base n cap g : Nat} {xs : List Nat} {e : TypeId} (h : w.ownsRow base e 1 (.slice (some ⟨g, 0, none⟩) n cap) n (xs.map iv)) : RdI w (some ⟨g, 0, none⟩) xs := fun q x hq => by
  obtain ⟨_, h2, _, h4, _⟩ := row_at h
  exact ⟨_, rfl, h2, by rw [add_off]; exact h4 q _ (by simp [hq])⟩
/-- Two words that are laid, and their row. -/
theorem lit_two (w : World) (xs ys : List Nat) (t1 t2 t3 : TypeId) (f1 f2 f3 : Nat × Nat) (hx : xs.length ≤ 1000) (hy : ys.length ≤ 1000) :
    RdW (((w.alloc (.cells (u8s xs).toArray t1 f1)).alloc (.cells (u8s ys).toArray t2 f2)).alloc (.cells #[.slice (some ⟨w.heap.size, 0, none⟩) xs.length xs.length, .slice (some ⟨w.heap.size + 1, 0, none⟩) ys.length ys.length] t3 f3)) (some ⟨w.heap.size + 2, 0, none⟩) [xs, ys] := by
  intro i zs hi
  have h3 := three_third w (.cells (u8s xs).toArray t1 f1) (.cells (u8s ys).toArray t2 f2) (.cells #[.slice (some ⟨w.heap.size, 0, none⟩) xs.length xs.length, .slice (some ⟨w.heap.size + 1, 0, none⟩) ys.length ys.length] t3 f3)
  have h1 := three_first w (.cells (u8s xs).toArray t1 f1) (.cells (u8s ys).toArray t2 f2) (.cells #[.slice (some ⟨w.heap.size, 0, none⟩) xs.length xs.length, .slice (some ⟨w.heap.size + 1, 0, none⟩) ys.length ys.length] t3 f3)
  have h2 := three_second w (.cells (u8s xs).toArray t1 f1) (.cells (u8s ys).toArray t2 f2) (.cells #[.slice (some ⟨w.heap.size, 0, none⟩) xs.length xs.length, .slice (some ⟨w.heap.size + 1, 0, none⟩) ys.length ys.length] t3 f3)
  match i, hi with
  | 0, hi =>
    injection hi with hi
    subst hi
    exact ⟨_, _, _, rfl, lt_of_block h3, by rw [add_off, cell_of h3]; rfl, rdN_of h1, Nat.le_refl _, by omega, fun e => by cases e⟩
  | 1, hi =>
    injection hi with hi
    subst hi
    exact ⟨_, _, _, rfl, lt_of_block h3, by rw [add_off, cell_of h3]; rfl, rdN_of h2, Nat.le_refl _, by omega, fun e => by cases e⟩
theorem lit_one (w : World) (xs : List Nat) (t1 t3 : TypeId) (f1 f3 : Nat × Nat) (hx : xs.length ≤ 1000) :
    RdW ((w.alloc (.cells (u8s xs).toArray t1 f1)).alloc (.cells #[.slice (some ⟨w.heap.size, 0, none⟩) xs.length xs.length] t3 f3)) (some ⟨w.heap.size + 1, 0, none⟩) [xs] := by
  intro i zs hi
  have h3 := two_second w (.cells (u8s xs).toArray t1 f1) (.cells #[.slice (some ⟨w.heap.size, 0, none⟩) xs.length xs.length] t3 f3)
  have h1 := two_first w (.cells (u8s xs).toArray t1 f1) (.cells #[.slice (some ⟨w.heap.size, 0, none⟩) xs.length xs.length] t3 f3)
  match i, hi with
  | 0, hi =>
    injection hi with hi
    subst hi
    exact ⟨_, _, _, rfl, lt_of_block h3, by rw [add_off, cell_of h3]; rfl, rdN_of h1, Nat.le_refl _, by omega, fun e => by cases e⟩

theorem below_a1 {w w' : World} {a : Obj} (hb : Below (w.alloc a).heap.size (w.alloc a) w') : Below w.heap.size w w' := ((Below.refl _ _).alloc (Nat.le_refl _) a).trans (hb.mono (by simp))
theorem below_a2 {w w' : World} {a b : Obj} (hb : Below ((w.alloc a).alloc b).heap.size ((w.alloc a).alloc b) w') : Below w.heap.size w w' := below_a1 (below_a1 hb)
theorem below_a3 {w w' : World} {a b c : Obj} (hb : Below (((w.alloc a).alloc b).alloc c).heap.size (((w.alloc a).alloc b).alloc c) w') : Below w.heap.size w w' := below_a1 (below_a2 hb)
def W1 : List (List Nat) := [[98], [97], [98], [97]]
def W2 : List (List Nat) := [[97, 98], [97]]
theorem w1_of : wordsOf { data := #[98, 97, 98, 97] } = W1 := by decide +kernel
theorem w3_of : wordsOf { data := #[97, 98, 97, 98] } = turnN W1 1 := by decide +kernel
theorem w1_lp : lp W1 4 0 1 = (1, 2) := by decide +kernel
theorem w2_lp : lp W2 2 0 1 = (1, 2) := by decide +kernel
theorem w2_turn : turnN W2 1 = [[97], [97, 98]] := by decide +kernel
theorem w1_ok : OkW W1 := by unfold OkW; decide +kernel
theorem w2_ok : OkW W2 := by unfold OkW; decide +kernel
theorem w1_le : ∀ xs ∈ W1, xs.length ≤ 1000000 := by decide +kernel
theorem w2_le : ∀ xs ∈ W2, xs.length ≤ 1000000 := by decide +kernel

set_option maxRecDepth 100000 in
set_option maxHeartbeats 4000000 in
theorem awake_any (w : World) : Calls Try.prog 8 #[] w fun e w' => e = .returned (.bool true) ∧ Below w.heap.size w w' := by
  have kc := fun (w : World) (C : Array Value) (n c : Nat) => Lib.run_convert_bytes_const (P := Try.prog) w 33 5 C n c Try.underlying33 Try.underlying5
  have kc2 : ∀ (w : World) (a : Obj) (C : Array Value) (n c : Nat), (convert 33 33 (.slice (some ⟨w.heap.size + 1, 0, none⟩) n c)).run Try.prog ((w.alloc a).alloc (.cells C 5)) = .ok (.slice (some ⟨w.heap.size + 1, 0, none⟩) n c) ((w.alloc a).alloc (.cells C 5 (C.size, C.size + 1))) := fun w a C n c => Joins.run_convert_bytes_const_at (P := Try.prog) (w.alloc a) 33 5 C n c _ (by simp) Try.underlying33 Try.underlying5
  go_enter Try.func8, Try.ntmps8
  go_wp2_with fail
  refine (words_any _ 4 w rfl (by omega)).mono ?_
  rintro e w1 ⟨A, c, rfl, hr, hb⟩
  rw [w1_of] at hr
  have HB := Lib.hid hb
  go_wp2_with fail
  refine (least_any A c 4 W1 w1 hr w1_ok w1_le rfl (by omega) (by omega)).mono ?_
  rintro e w2 ⟨v, J, g, vs, rfl, ho, h1, h2, hrow, hb2⟩
  rw [w1_lp] at ho h1 h2 hrow
  obtain rfl : J = 2 := by
    have q2 := h2 (J - 1)
    dsimp only at h1 q2
    omega
  obtain ⟨g1, c1, rfl, _⟩ := ho.form (by omega)
  have HI := Lib.hid (rdI_own (xs := [1, 3]) ho)
  have HL := Lib.hid hrow.rd
  have HB2 := Lib.hid (next_below hb hb2)
  clear hb hb2 hr ho h1 h2 hrow HB
  go_wp2_with fail
  refine (least_any _ _ 2 W2 _ (lit_two w2 [97, 98] [97] 5 5 33 (2, 3) (1, 2) (0, 0) (by decide) (by decide)) w2_ok w2_le rfl (by omega) (by omega)).mono ?_
  rintro e w3 ⟨v, J, gm, vs, rfl, ho, h1, h2, hrow, hb3⟩
  rw [w2_lp] at ho h1 h2 hrow
  obtain rfl : J = 1 := by
    have q2 := h2 (J - 1)
    dsimp only at h1 q2
    omega
  obtain ⟨g2, c2, rfl, _⟩ := ho.form (by omega)
  have hb23 : Below w2.heap.size w2 w3 := below_a3 hb3
  have HI3 := Lib.hid (HI.out.below hb23)
  have HL3 := Lib.hid (HL.out.below hb23)
  have HI4 := Lib.hid (rdI_own (xs := [1]) ho)
  have HL4 := Lib.hid hrow.rd
  have HB3 := Lib.hid (next_below HB2.out hb23)
  clear hb23 hb3 ho h1 h2 hrow HI HL HB2
  go_wp2_with fail
  refine (sameInts_any _ _ _ _ 2 2 [1, 3] [1, 3] _ (HI3.out.below ((Below.refl _ _).alloc (Nat.le_refl _) _)) (rdI_of (xs := [1, 3]) (heap_alloc_new w3 _)) (by omega) rfl rfl).mono ?_
  rintro e w4 ⟨rfl, hb⟩
  rw [show decide ([1, 3] = [1, 3]) = true from rfl]
  have H4 := Lib.hid (below_a1 hb)
  clear hb
  go_wp2_with fail
  refine (words_any _ 4 _ rfl (by omega)).mono ?_
  rintro e w5 ⟨B, d, rfl, hr, hb⟩
  rw [w3_of] at hr
  have HB5 := Lib.hid (next_below H4.out hb)
  have HR5 := Lib.hid hr
  clear hb hr H4
  go_wp2_with fail
  refine (same_any _ _ _ _ 4 4 (turnN W1 1) (turnN W1 1) _ (HL3.out.below HB5.out) HR5.out (by unfold OkW; decide +kernel) (by unfold OkW; decide +kernel) (by omega) rfl rfl).mono ?_
  rintro e w6 ⟨rfl, hb⟩
  rw [decide_eq_true (rfl : turnN W1 1 = turnN W1 1)]
  have H6 := Lib.hid (next_below HB5.out hb)
  clear hb HB5 HR5
  go_wp2_with fail
  refine (sameInts_any _ _ _ _ 1 1 [1] [1] _ ((HI4.out.below H6.out).below ((Below.refl _ _).alloc (Nat.le_refl _) _)) (rdI_of (xs := [1]) (heap_alloc_new w6 _)) (by omega) rfl rfl).mono ?_
  rintro e w7 ⟨rfl, hb⟩
  rw [show decide ([1] = [1]) = true from rfl]
  have H7 := Lib.hid (next_below H6.out (below_a1 hb))
  clear hb H6
  go_wp2_with fail
  refine (same_any _ _ _ _ 2 2 (turnN W2 1) [[97], [97, 98]] _ (RdW.below (HL4.out.below H7.out) ((((Below.refl _ _).alloc (Nat.le_refl _) _).alloc (by simp) _).alloc (by simp; omega) _)) (lit_two w7 [97] [97, 98] 5 5 33 (1, 2) (2, 3) (0, 0) (by decide) (by decide)) (by unfold OkW; decide +kernel) (by unfold OkW; decide +kernel) (by omega) rfl rfl).mono ?_
  rintro e w8 ⟨rfl, hb⟩
  rw [decide_eq_true w2_turn]
  have H8 := Lib.hid (next_below H7.out (below_a3 hb))
  clear hb H7
  go_wp2_with fail
  refine (bytes_any _ _ 1 [[97, 98]] _ (lit_one w8 [97, 98] 5 33 (2, 3) (0, 0) (by decide)) (by decide) rfl (by omega)).mono ?_
  rintro e w9 ⟨gb, cb, rfl, hr, hb⟩
  have hcv := conv_rd (P := Try.prog) w9 33 5 Try.underlying33 Try.underlying5 (some ⟨gb, 0, none⟩) cb _ (bytesW [[97, 98]]) rfl hr 9 Try.underlying9
  have heq : ((strN (bytesW [[97, 98]])).toList == [0, 0, 0, 1, 0, 0, 0, 2, 97, 98]) = true := by rw [strN_toList]; decide +kernel
  have H9 := Lib.hid (next_below H8.out (below_a2 hb))
  clear hb hr H8
  generalize strN (bytesW [[97, 98]]) = S at *
  generalize (bytesW [[97, 98]]).length = nb at *
  go_wp2_with fail
  go_ret
  exact ⟨rfl, next_below HB3.out H9.out⟩
end Go.Proofs.Ytmnkghbbcjnlfaa
