/- Apply of both sides, in one form. -/
import Derived.Test.YtgldlanfbkgfjaaM2
import Derived.Test.YtgldlanfbkgfjaaMH
import Derived.Test.YtgldlanfbkgfjaaL7
namespace Go.Proofs.Ytgldlanfbkgfjaa
open Go.RowKit

/-- Of one thing those behind it that h takes. -/
def rowL (h : Nat → Nat → Bool) (a b : Nat) : List (Int × Int) := ((List.range b).filter (fun y => decide (a < y) && h a y)).map (fun (y : Nat) => ((a : Int), (y : Int)))
def preL (h : Nat → Nat → Bool) (n a : Nat) : List (Int × Int) := ((List.range a).map (fun x => rowL h x n)).flatten
theorem rowL_first (h : Nat → Nat → Bool) (a : Nat) : rowL h a (a + 1) = [] := by
  unfold rowL
  rw [List.map_eq_nil_iff, List.filter_eq_nil_iff]
  intro y hy
  have := List.mem_range.1 hy
  have h1 : decide (a < y) = false := by rw [decide_eq_false_iff_not]; omega
  simp [h1]
theorem rowL_yes {h : Nat → Nat → Bool} {a b : Nat} (hab : a < b) (hh : h a b = true) : rowL h a (b + 1) = rowL h a b ++ [((a : Int), (b : Int))] := by
  unfold rowL
  rw [List.range_succ, List.filter_append, List.map_append]
  congr 1
  simp [hab, hh]
theorem rowL_no {h : Nat → Nat → Bool} {a b : Nat} (hh : h a b = false) : rowL h a (b + 1) = rowL h a b := by
  unfold rowL
  rw [List.range_succ, List.filter_append, List.map_append]
  simp [hh]
theorem preL_step (h : Nat → Nat → Bool) (n a : Nat) : preL h n (a + 1) = preL h n a ++ rowL h a n := by
  unfold preL
  rw [List.range_succ, List.map_append, List.flatten_append]
  simp
theorem mem_rowL {h : Nat → Nat → Bool} {a b : Nat} {e : Int × Int} : e ∈ rowL h a b ↔ ∃ y, y < b ∧ a < y ∧ h a y = true ∧ e = ((a : Int), (y : Int)) := by
  unfold rowL
  rw [List.mem_map]
  constructor
  · rintro ⟨y, hy, rfl⟩
    rw [List.mem_filter, List.mem_range, Bool.and_eq_true, decide_eq_true_iff] at hy
    exact ⟨y, hy.1, hy.2.1, hy.2.2, rfl⟩
  · rintro ⟨y, h1, h2, h3, rfl⟩
    exact ⟨y, by rw [List.mem_filter, List.mem_range, Bool.and_eq_true, decide_eq_true_iff]; exact ⟨h1, h2, h3⟩, rfl⟩
theorem mem_preL {h : Nat → Nat → Bool} {n a : Nat} {e : Int × Int} : e ∈ preL h n a ↔ ∃ x y, x < a ∧ y < n ∧ x < y ∧ h x y = true ∧ e = ((x : Int), (y : Int)) := by
  unfold preL
  rw [List.mem_flatten]
  constructor
  · rintro ⟨l, hl, he⟩
    obtain ⟨x, hx, rfl⟩ := List.mem_map.1 hl
    obtain ⟨y, h1, h2, h3, rfl⟩ := mem_rowL.1 he
    exact ⟨x, y, List.mem_range.1 hx, h1, h2, h3, rfl⟩
  · rintro ⟨x, y, h1, h2, h3, h4, rfl⟩
    exact ⟨_, List.mem_map.2 ⟨x, List.mem_range.2 h1, rfl⟩, mem_rowL.2 ⟨y, h2, h3, h4, rfl⟩⟩
theorem preL_pw (h : Nat → Nat → Bool) (n a : Nat) : (preL h n a).Pairwise (fun x y => cmpP x y < 0) := by
  unfold preL
  rw [List.pairwise_flatten]
  constructor
  · intro l hl
    obtain ⟨x, _, rfl⟩ := List.mem_map.1 hl
    unfold rowL
    rw [List.pairwise_map]
    refine List.Pairwise.imp ?_ ((List.pairwise_lt_range (n := n)).sublist List.filter_sublist)
    intro u v huv
    rw [cmpP_neg3]
    exact .inr ⟨rfl, by simp only; omega⟩
  · rw [List.pairwise_map]
    refine List.Pairwise.imp ?_ (List.pairwise_lt_range (n := a))
    intro u v huv x hx y hy
    obtain ⟨_, _, _, _, rfl⟩ := mem_rowL.1 hx
    obtain ⟨_, _, _, _, rfl⟩ := mem_rowL.1 hy
    rw [cmpP_neg3]
    exact .inl (by simp only; omega)
/-- The edges of a graph called anew. -/
def hApp (E : List (Int × Int)) (p : List Nat) (a b : Nat) : Bool := hasG E ((gn (invP p) a : Nat) : Int) ((gn (invP p) b : Nat) : Int)
theorem pw_nodup {L : List (Int × Int)} (h : L.Pairwise (fun x y => cmpP x y < 0)) : L.Nodup := h.imp fun {a b} hab e => by
  subst e
  rw [cmpP_neg3] at hab
  omega
theorem apply_list {n : Nat} {p : List Nat} {E F : List (Int × Int)} (hp : Perm n p) (hg : rightG (n : Nat) E = true) (hF : F.Perm ((E.map (edP p)).map nrm)) (hG : rightG (n : Nat) F = true) : F = preL (hApp E p) n n := by
  have hm : F.Perm (preL (hApp E p) n n) := by
    refine (List.perm_ext_iff_of_nodup (pw_nodup (rightG_pw hG)) (pw_nodup (preL_pw _ _ _))).2 fun e => ?_
    rw [mem_preL]
    have key : ∀ x y : Nat, x < n → y < n → x < y → (((x : Int), (y : Int)) ∈ F ↔ hApp E p x y = true) := fun x y hx hy hxy => by
      obtain ⟨a1, a2⟩ := gn_inv2 hp hx
      obtain ⟨b1, b2⟩ := gn_inv2 hp hy
      have h := has_moved hp hg hF a2 b2
      rw [a1, b1] at h
      unfold hApp
      rw [← h]
      unfold hasG
      rw [decide_eq_true_iff, Int.min_eq_left (by omega), Int.max_eq_right (by omega)]
    constructor
    · intro he
      obtain ⟨h1, h2, h3⟩ := edge_in hG he
      obtain ⟨ea, eb⟩ := e
      simp only at h1 h2 h3
      obtain ⟨x, rfl⟩ := Int.eq_ofNat_of_zero_le h1
      obtain ⟨y, rfl⟩ := Int.eq_ofNat_of_zero_le (show 0 ≤ eb by omega)
      exact ⟨x, y, by omega, by omega, by omega, (key x y (by omega) (by omega) (by omega)).1 he, rfl⟩
    · rintro ⟨x, y, h1, h2, h3, h4, rfl⟩
      exact (key x y h1 h2 h3).2 h4
  refine List.Perm.eq_of_pairwise (le := fun a b => cmpP a b < 0) (fun a b _ _ h1 h2 => ?_) (rightG_pw hG) (preL_pw _ _ _) hm
  rw [cmpP_neg3] at h1 h2
  omega
def okA (N : Int) (E : List (Int × Int)) (xs : List Int) : Bool := rightG N E && (rightP xs && decide ((xs.length : Int) = N))
def erG (N : Int) (E : List (Int × Int)) (xs : List Int) : Int := if okA N E xs then 0 else if rightG N E then 30 else 20
def gNA (N : Int) (E : List (Int × Int)) (xs : List Int) : Int := if okA N E xs then N else 0
def gFA (N : Int) (E : List (Int × Int)) (xs : List Int) : List (Int × Int) := if okA N E xs then preL (hApp E (tn xs)) xs.length xs.length else []
def GAns (e : Ending) (w' : World) (N : Int) (F : List (Int × Int)) (er : Int) : Prop := ∃ (K : Option Addr) (ck : Nat), e = .returned (.tuple #[.agg #[.int .i64 N, .slice K F.length ck], .int .i64 er]) ∧ RdP w' K F
/-- What lies between two rounds of the reference's Apply. -/
structure AppI (w0 : World) (n kr : Nat) (Sr : List (Int × Int)) (V : Value) (A : World) : Prop where
  below : Below w0.heap.size w0 A
  size : w0.heap.size + 1 ≤ A.heap.size
  box : A.heap[w0.heap.size]? = some (.cells #[.int .i64 (n : Nat), V] 25 (0, 0))
  row : A.ownsRow (w0.heap.size + 1) 56 2 V kr (pcells Sr)
theorem AppI.on {w0 A B : World} {n kr : Nat} {Sr : List (Int × Int)} {V : Value} (h : AppI w0 n kr Sr V A) (hb : Below A.heap.size A B) : AppI w0 n kr Sr V B :=
  ⟨next_below h.below hb, Nat.le_trans h.size hb.size, blk_below h.box hb, row_below h.row hb⟩
theorem AppI.push {w0 A B : World} {n kr kr' : Nat} {Sr Sr' : List (Int × Int)} {V V' : Value} (h : AppI w0 n kr Sr V A) (hr : B.ownsRow (w0.heap.size + 1) 56 2 V' kr' (pcells Sr')) (hg : A.grownBy B V.ownBlock) :
    B.cell? ⟨w0.heap.size, 1, none⟩ = some V ∧ B.frozen? ⟨w0.heap.size, 1, none⟩ = false ∧ AppI w0 n kr' Sr' V' (B.setCell ⟨w0.heap.size, 1, none⟩ V') := by
  have hlow : ∀ j, V.ownBlock = some j → w0.heap.size + 1 ≤ j := fun j e => (h.row.lt j e).1
  have hbox : B.heap[w0.heap.size]? = some (.cells #[.int .i64 (n : Nat), V] 25 (0, 0)) := (hg.block _ (lt_of_block h.box) (fun e => by have := hlow _ e.symm; omega)).trans h.box
  have hb : Below w0.heap.size w0 B := h.below.grown hg h.below.size (fun k e => by have := hlow k e; omega)
  refine ⟨cell_of hbox 1, free_of hbox 1, ⟨hb.setCell (p := ⟨w0.heap.size, 1, none⟩) (Nat.le_refl _) _, ?_, ?_, ?_⟩⟩
  · have := hg.size; have := h.size; show _ ≤ (B.setCell _ _).heap.size; simp; omega
  · rw [Go.Joins.block_setCell hbox]; rfl
  · exact ownsRow_setCell_below hr (by show w0.heap.size < _; omega) _
theorem row_many {w : World} {base k : Nat} {V : Value} {S : List (Int × Int)} (h : w.ownsRow base 56 2 V k (pcells S)) : k = S.length := by
  have h1 := h.1
  rw [pcells_length] at h1
  omega
theorem pl_len (h : Nat → Nat → Bool) (a b : Nat) : (rowL h a b).length ≤ b := by
  unfold rowL
  rw [List.length_map]
  have := List.length_filter_le (fun y => decide (a < y) && h a y) (List.range b)
  rw [List.length_range] at this
  exact this
set_option maxRecDepth 100000 in
set_option maxHeartbeats 8000000 in
theorem apply_no (A0 A1 : Option Addr) (c d m n : Nat) (N : Int) (E : List (Int × Int)) (xs : List Int) (w : World) (hr : RdP w A0 E) (hs : RdZ w A1 xs) (hm : m = E.length) (hn : n = xs.length) (hl : n ≤ 200) (hm6 : m ≤ 1000000) (hx : okA N E xs = false) :
    Calls Try.prog 28 #[.agg #[.int .i64 N, .slice A0 m c], .slice A1 n d] w fun e w' => e = .returned (.tuple #[.agg #[.int .i64 0, .slice none 0 0], .int .i64 (if rightG N E then 30 else 20)]) ∧ Below w.heap.size w w' := by
  obtain ⟨W, hW⟩ : ∃ W, W = (w.alloc (.cells #[.int .i64 N, .slice A0 m c] 25)).alloc (.cells #[.int .i64 0, .slice none 0 0] 25) := ⟨_, rfl⟩
  have hbW : Below w.heap.size w W := by rw [hW]; exact ((Below.refl _ _).alloc (Nat.le_refl _) _).alloc (by simp) _
  have hWS : W.heap.size = w.heap.size + 2 := by rw [hW]; simp
  have HW0 : Hid (W.heap[w.heap.size]? = some (.cells #[.int .i64 N, .slice A0 m c] 25 (0, 0))) := by
    show _ = _
    rw [hW, heap_alloc_old _ _ (by simp)]
    exact heap_alloc_new w _
  have HW1 : Hid (W.heap[w.heap.size + 1]? = some (.cells #[.int .i64 0, .slice none 0 0] 25 (0, 0))) := by
    show _ = _
    rw [hW]
    have h1 := heap_alloc_new (w.alloc (.cells #[.int .i64 N, .slice A0 m c] 25)) (.cells #[.int .i64 0, .slice none 0 0] 25)
    simpa using h1
  obtain ⟨j0, j1, _, _⟩ := cells_two (w := W) HW0.out
  have HA := Lib.hid (hr.below hbW)
  have HB := Lib.hid (hs.below hbW)
  have HM := Lib.hid hm
  have HN := Lib.hid hn
  have HW := Lib.hid hW
  have HBW := Lib.hid hbW
  have HX := Lib.hid hx
  obtain ⟨er, her⟩ : ∃ er : Int, (if rightG N E then (30 : Int) else 20) = er := ⟨_, rfl⟩
  rw [her]
  have HER := Lib.hid her
  clear her hr hs hm hn hW hbW hWS hx
  go_enter Try.func28, Try.ntmps28
  go_wp2_with fail
  rw [← HW.out]
  refine (right_any A0 c m N E W HA.out HM.out).mono ?_
  rintro e w1 ⟨rfl, hb1⟩
  have HB1 := Lib.hid hb1
  obtain ⟨k0, k1, _, _⟩ := cells_two (w := w1) (blk_below HW0.out hb1)
  have hr0 := cell_of (blk_below HW1.out hb1) 0
  have hr1 := cell_of (blk_below HW1.out hb1) 1
  have hf0 := free_of (blk_below HW1.out hb1) 0
  have hf1 := free_of (blk_below HW1.out hb1) 1
  clear hb1 j0 j1
  by_cases h1 : rightG N E = true
  · have H1 := Lib.hid h1
    rw [h1]
    clear h1
    go_wp2_with fail
    refine (rightP_any A1 d n xs w1 (HB.out.below HB1.out) HN.out (by omega)).mono ?_
    rintro e w2 ⟨rfl, hb2⟩
    have HB2 := Lib.hid (next_below HB1.out hb2)
    clear hr0 hr1 hf0 hf1 k0 k1 hb2
    obtain ⟨k0, k1, _, _⟩ := cells_two (w := w2) (blk_below HW0.out HB2.out)
    have hr0 := cell_of (blk_below HW1.out HB2.out) 0
    have hr1 := cell_of (blk_below HW1.out HB2.out) 1
    have hf0 := free_of (blk_below HW1.out HB2.out) 0
    have hf1 := free_of (blk_below HW1.out HB2.out) 1
    by_cases h2 : rightP xs = true
    · have hne : ((n : Int) != N) = true := by
        have h3 := HX.out
        have h4 := HN.out
        have h5 := H1.out
        simp [okA, h2, h5] at h3
        rw [bne_iff_ne]
        omega
      rw [h2]
      clear h2
      go_wp2_with fail
      have q0 := World.cell?_setCell_same' w2 ⟨w.heap.size + 1, 0, none⟩ (.int .i64 0) (by rw [hr0]; rfl)
      have q1 := World.cell?_setCell_same' (w2.setCell ⟨w.heap.size + 1, 0, none⟩ (.int .i64 0)) ⟨w.heap.size + 1, 1, none⟩ (.slice none 0 0) (by rw [World.cell?_setCell_other _ _ _ _ (by simp), hr1]; rfl)
      refine bodyPost_ret (by rw [results_cell_tmp rfl]; simp [go_sem, q0, q1, Result.andThen] <;> rfl) rfl ?_
      exact ⟨by rw [← HER.out, H1.out]; rfl, ((next_below HBW.out HB2.out).setCell (p := ⟨w.heap.size + 1, 0, none⟩) (by show _ ≤ w.heap.size + 1; omega) _).setCell (p := ⟨w.heap.size + 1, 1, none⟩) (by show _ ≤ w.heap.size + 1; omega) _⟩
    · have h2' : rightP xs = false := by simpa using h2
      rw [h2']
      clear h2 h2'
      go_wp2_with fail
      have q0 := World.cell?_setCell_same' w2 ⟨w.heap.size + 1, 0, none⟩ (.int .i64 0) (by rw [hr0]; rfl)
      have q1 := World.cell?_setCell_same' (w2.setCell ⟨w.heap.size + 1, 0, none⟩ (.int .i64 0)) ⟨w.heap.size + 1, 1, none⟩ (.slice none 0 0) (by rw [World.cell?_setCell_other _ _ _ _ (by simp), hr1]; rfl)
      refine bodyPost_ret (by rw [results_cell_tmp rfl]; simp [go_sem, q0, q1, Result.andThen] <;> rfl) rfl ?_
      exact ⟨by rw [← HER.out, H1.out]; rfl, ((next_below HBW.out HB2.out).setCell (p := ⟨w.heap.size + 1, 0, none⟩) (by show _ ≤ w.heap.size + 1; omega) _).setCell (p := ⟨w.heap.size + 1, 1, none⟩) (by show _ ≤ w.heap.size + 1; omega) _⟩
  · have h1' : rightG N E = false := by simpa using h1
    have H1 := Lib.hid h1'
    rw [h1']
    clear h1 h1'
    go_wp2_with fail
    have q0 := World.cell?_setCell_same' w1 ⟨w.heap.size + 1, 0, none⟩ (.int .i64 0) (by rw [hr0]; rfl)
    have q1 := World.cell?_setCell_same' (w1.setCell ⟨w.heap.size + 1, 0, none⟩ (.int .i64 0)) ⟨w.heap.size + 1, 1, none⟩ (.slice none 0 0) (by rw [World.cell?_setCell_other _ _ _ _ (by simp), hr1]; rfl)
    refine bodyPost_ret (by rw [results_cell_tmp rfl]; simp [go_sem, q0, q1, Result.andThen] <;> rfl) rfl ?_
    exact ⟨by rw [← HER.out, H1.out]; rfl, ((next_below HBW.out HB1.out).setCell (p := ⟨w.heap.size + 1, 0, none⟩) (by show _ ≤ w.heap.size + 1; omega) _).setCell (p := ⟨w.heap.size + 1, 1, none⟩) (by show _ ≤ w.heap.size + 1; omega) _⟩
set_option maxRecDepth 100000 in
set_option maxHeartbeats 8000000 in
theorem refApp_no (A0 A1 : Option Addr) (c d m n : Nat) (N : Int) (E : List (Int × Int)) (xs : List Int) (w : World) (hr : RdP w A0 E) (hs : RdZ w A1 xs) (hm : m = E.length) (hn : n = xs.length) (hl : n ≤ 200) (hm6 : m ≤ 1000000) (hx : okA N E xs = false) :
    Calls Try.prog 29 #[.agg #[.int .i64 N, .slice A0 m c], .slice A1 n d] w fun e w' => e = .returned (.tuple #[.agg #[.int .i64 0, .slice none 0 0], .int .i64 (if rightG N E then 30 else 20)]) ∧ Below w.heap.size w w' := by
  obtain ⟨W, hW⟩ : ∃ W, W = (w.alloc (.cells #[.int .i64 N, .slice A0 m c] 25)).alloc (.cells #[.int .i64 0, .slice none 0 0] 25) := ⟨_, rfl⟩
  have hbW : Below w.heap.size w W := by rw [hW]; exact ((Below.refl _ _).alloc (Nat.le_refl _) _).alloc (by simp) _
  have hWS : W.heap.size = w.heap.size + 2 := by rw [hW]; simp
  have HW0 : Hid (W.heap[w.heap.size]? = some (.cells #[.int .i64 N, .slice A0 m c] 25 (0, 0))) := by
    show _ = _
    rw [hW, heap_alloc_old _ _ (by simp)]
    exact heap_alloc_new w _
  have HW1 : Hid (W.heap[w.heap.size + 1]? = some (.cells #[.int .i64 0, .slice none 0 0] 25 (0, 0))) := by
    show _ = _
    rw [hW]
    have h1 := heap_alloc_new (w.alloc (.cells #[.int .i64 N, .slice A0 m c] 25)) (.cells #[.int .i64 0, .slice none 0 0] 25)
    simpa using h1
  obtain ⟨j0, j1, _, _⟩ := cells_two (w := W) HW0.out
  have HA := Lib.hid (hr.below hbW)
  have HB := Lib.hid (hs.below hbW)
  have HM := Lib.hid hm
  have HN := Lib.hid hn
  have HW := Lib.hid hW
  have HBW := Lib.hid hbW
  have HX := Lib.hid hx
  obtain ⟨er, her⟩ : ∃ er : Int, (if rightG N E then (30 : Int) else 20) = er := ⟨_, rfl⟩
  rw [her]
  have HER := Lib.hid her
  clear her hr hs hm hn hW hbW hWS hx
  go_enter Try.func29, Try.ntmps29
  go_wp2_with fail
  rw [← HW.out]
  refine (refRight_any A0 c m N E W HA.out HM.out hm6).mono ?_
  rintro e w1 ⟨rfl, hb1⟩
  have HB1 := Lib.hid hb1
  obtain ⟨k0, k1, _, _⟩ := cells_two (w := w1) (blk_below HW0.out hb1)
  have hr0 := cell_of (blk_below HW1.out hb1) 0
  have hr1 := cell_of (blk_below HW1.out hb1) 1
  have hf0 := free_of (blk_below HW1.out hb1) 0
  have hf1 := free_of (blk_below HW1.out hb1) 1
  clear hb1 j0 j1
  by_cases h1 : rightG N E = true
  · have H1 := Lib.hid h1
    rw [h1]
    clear h1
    go_wp2_with fail
    refine (refRt_any A1 d n xs w1 (HB.out.below HB1.out) HN.out (by omega)).mono ?_
    rintro e w2 ⟨rfl, hb2⟩
    have HB2 := Lib.hid (next_below HB1.out hb2)
    clear hr0 hr1 hf0 hf1 k0 k1 hb2
    obtain ⟨k0, k1, _, _⟩ := cells_two (w := w2) (blk_below HW0.out HB2.out)
    have hr0 := cell_of (blk_below HW1.out HB2.out) 0
    have hr1 := cell_of (blk_below HW1.out HB2.out) 1
    have hf0 := free_of (blk_below HW1.out HB2.out) 0
    have hf1 := free_of (blk_below HW1.out HB2.out) 1
    by_cases h2 : rightP xs = true
    · have hne : ((n : Int) != N) = true := by
        have h3 := HX.out
        have h4 := HN.out
        have h5 := H1.out
        simp [okA, h2, h5] at h3
        rw [bne_iff_ne]
        omega
      rw [h2]
      clear h2
      go_wp2_with fail
      have q0 := World.cell?_setCell_same' w2 ⟨w.heap.size + 1, 0, none⟩ (.int .i64 0) (by rw [hr0]; rfl)
      have q1 := World.cell?_setCell_same' (w2.setCell ⟨w.heap.size + 1, 0, none⟩ (.int .i64 0)) ⟨w.heap.size + 1, 1, none⟩ (.slice none 0 0) (by rw [World.cell?_setCell_other _ _ _ _ (by simp), hr1]; rfl)
      refine bodyPost_ret (by rw [results_cell_tmp rfl]; simp [go_sem, q0, q1, Result.andThen] <;> rfl) rfl ?_
      exact ⟨by rw [← HER.out, H1.out]; rfl, ((next_below HBW.out HB2.out).setCell (p := ⟨w.heap.size + 1, 0, none⟩) (by show _ ≤ w.heap.size + 1; omega) _).setCell (p := ⟨w.heap.size + 1, 1, none⟩) (by show _ ≤ w.heap.size + 1; omega) _⟩
    · have h2' : rightP xs = false := by simpa using h2
      rw [h2']
      clear h2 h2'
      go_wp2_with fail
      have q0 := World.cell?_setCell_same' w2 ⟨w.heap.size + 1, 0, none⟩ (.int .i64 0) (by rw [hr0]; rfl)
      have q1 := World.cell?_setCell_same' (w2.setCell ⟨w.heap.size + 1, 0, none⟩ (.int .i64 0)) ⟨w.heap.size + 1, 1, none⟩ (.slice none 0 0) (by rw [World.cell?_setCell_other _ _ _ _ (by simp), hr1]; rfl)
      refine bodyPost_ret (by rw [results_cell_tmp rfl]; simp [go_sem, q0, q1, Result.andThen] <;> rfl) rfl ?_
      exact ⟨by rw [← HER.out, H1.out]; rfl, ((next_below HBW.out HB2.out).setCell (p := ⟨w.heap.size + 1, 0, none⟩) (by show _ ≤ w.heap.size + 1; omega) _).setCell (p := ⟨w.heap.size + 1, 1, none⟩) (by show _ ≤ w.heap.size + 1; omega) _⟩
  · have h1' : rightG N E = false := by simpa using h1
    have H1 := Lib.hid h1'
    rw [h1']
    clear h1 h1'
    go_wp2_with fail
    have q0 := World.cell?_setCell_same' w1 ⟨w.heap.size + 1, 0, none⟩ (.int .i64 0) (by rw [hr0]; rfl)
    have q1 := World.cell?_setCell_same' (w1.setCell ⟨w.heap.size + 1, 0, none⟩ (.int .i64 0)) ⟨w.heap.size + 1, 1, none⟩ (.slice none 0 0) (by rw [World.cell?_setCell_other _ _ _ _ (by simp), hr1]; rfl)
    refine bodyPost_ret (by rw [results_cell_tmp rfl]; simp [go_sem, q0, q1, Result.andThen] <;> rfl) rfl ?_
    exact ⟨by rw [← HER.out, H1.out]; rfl, ((next_below HBW.out HB1.out).setCell (p := ⟨w.heap.size + 1, 0, none⟩) (by show _ ≤ w.heap.size + 1; omega) _).setCell (p := ⟨w.heap.size + 1, 1, none⟩) (by show _ ≤ w.heap.size + 1; omega) _⟩
end Go.Proofs.Ytgldlanfbkgfjaa
