/- graph.New where all is right (layer 3). -/
import Derived.Test.YtgldlanfbkgfjaaPV
import Derived.Test.YtgldlanfbkgfjaaW22
import Derived.Test.YtgldlanfbkgfjaaPG
import Derived.Shelf.SlSortCmp.NoneTotal
import Derived.Laws.ResultCell
namespace Go.Proofs.Ytgldlanfbkgfjaa
open Go.RowKit

def nrm (e : Int × Int) : Int × Int := if e.2 < e.1 then (e.2, e.1) else e
/-- Edges that make a graph of n vertices. -/
structure Edges (n : Nat) (L : List (Int × Int)) : Prop where
  many : L.length ≤ 594
  few : n ≤ 200
  lt : ∀ e ∈ L, (0 ≤ e.1 ∧ e.1 < n) ∧ (0 ≤ e.2 ∧ e.2 < n) ∧ e.1 ≠ e.2
  nod : (L.map nrm).Nodup
theorem Edges.norm {n : Nat} {L : List (Int × Int)} (h : Edges n L) {e : Int × Int} (he : e ∈ L) : 0 ≤ (nrm e).1 ∧ (nrm e).1 < (nrm e).2 ∧ (nrm e).2 < n := by
  have := h.lt e he
  unfold nrm
  split <;> omega
/-- What lies between two rounds of New. -/
structure NewI (w0 : World) (n : Nat) (k : Nat) (S : List (Int × Int)) (kr : Nat) (Sr : List (Int × Int)) (V : Value) (A : World) : Prop where
  below : Below w0.heap.size w0 A
  size : w0.heap.size + 3 ≤ A.heap.size
  res : A.heap[w0.heap.size]? = some (.cells #[.int .i64 0, .slice none 0 0] 25 (0, 0))
  set : SetP A (w0.heap.size + 1) k S
  box : A.heap[w0.heap.size + 2]? = some (.cells #[.int .i64 (n : Nat), V] 25 (0, 0))
  row : A.ownsRow (w0.heap.size + 3) 56 2 V kr (pcells Sr)
theorem NewI.on {w0 A B : World} {n k kr : Nat} {S Sr : List (Int × Int)} {V : Value} (h : NewI w0 n k S kr Sr V A) (hb : Below A.heap.size A B) : NewI w0 n k S kr Sr V B :=
  ⟨next_below h.below hb, Nat.le_trans h.size hb.size, blk_below h.res hb, h.set.below hb, blk_below h.box hb, row_below h.row hb⟩
theorem NewI.met {w0 A B : World} {n k k' kr : Nat} {S S' Sr : List (Int × Int)} {V : Value} (h : NewI w0 n k S kr Sr V A) (hs : SetP B (w0.heap.size + 1) k' S') (hg : A.grownBy B (some (w0.heap.size + 1))) : NewI w0 n k' S' kr Sr V B :=
  ⟨h.below.grown hg h.below.size (fun k e => by injection e with e; omega), Nat.le_trans h.size hg.size, (hg.block _ (lt_of_block h.res) (fun e => by injection e with e; omega)).trans h.res, hs,
    (hg.block _ (lt_of_block h.box) (fun e => by injection e with e; omega)).trans h.box, h.row.kept hg (.inr (fun e => by have := (h.row.lt _ e).1; omega))⟩
theorem NewI.push {w0 A B : World} {n k kr kr' : Nat} {S Sr Sr' : List (Int × Int)} {V V' : Value} (h : NewI w0 n k S kr Sr V A) (hr : B.ownsRow (w0.heap.size + 3) 56 2 V' kr' (pcells Sr')) (hg : A.grownBy B V.ownBlock) :
    B.cell? ⟨w0.heap.size + 2, 1, none⟩ = some V ∧ B.frozen? ⟨w0.heap.size + 2, 1, none⟩ = false ∧ NewI w0 n k S kr' Sr' V' (B.setCell ⟨w0.heap.size + 2, 1, none⟩ V') := by
  have hlow : ∀ j, V.ownBlock = some j → w0.heap.size + 3 ≤ j := fun j e => (h.row.lt j e).1
  have hbox : B.heap[w0.heap.size + 2]? = some (.cells #[.int .i64 (n : Nat), V] 25 (0, 0)) := (hg.block _ (lt_of_block h.box) (fun e => by have := hlow _ e.symm; omega)).trans h.box
  have hset := h.set.kept hg (fun e => by have := hlow _ e.symm; omega)
  have hb : Below w0.heap.size w0 B := h.below.grown hg h.below.size (fun k e => by have := hlow k e; omega)
  refine ⟨cell_of hbox 1, free_of hbox 1, ⟨hb.setCell (p := ⟨w0.heap.size + 2, 1, none⟩) (by show w0.heap.size ≤ w0.heap.size + 2; omega) _, ?_, ?_, ?_, ?_, ?_⟩⟩
  · have := hg.size; have := h.size; show _ ≤ (B.setCell _ _).heap.size; simp; omega
  · rw [Below.heap_setCell _ _ _ _ (by show w0.heap.size ≠ w0.heap.size + 2; omega)]
    exact (hg.block _ (lt_of_block h.res) (fun e => by have := hlow _ e.symm; omega)).trans h.res
  · exact hset.set (by show w0.heap.size + 1 ≠ w0.heap.size + 2; omega) _
  · rw [Go.Joins.block_setCell hbox]; rfl
  · exact ownsRow_setCell_below hr (by show w0.heap.size + 2 < _; omega) _
theorem ownP_of {w : World} {base g cap n : Nat} {E : List (Int × Int)} (h : w.ownsRow base 56 2 (.slice (some ⟨g, 0, none⟩) n cap) n (pcells E)) : OwnP w g E := by
  refine ⟨(h.lt g rfl).2, fun q e hq => ?_⟩
  obtain ⟨h0, h1⟩ := pcells_at E q e hq
  have c0 := h.cells rfl _ _ h0
  have c1 := h.cells rfl _ _ h1
  rw [add_off] at c0 c1
  obtain ⟨cur, hcur⟩ := own_cells h (k := g) rfl
  exact ⟨c0, free_of hcur _, c1, free_of hcur _⟩
theorem OwnP.set {w : World} {b : Nat} {E : List (Int × Int)} (h : OwnP w b E) {a : Addr} (ha : b ≠ a.block) (u : Value) : OwnP (w.setCell a u) b E := by
  refine ⟨by show b < (w.setCell _ _).heap.size; simp; exact h.1, fun q e hq => ?_⟩
  obtain ⟨h1, h2, h3, h4⟩ := h.2 q e hq
  refine ⟨(World.cell?_setCell_far _ _ _ _ (fun e => ha e.symm)).trans h1, by rw [World.frozen?_setCell]; exact h2, (World.cell?_setCell_far _ _ _ _ (fun e => ha e.symm)).trans h3, by rw [World.frozen?_setCell]; exact h4⟩
theorem Bar.below' {w0 A B : World} {g k : Nat} (h : Bar g k A B) (hb : Below w0.heap.size w0 A) (hg : w0.heap.size + 3 ≤ g) : Below w0.heap.size w0 B :=
  ⟨h.os.trans hb.os, h.tape.trans hb.tape, h.output.trans hb.output, Nat.le_trans hb.size h.size, fun i hi => (h.same i (by have := hb.size; omega) (.inl (by omega))).trans (hb.block i hi)⟩
theorem new_after {w0 A B : World} {n k kr g : Nat} {S Sr : List (Int × Int)} {V : Value} (h : NewI w0 n k S kr Sr V A) (hg : w0.heap.size + 3 ≤ g) (hb : Bar g 1 A B) :
    B.cell? ⟨w0.heap.size + 2, 0, none⟩ = some (.int .i64 (n : Nat)) ∧ B.cell? ⟨w0.heap.size + 2, 1, none⟩ = some V ∧ B.cell? ⟨w0.heap.size, 0, none⟩ = some (.int .i64 0) ∧ B.cell? ⟨w0.heap.size, 1, none⟩ = some (.slice none 0 0) ∧
      B.frozen? ⟨w0.heap.size, 0, none⟩ = false ∧ B.frozen? ⟨w0.heap.size, 1, none⟩ = false := by
  have h1 := (hb.same (w0.heap.size + 2) (by have := h.size; omega) (.inl (by omega))).trans h.box
  have h2 := (hb.same w0.heap.size (by have := h.size; omega) (.inl (by omega))).trans h.res
  exact ⟨cell_of h1 0, cell_of h1 1, cell_of h2 0, cell_of h2 1, free_of h2 0, free_of h2 1⟩
theorem rightG_sorted {n : Nat} {L E : List (Int × Int)} (h : Edges n L) (hp : E.Perm (L.map nrm)) (hs : E.Pairwise (fun x y => Go.Proofs.ltOf cmpP y x = false)) : rightG (n : Nat) E = true := by
  have hnod : E.Nodup := hp.nodup_iff.2 h.nod
  have hmem : ∀ e ∈ E, 0 ≤ e.1 ∧ e.1 < e.2 ∧ e.2 < n := fun e he => by
    obtain ⟨f, hf, rfl⟩ := List.mem_map.1 (hp.mem_iff.1 he)
    exact h.norm hf
  refine rightG_yes ⟨by omega, by have := h.few; omega, ?_⟩ (fun k hk => ?_)
  · rw [hp.length_eq, List.length_map]; exact h.many
  · unfold okE edgeG
    have e1 : E.getD k (0, 0) = E[k] := by simp [List.getD, hk]
    have hm := hmem _ (List.getElem_mem hk)
    rw [e1, Bool.and_eq_true, Bool.or_eq_true, decide_eq_true_iff, decide_eq_true_iff]
    refine ⟨hm, ?_⟩
    by_cases hk0 : k = 0
    · left; simp [hk0]
    · right
      have hk1 : k - 1 < E.length := by omega
      have e2 : E.getD (k - 1) (0, 0) = E[k - 1] := by simp [List.getD, hk1]
      rw [e2]
      have h3 := List.pairwise_iff_getElem.1 hs (k - 1) k hk1 hk (by omega)
      have h4 : E[k - 1] ≠ E[k] := fun e => by
        have := (List.getElem_inj hnod).1 e
        omega
      rw [cmpP_lt, decide_eq_false_iff_not] at h3
      have h5 : E[k - 1].1 < E[k].1 ∨ (E[k - 1].1 = E[k].1 ∧ E[k - 1].2 < E[k].2) := by
        apply Classical.byContradiction
        intro h6
        apply h4
        exact Prod.ext (by omega) (by omega)
      have h7 := cmpP_lt E[k - 1] E[k]
      unfold Go.Proofs.ltOf at h7
      rw [decide_eq_true h5] at h7
      exact of_decide_eq_true h7
theorem RdP.below' {w w' : World} {A : Option Addr} {E : List (Int × Int)} (h : RdP w A E) (hb : Below w.heap.size w w') : RdP w' A E := h.below hb
theorem pcells_push (S : List (Int × Int)) (e : Int × Int) : pcells (S ++ [e]) = pcells S ++ [.int .i64 e.1, .int .i64 e.2] := by simp [pcells, zv]

set_option maxRecDepth 100000 in
set_option maxHeartbeats 8000000 in
theorem new_yes (A0 : Option Addr) (c m n : Nat) (L : List (Int × Int)) (w : World) (hr : RdP w A0 L) (hm : m = L.length) (hE : Edges n L) :
    Calls Try.prog 40 #[.int .i64 (n : Nat), .slice A0 m c] w fun e w' => ∃ (B : Option Addr) (c' : Nat) (E : List (Int × Int)), e = .returned (.tuple #[.agg #[.int .i64 (n : Nat), .slice B m c'], .int .i64 0]) ∧ E.Perm (L.map nrm) ∧ rightG (n : Nat) E = true ∧ RdP w' B E ∧ (∀ ad, B = some ad → w.heap.size ≤ ad.block) ∧ Below w.heap.size w w' := by
  have HA := Lib.hid hr
  have HE := Lib.hid hE
  have HM := Lib.hid hm
  have hn1 := hE.few
  have hm1 := hE.many
  rw [← hm] at hm1
  have hmm := @run_makeMap Try.prog
  have g1 : decide ((200 : Int) < (n : Int)) = false := by rw [decide_eq_false_iff_not]; omega
  have g2 : decide ((594 : Int) < (m : Int)) = false := by rw [decide_eq_false_iff_not]; omega
  have g3 : decide ((n : Int) < 0) = false := by rw [decide_eq_false_iff_not]; omega
  have g4 : decide (200 < n) = false := by rw [decide_eq_false_iff_not]; omega
  have g5 : decide (594 < m) = false := by rw [decide_eq_false_iff_not]; omega
  clear hr hE hm
  have hb3 : Below w.heap.size w (((w.alloc (.cells #[.int .i64 0, .slice none 0 0] 25)).alloc (.map #[] 0)).alloc (.cells #[.int .i64 (n : Nat), .slice none 0 0] 25)) :=
    (((Below.refl _ _).alloc (Nat.le_refl _) _).alloc (by simp) _).alloc (by simp; omega) _
  have HI0 : Hid (NewI w n 0 ((L.take 0).map nrm) 0 ((L.take 0).map nrm) (.slice none 0 0) (((w.alloc (.cells #[.int .i64 0, .slice none 0 0] 25)).alloc (.map #[] 0)).alloc (.cells #[.int .i64 (n : Nat), .slice none 0 0] 25))) := by
    refine ⟨hb3, by simp, ?_, ?_, ?_, World.ownsRow_nil _ _ _ _⟩
    · rw [heap_alloc_old _ _ (by simp; omega), heap_alloc_old _ _ (by simp)]
      exact heap_alloc_new w _
    · have h1 := SetP.made (w.alloc (.cells #[.int .i64 0, .slice none 0 0] 25))
      have h2 := h1.below ((Below.refl _ _).alloc (Nat.le_refl _) (.cells #[.int .i64 (n : Nat), .slice none 0 0] 25))
      simpa using h2
    · have h1 := heap_alloc_new ((w.alloc (.cells #[.int .i64 0, .slice none 0 0] 25)).alloc (.map #[] 0)) (.cells #[.int .i64 (n : Nat), .slice none 0 0] 25)
      simpa using h1
  obtain ⟨i0, hi0, hz0, hz1, hz2⟩ := info_partsI pairinfo
  clear hb3
  go_enter Try.func40, Try.ntmps40
  go_wp2_with fail
  clear hmm
  go_loopw [28] (fun s wr => ∃ (k : Nat) (V : Value), k ≤ m ∧ s = .int .i64 k ∧ Hid (NewI w n k ((L.take k).map nrm) k ((L.take k).map nrm) V wr)) (fun s _ => m - (intOf s).toNat)
  case atStart => exact ⟨0, _, Nat.zero_le _, rfl, HI0⟩
  case round =>
    obtain ⟨k, V, hk, rfl, hI⟩ := hrel
    by_cases h1 : k < m
    · have t1 : decide ((k : Int) < (m : Int)) = true := by simp; omega
      have hk0 : (0 : Int) ≤ (k : Int) := by omega
      have hk1 : (k : Int) < (m : Nat) := by omega
      obtain ⟨e, he⟩ : ∃ e, L[k]? = some e := ⟨_, List.getElem?_eq_getElem (by rw [← HM.out]; exact h1)⟩
      obtain ⟨ad, rfl, hal, c0, c1⟩ := (HA.out.below' hI.out.below) k e he
      obtain ⟨a, b⟩ := e
      have hlt := HE.out.lt (a, b) (List.mem_of_getElem? he)
      have hnod := HE.out.nod
      simp only at c0 c1 hlt
      by_cases h2 : b < a
      · have t2 : decide (b < a) = true := by simpa using h2
        obtain ⟨x, hx⟩ : ∃ x, x = b := ⟨_, rfl⟩
        obtain ⟨y, hy⟩ : ∃ y, y = a := ⟨_, rfl⟩
        have hnrm : nrm (a, b) = (x, y) := by rw [hx, hy]; simp [nrm, h2]
        obtain ⟨Wc, hWc⟩ : ∃ Wc, Wc = wr.alloc (.cells #[.int .i64 x, .int .i64 y] 56) := ⟨_, rfl⟩
        have hWB : Wc.heap[wr.heap.size]? = some (.cells #[.int .i64 x, .int .i64 y] 56 (0, 0)) := by rw [hWc]; exact heap_alloc_new wr _
        have hWb : Below wr.heap.size wr Wc := by rw [hWc]; exact (Below.refl _ _).alloc (Nat.le_refl _) _
        have hxy : 0 ≤ x ∧ x < y ∧ y < n := by omega
        have htake : (L.take (k + 1)).map nrm = (L.take k).map nrm ++ [(x, y)] := by rw [List.take_add_one, he]; simp [hnrm]
        have hmem : decide ((x, y) ∈ (L.take k).map nrm) = false := by
          rw [decide_eq_false_iff_not]
          intro hin
          have h5 : ((L.take (k + 1)).map nrm).Nodup := by rw [List.map_take]; exact hnod.sublist (List.take_sublist _ _)
          rw [htake] at h5
          exact (List.nodup_append.1 h5).2.2 _ hin _ (List.mem_singleton.2 rfl) rfl
        clear hnod he hlt hnrm
        subst hx; subst hy
        have hWS : wr.heap.size < Wc.heap.size := by have := lt_of_block hWB; exact this
        have HI := Lib.hid (hI.out.on hWb)
        have HWB := Lib.hid hWB
        obtain ⟨Wd, hWd⟩ : ∃ Wd, Wd = Wc.alloc (.cells #[] 70) := ⟨_, rfl⟩
        have hbd : Below Wc.heap.size Wc Wd := by rw [hWd]; exact (Below.refl _ _).alloc (Nat.le_refl _) _
        have HID := Lib.hid (HI.out.on hbd)
        obtain ⟨d0, d1, _, _⟩ := cells_two (w := Wd) (blk_below hWB hbd)
        rw [hWd] at d0 d1
        have hex : decide ((x, y) ∈ (L.take k).map nrm) = false := hmem
        have HN6 : Hid (∀ w6, SetP w6 (w.heap.size + 1) (k + 1) ((L.take k).map nrm ++ [(x, y)]) → Wd.grownBy w6 (some (w.heap.size + 1)) → Hid (NewI w n (k + 1) ((L.take k).map nrm ++ [(x, y)]) k ((L.take k).map nrm) V w6) ∧ w6.cell? ⟨wr.heap.size, 0, none⟩ = some (.int .i64 x) ∧ w6.cell? ⟨wr.heap.size, 1, none⟩ = some (.int .i64 y) ∧ w6.cell? ⟨w.heap.size + 2, 1, none⟩ = some V) := fun w6 hs hg => by
          have h6 := HID.out.met hs hg
          have hb6 := (hg.block wr.heap.size (Nat.lt_of_lt_of_le hWS hbd.size) (fun e => by injection e with e; have := hI.out.size; omega)).trans (blk_below HWB.out hbd)
          obtain ⟨e0, e1, _, _⟩ := cells_two (w := w6) hb6
          exact ⟨h6, e0, e1, cell_of h6.box 1⟩
        have HN7 : Hid (∀ w6 w7 V', NewI w n (k + 1) ((L.take k).map nrm ++ [(x, y)]) k ((L.take k).map nrm) V w6 → w7.ownsRow (w.heap.size + 3) 56 2 V' (k + 1) (pcells ((L.take k).map nrm) ++ [.int .i64 x, .int .i64 y]) → (w6.alloc (.cells #[.int .i64 x, .int .i64 y] 56)).grownBy w7 V.ownBlock →
            w7.cell? ⟨w.heap.size + 2, 1, none⟩ = some V ∧ w7.frozen? ⟨w.heap.size + 2, 1, none⟩ = false ∧ Hid (NewI w n (k + 1) ((L.take k).map nrm ++ [(x, y)]) (k + 1) ((L.take k).map nrm ++ [(x, y)]) V' (w7.setCell ⟨w.heap.size + 2, 1, none⟩ V'))) := fun w6 w7 V' h6 hr hg => by
          rw [← pcells_push _ (x, y)] at hr
          exact (h6.on ((Below.refl _ _).alloc (Nat.le_refl _) _)).push hr hg
        have HAP : Hid (∀ (w6 : World) (j : Nat) (u : Value), [Value.int .i64 x, .int .i64 y][j]? = some u → (w6.alloc (.cells #[.int .i64 x, .int .i64 y] 56)).cell? ((⟨w6.heap.size, 0, none⟩ : Addr).add j) = some u) := fun w6 j u hj => by
          rw [← hj, add_off, World.cell?_alloc_at _ _ _ _ rfl]
          simp
        have HWC := Lib.hid hWc
        have HWD := Lib.hid hWd
        have HT : Hid ((L.take (k + 1)).map nrm = (L.take k).map nrm ++ [(x, y)]) := htake
        have hinp : inP (x, y) := ⟨⟨by omega, by omega⟩, by omega, by omega⟩
        have t3 : decide (x < 0) = false := by rw [decide_eq_false_iff_not]; omega
        have t4 : (x == y) = false := by simp; omega
        have t5 : decide ((n : Int) ≤ y) = false := by rw [decide_eq_false_iff_not]; omega
        clear hWc hWd hWB hWb hI htake hmem hbd
        go_wp2_with (first
          | (at_lookup; rw [← HWC.out]; refine wpList_lookP _ rfl _ _ rfl (w.heap.size + 1) k _ rfl HI.out.set (x, y) rfl hinp ?_; rw [hex])
          | (at_mapUpdate; rw [← HWD.out]; refine wpList_putP _ rfl _ _ _ rfl (w.heap.size + 1) k _ rfl HID.out.set (by omega) (x, y) rfl rfl hinp ?_; intro w6 hs6 hg6; obtain ⟨HI6, e0, e1, e2⟩ := HN6.out w6 hs6 hg6)
          | (at_builtin; refine wpList_append_lies _ rfl (.tmp 73) (.tmp 75) 23 rfl (w.heap.size + 3) 56 i0 (.agg #[.int .i64 0, .int .i64 0]) 2 16 Try.underlying23 hi0 hz0 hz1 hz2 rfl (by decide) V k (pcells ((L.take k).map nrm)) rfl (HI6.out.row.alloc _) ⟨w6.heap.size, 0, none⟩ 1 1 [.int .i64 x, .int .i64 y] (by simp [Act.eval]) rfl (HAP.out w6) (by simp [Value.oneCell']) (by omega) (by simp [maxLen]; omega) (by omega) (by have := HI6.out.size; simp; omega) (w6.heap.size + 1) (by simp) ?_; intro g7 c7 w7 hr7 hg7 _ _; obtain ⟨f0, f1, HI7⟩ := HN7.out w6 w7 _ HI6.out hr7 hg7))
        go_roundw
        case rel => exact ⟨k + 1, _, by omega, by go_num, by rw [HT.out]; exact HI7⟩
        case measure => simp [intOf]; omega
      · have t2 : decide (b < a) = false := by simpa using h2
        obtain ⟨x, hx⟩ : ∃ x, x = a := ⟨_, rfl⟩
        obtain ⟨y, hy⟩ : ∃ y, y = b := ⟨_, rfl⟩
        have hnrm : nrm (a, b) = (x, y) := by rw [hx, hy]; simp [nrm, h2]
        subst hx; subst hy
        obtain ⟨Wc, hWc⟩ : ∃ Wc, Wc = wr.alloc (.cells #[.int .i64 x, .int .i64 y] 56) := ⟨_, rfl⟩
        have hWB : Wc.heap[wr.heap.size]? = some (.cells #[.int .i64 x, .int .i64 y] 56 (0, 0)) := by rw [hWc]; exact heap_alloc_new wr _
        have hWb : Below wr.heap.size wr Wc := by rw [hWc]; exact (Below.refl _ _).alloc (Nat.le_refl _) _
        have hxy : 0 ≤ x ∧ x < y ∧ y < n := by omega
        have htake : (L.take (k + 1)).map nrm = (L.take k).map nrm ++ [(x, y)] := by rw [List.take_add_one, he]; simp [hnrm]
        have hmem : decide ((x, y) ∈ (L.take k).map nrm) = false := by
          rw [decide_eq_false_iff_not]
          intro hin
          have h5 : ((L.take (k + 1)).map nrm).Nodup := by rw [List.map_take]; exact hnod.sublist (List.take_sublist _ _)
          rw [htake] at h5
          exact (List.nodup_append.1 h5).2.2 _ hin _ (List.mem_singleton.2 rfl) rfl
        clear hnod he hlt hnrm
        have hWS : wr.heap.size < Wc.heap.size := by have := lt_of_block hWB; exact this
        have HI := Lib.hid (hI.out.on hWb)
        have HWB := Lib.hid hWB
        obtain ⟨Wd, hWd⟩ : ∃ Wd, Wd = Wc.alloc (.cells #[] 70) := ⟨_, rfl⟩
        have hbd : Below Wc.heap.size Wc Wd := by rw [hWd]; exact (Below.refl _ _).alloc (Nat.le_refl _) _
        have HID := Lib.hid (HI.out.on hbd)
        obtain ⟨d0, d1, _, _⟩ := cells_two (w := Wd) (blk_below hWB hbd)
        rw [hWd] at d0 d1
        have hex : decide ((x, y) ∈ (L.take k).map nrm) = false := hmem
        have HN6 : Hid (∀ w6, SetP w6 (w.heap.size + 1) (k + 1) ((L.take k).map nrm ++ [(x, y)]) → Wd.grownBy w6 (some (w.heap.size + 1)) → Hid (NewI w n (k + 1) ((L.take k).map nrm ++ [(x, y)]) k ((L.take k).map nrm) V w6) ∧ w6.cell? ⟨wr.heap.size, 0, none⟩ = some (.int .i64 x) ∧ w6.cell? ⟨wr.heap.size, 1, none⟩ = some (.int .i64 y) ∧ w6.cell? ⟨w.heap.size + 2, 1, none⟩ = some V) := fun w6 hs hg => by
          have h6 := HID.out.met hs hg
          have hb6 := (hg.block wr.heap.size (Nat.lt_of_lt_of_le hWS hbd.size) (fun e => by injection e with e; have := hI.out.size; omega)).trans (blk_below HWB.out hbd)
          obtain ⟨e0, e1, _, _⟩ := cells_two (w := w6) hb6
          exact ⟨h6, e0, e1, cell_of h6.box 1⟩
        have HN7 : Hid (∀ w6 w7 V', NewI w n (k + 1) ((L.take k).map nrm ++ [(x, y)]) k ((L.take k).map nrm) V w6 → w7.ownsRow (w.heap.size + 3) 56 2 V' (k + 1) (pcells ((L.take k).map nrm) ++ [.int .i64 x, .int .i64 y]) → (w6.alloc (.cells #[.int .i64 x, .int .i64 y] 56)).grownBy w7 V.ownBlock →
            w7.cell? ⟨w.heap.size + 2, 1, none⟩ = some V ∧ w7.frozen? ⟨w.heap.size + 2, 1, none⟩ = false ∧ Hid (NewI w n (k + 1) ((L.take k).map nrm ++ [(x, y)]) (k + 1) ((L.take k).map nrm ++ [(x, y)]) V' (w7.setCell ⟨w.heap.size + 2, 1, none⟩ V'))) := fun w6 w7 V' h6 hr hg => by
          rw [← pcells_push _ (x, y)] at hr
          exact (h6.on ((Below.refl _ _).alloc (Nat.le_refl _) _)).push hr hg
        have HAP : Hid (∀ (w6 : World) (j : Nat) (u : Value), [Value.int .i64 x, .int .i64 y][j]? = some u → (w6.alloc (.cells #[.int .i64 x, .int .i64 y] 56)).cell? ((⟨w6.heap.size, 0, none⟩ : Addr).add j) = some u) := fun w6 j u hj => by
          rw [← hj, add_off, World.cell?_alloc_at _ _ _ _ rfl]
          simp
        have HWC := Lib.hid hWc
        have HWD := Lib.hid hWd
        have HT : Hid ((L.take (k + 1)).map nrm = (L.take k).map nrm ++ [(x, y)]) := htake
        have hinp : inP (x, y) := ⟨⟨by omega, by omega⟩, by omega, by omega⟩
        have t3 : decide (x < 0) = false := by rw [decide_eq_false_iff_not]; omega
        have t4 : (x == y) = false := by simp; omega
        have t5 : decide ((n : Int) ≤ y) = false := by rw [decide_eq_false_iff_not]; omega
        clear hWc hWd hWB hWb hI htake hmem hbd
        go_wp2_with (first
          | (at_lookup; rw [← HWC.out]; refine wpList_lookP _ rfl _ _ rfl (w.heap.size + 1) k _ rfl HI.out.set (x, y) rfl hinp ?_; rw [hex])
          | (at_mapUpdate; rw [← HWD.out]; refine wpList_putP _ rfl _ _ _ rfl (w.heap.size + 1) k _ rfl HID.out.set (by omega) (x, y) rfl rfl hinp ?_; intro w6 hs6 hg6; obtain ⟨HI6, e0, e1, e2⟩ := HN6.out w6 hs6 hg6)
          | (at_builtin; refine wpList_append_lies _ rfl (.tmp 73) (.tmp 75) 23 rfl (w.heap.size + 3) 56 i0 (.agg #[.int .i64 0, .int .i64 0]) 2 16 Try.underlying23 hi0 hz0 hz1 hz2 rfl (by decide) V k (pcells ((L.take k).map nrm)) rfl (HI6.out.row.alloc _) ⟨w6.heap.size, 0, none⟩ 1 1 [.int .i64 x, .int .i64 y] (by simp [Act.eval]) rfl (HAP.out w6) (by simp [Value.oneCell']) (by omega) (by simp [maxLen]; omega) (by omega) (by have := HI6.out.size; simp; omega) (w6.heap.size + 1) (by simp) ?_; intro g7 c7 w7 hr7 hg7 _ _; obtain ⟨f0, f1, HI7⟩ := HN7.out w6 w7 _ HI6.out hr7 hg7))
        go_roundw
        case rel => exact ⟨k + 1, _, by omega, by go_num, by rw [HT.out]; exact HI7⟩
        case measure => simp [intOf]; omega
    · obtain rfl : k = m := by omega
      have t1 : decide ((k : Int) < (k : Int)) = false := by simp
      have htk : L.take k = L := List.take_of_length_le (by rw [HM.out]; exact Nat.le_refl _)
      rw [htk] at hI
      have cb0 := cell_of hI.out.box 0
      have cb1 := cell_of hI.out.box 1
      clear htk
      rcases Joins.ownsRow_forms hI.out.row with ⟨rfl, hk0⟩ | ⟨g, cap, rfl⟩
      · have HS : Hid (∀ W : World, Calls Try.prog 47 #[.slice none 0 0, .func (.func 43) #[] #[]] W fun e w' => e = .returned (.tuple #[]) ∧ w' = W) := fun W => AnyF.slices_SortFunc_none srt_lays none 0 (.func (.func 43) #[] #[]) W
        have hr0 := cell_of hI.out.res 0
        have hr1 := cell_of hI.out.res 1
        have hf0 := free_of hI.out.res 0
        have hf1 := free_of hI.out.res 1
        have HLN : Hid (L = []) := List.length_eq_zero_iff.1 (by have := HM.out; omega)
        subst hk0
        go_wp2_with (first | (go_at_call 47; refine (HS.out _).mono ?_; rintro e wn ⟨rfl, rfl⟩))
        have q0 := World.cell?_setCell_same' wn ⟨w.heap.size, 0, none⟩ (.int .i64 (n : Nat)) (by rw [hr0]; rfl)
        have q1 := World.cell?_setCell_same' (wn.setCell ⟨w.heap.size, 0, none⟩ (.int .i64 (n : Nat))) ⟨w.heap.size, 1, none⟩ (.slice none 0 0) (by rw [World.cell?_setCell_other _ _ _ _ (by simp), hr1]; rfl)
        refine bodyPost_ret (by rw [results_cell_tmp rfl]; simp [go_sem, q0, q1, Result.andThen] <;> rfl) rfl ?_
        refine ⟨none, 0, [], rfl, ?_, rightG_yes ⟨by omega, by omega, by simp⟩ (fun k hk => by simp at hk), fun q e hq => by simp at hq, (fun ad e => by cases e), ?_⟩
        · rw [HLN.out]; exact List.Perm.refl _
        · exact (hI.out.below.setCell (p := ⟨w.heap.size, 0, none⟩) (Nat.le_refl _) _).setCell (p := ⟨w.heap.size, 1, none⟩) (Nat.le_refl _) _
      · obtain ⟨hg1, hg2⟩ := hI.out.row.lt g rfl
        have hown := ownP_of hI.out.row
        have HSORT : Hid (∀ W : World, W = wr → Calls Try.prog 47 #[.slice (some ⟨g, 0, none⟩) k cap, .func (.func 43) #[] #[]] W fun e w' => e = .returned (.tuple #[]) ∧ ∃ E' : List (Int × Int), E'.Perm (L.map nrm) ∧ E'.Pairwise (fun x y => Go.Proofs.ltOf cmpP y x = false) ∧ OwnP w' g E' ∧ Bar g 1 W w') := fun W e => by
          rw [e]
          exact sort_pairs g cap k (L.map nrm) wr hown (by rw [List.length_map]; exact HM.out) (by omega)
        clear hown
        go_wp2_with (first | (go_at_call 47; refine (HSORT.out _ rfl).mono ?_; rintro e w5 ⟨rfl, E', hp5, hs5, ho5, hb5⟩; obtain ⟨b0, b1, r0, r1, r2, r3⟩ := new_after hI.out hg1 hb5))
        have q0 := World.cell?_setCell_same' w5 ⟨w.heap.size, 0, none⟩ (.int .i64 (n : Nat)) (by rw [r0]; rfl)
        have q1 := World.cell?_setCell_same' (w5.setCell ⟨w.heap.size, 0, none⟩ (.int .i64 (n : Nat))) ⟨w.heap.size, 1, none⟩ (.slice (some ⟨g, 0, none⟩) k cap) (by rw [World.cell?_setCell_other _ _ _ _ (by simp), r1]; rfl)
        refine bodyPost_ret (by rw [results_cell_tmp rfl]; simp [go_sem, q0, q1, Result.andThen] <;> rfl) rfl ?_
        refine ⟨some ⟨g, 0, none⟩, cap, E', rfl, hp5, rightG_sorted HE.out hp5 hs5, ?_, (fun ad e => by injection e with e; subst e; show w.heap.size ≤ g; omega), ?_⟩
        · exact ((ho5.set (by show g ≠ w.heap.size; omega) _).set (by show g ≠ w.heap.size; omega) _).rd
        · exact ((hb5.below' hI.out.below hg1).setCell (p := ⟨w.heap.size, 0, none⟩) (Nat.le_refl _) _).setCell (p := ⟨w.heap.size, 1, none⟩) (Nat.le_refl _) _
end Go.Proofs.Ytgldlanfbkgfjaa
