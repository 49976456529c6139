/- PS PT P0 PQ PU PV PX P1 PY U13 H27 PI H28: several texts in one. -/
import Derived.Test.YtlkfpphahfendaaW1
import Derived.Shelf.SlSortCmp.WholeK
import Derived.Test.YtlkfpphahfendaaW11
import Derived.Lib.SmallJoins
import Derived.Test.YtlkfpphahfendaaW8
import Derived.Test.YtlkfpphahfendaaW14
import Derived.RangeFuncNested
import Derived.RangeFuncBox
import Derived.Test.YtlkfpphahfendaaW29
import Derived.Test.YtlkfpphahfendaaPK
import Derived.WideKeyPair
import Derived.DeepKeys4
import Derived.Maps.OwnOps
import Derived.Maps.OwnSet
import Derived.Maps.Views
import Derived.Carry
import Derived.Deep.AppendLies
import Derived.Test.YtlkfpphahfendaaW22
import Derived.Shelf.SlSortCmp.NoneTotal
import Derived.Laws.ResultCell
import Derived.Test.YtlkfpphahfendaaU12
import Derived.Test.YtlkfpphahfendaaW0
import Derived.WalkKit
import Derived.ProofKit
import Derived.OpenShut
import Derived.ChangeSlices
namespace Go.Proofs.Ytlkfpphahfendaa
section
set_option maxRecDepth 100000
open Go.RowKit

def srt : Go.Shelf.Ren where
  f := fun x => match x with
    | 6 => 65
    | 15 => 53
    | 14 => 82
    | 28 => 75
    | 29 => 76
    | 20 => 90
    | 21 => 91
    | 22 => 92
    | 23 => 93
    | 24 => 94
    | 25 => 95
    | 26 => 96
    | 27 => 97
    | 46 => 99
    | 47 => 84
    | 48 => 85
    | 49 => 100
    | 50 => 101
    | 57 => 102
    | n => n
  t := fun x => match x with
    | 22 => 22
    | 24 => 44
    | 25 => 71
    | 3 => 3
    | 39 => 90
    | 0 => 0
    | 53 => 118
    | 55 => 120
    | 4 => 4
    | 46 => 111
    | 45 => 110
    | 50 => 45
    | 5 => 5
    | 9 => 9
    | 66 => 127
    | 70 => 131
    | 76 => 142
    | 77 => 143
    | n => n
  g := fun n => n
set_option maxRecDepth 100000 in
set_option maxHeartbeats 4000000 in
theorem srt_lays : SlLaysF0.n6 Try.prog srt where
  mixed := by kernel_rfl
  f6 := ⟨ "slices.SortFunc[[][2]int,[2]int]", by decide, (Try.func65).trans (congrArg some rfl)⟩
  f14 := ⟨ "slices.pdqsortCmpFunc[[2]int]", by decide, (Try.func82).trans (congrArg some rfl)⟩
  f20 := ⟨ "slices.insertionSortCmpFunc[[2]int]", by decide, (Try.func90).trans (congrArg some rfl)⟩
  f21 := ⟨ "slices.heapSortCmpFunc[[2]int]", by decide, (Try.func91).trans (congrArg some rfl)⟩
  f22 := ⟨ "slices.breakPatternsCmpFunc[[2]int]", by decide, (Try.func92).trans (congrArg some rfl)⟩
  f23 := ⟨ "slices.choosePivotCmpFunc[[2]int]", by decide, (Try.func93).trans (congrArg some rfl)⟩
  f24 := ⟨ "slices.reverseRangeCmpFunc[[2]int]", by decide, (Try.func94).trans (congrArg some rfl)⟩
  f25 := ⟨ "slices.partialInsertionSortCmpFunc[[2]int]", by decide, (Try.func95).trans (congrArg some rfl)⟩
  f26 := ⟨ "slices.partitionEqualCmpFunc[[2]int]", by decide, (Try.func96).trans (congrArg some rfl)⟩
  f27 := ⟨ "slices.partitionCmpFunc[[2]int]", by decide, (Try.func97).trans (congrArg some rfl)⟩
  f46 := ⟨ "slices.siftDownCmpFunc[[2]int]", by decide, (Try.func99).trans (congrArg some rfl)⟩
  f49 := ⟨ "slices.medianAdjacentCmpFunc[[2]int]", by decide, (Try.func100).trans (congrArg some rfl)⟩
  f50 := ⟨ "slices.medianCmpFunc[[2]int]", by decide, (Try.func101).trans (congrArg some rfl)⟩
  f57 := ⟨ "slices.order2CmpFunc[[2]int]", by decide, (Try.func102).trans (congrArg some rfl)⟩
  f15 := (Try.func53).trans (congrArg some rfl)
  f28 := (Try.func75).trans (congrArg some rfl)
  f29 := (Try.func76).trans (congrArg some rfl)
  f47 := (Try.func84).trans (congrArg some rfl)
  f48 := (Try.func85).trans (congrArg some rfl)
  t0 := Try.underlying0
  a0 := Try.isAgg0
  z0 := Try.sizeOf0
  v0 := Try.zeroValue0
  t3 := Try.underlying3
  a3 := Try.isAgg3
  z3 := Try.sizeOf3
  v3 := Try.zeroValue3
  t4 := Try.underlying4
  a4 := Try.isAgg4
  z4 := Try.sizeOf4
  v4 := Try.zeroValue4
  t5 := Try.underlying5
  a5 := Try.isAgg5
  z5 := Try.sizeOf5
  v5 := Try.zeroValue5
  t9 := Try.underlying9
  a9 := Try.isAgg9
  z9 := Try.sizeOf9
  v9 := Try.zeroValue9
  t22 := Try.underlying22
  a22 := Try.isAgg22
  z22 := Try.sizeOf22
  v22 := Try.zeroValue22
  t25 := Try.underlying71
  a25 := Try.isAgg71
  z25 := Try.sizeOf71
  v25 := Try.zeroValue71
  t39 := Try.underlying90
  a39 := Try.isAgg90
  z39 := Try.sizeOf90
  v39 := Try.zeroValue90
  t45 := Try.underlying110
  a45 := Try.isAgg110
  z45 := Try.sizeOf110
  v45 := Try.zeroValue110
  t46 := Try.underlying111
  a46 := Try.isAgg111
  z46 := Try.sizeOf111
  v46 := Try.zeroValue111
  t50 := Try.underlying45
  a50 := Try.isAgg45
  z50 := Try.sizeOf45
  v50 := Try.zeroValue45
  t53 := Try.underlying118
  a53 := Try.isAgg118
  z53 := Try.sizeOf118
  v53 := Try.zeroValue118
  t55 := Try.underlying120
  a55 := Try.isAgg120
  z55 := Try.sizeOf120
  v55 := Try.zeroValue120
  t66 := Try.underlying127
  a66 := Try.isAgg127
  z66 := Try.sizeOf127
  v66 := Try.zeroValue127
  t70 := Try.underlying131
  a70 := Try.isAgg131
  z70 := Try.sizeOf131
  v70 := Try.zeroValue131
  t76 := Try.underlying142
  a76 := Try.isAgg142
  z76 := Try.sizeOf142
  v76 := Try.zeroValue142
  t77 := Try.underlying143
  a77 := Try.isAgg143
  z77 := Try.sizeOf143
  v77 := Try.zeroValue143
end
section
set_option maxRecDepth 100000
open Go.RowKit Go.Sort

/-- Draws, and blocks behind all that lay; nothing else. -/
def Grown (W w' : World) : Prop := ∃ q os, w' = grow (W.drewN q) os
theorem Grown.refl (W : World) : Grown W W := ⟨0, #[], by simp [grow]; rfl⟩
theorem Grown.alloc {W w' : World} (h : Grown W w') (o : Obj) : Grown W (w'.alloc o) := by
  obtain ⟨q, os, rfl⟩ := h
  exact ⟨q, os ++ #[o], by rw [alloc_eq_grow, grow_grow]⟩
theorem Grown.drew {W w' : World} (h : Grown W w') : Grown W w'.drew := by
  obtain ⟨q, os, rfl⟩ := h
  exact ⟨q + 1, os, rfl⟩
theorem Grown.below {W w' : World} (h : Grown W w') : Below W.heap.size W w' := by
  obtain ⟨q, os, rfl⟩ := h
  refine ⟨rfl, rfl, rfl, by simp [grow, World.drewN], fun k hk => ?_⟩
  show (W.heap ++ os)[k]? = _
  exact Array.getElem?_append_left hk
theorem Grown.trans {A B C : World} (h : Grown A B) (k : Grown B C) : Grown A C := by
  obtain ⟨q, os, rfl⟩ := h
  obtain ⟨r, ps, rfl⟩ := k
  refine ⟨q + r, os ++ ps, ?_⟩
  simp [grow, World.drewN, Array.append_assoc, Nat.add_assoc]

theorem or_same (g c : Nat) (a b : Int) (w : World) (h0 : w.cell? ⟨g, 0, none⟩ = some (.int .i64 a)) (h1 : w.cell? ⟨g, 1, none⟩ = some (.int .i64 b)) :
    Calls Try.prog 60 #[.slice (some ⟨g, 0, none⟩) 2 c] w fun e w' => e = .returned (.int .i64 (orZ a b)) ∧ w = w' := by
  by_cases ha : a = 0
  · subst ha
    by_cases hb : b = 0
    · subst hb
      go_enter Try.func60, Try.ntmps60
      go_wp2_with fail
      go_loopw [8] (fun s wr => (s = .int .i64 0 ∨ s = .int .i64 1 ∨ s = .int .i64 2) ∧ wr = w) (fun s _ => 2 - (intOf s).toNat)
      case atStart => exact ⟨.inl rfl, rfl⟩
      case round =>
        obtain ⟨rfl | rfl | rfl, rfl⟩ := hrel
        · go_wp2_with fail
          go_roundw
          case rel => exact ⟨.inr (.inl rfl), by first | rfl | trivial⟩
          case measure => simp [intOf]
        · go_wp2_with fail
          go_roundw
          case rel => exact ⟨.inr (.inr rfl), by first | rfl | trivial⟩
          case measure => simp [intOf]
        · go_wp2_with fail
          go_ret
          exact ⟨rfl, rfl⟩
    · have hd : (b == 0) = false := by simpa using hb
      go_enter Try.func60, Try.ntmps60
      go_wp2_with fail
      go_loopw [8] (fun s wr => (s = .int .i64 0 ∨ s = .int .i64 1) ∧ wr = w) (fun s _ => 2 - (intOf s).toNat)
      case atStart => exact ⟨.inl rfl, rfl⟩
      case round =>
        obtain ⟨rfl | rfl, rfl⟩ := hrel
        · go_wp2_with fail
          go_roundw
          case rel => exact ⟨.inr rfl, by first | rfl | trivial⟩
          case measure => simp [intOf]
        · go_wp2_with fail
          go_ret
          exact ⟨rfl, rfl⟩
  · have hd : (a == 0) = false := by simpa using ha
    have ho : Hid (orZ a b = a) := by show _ = _; simp [orZ, ha]
    go_enter Try.func60, Try.ntmps60
    go_wp2_with fail
    go_loopw [8] (fun s wr => s = .int .i64 0 ∧ wr = w) (fun s _ => 2 - (intOf s).toNat)
    case atStart => exact ⟨rfl, rfl⟩
    case round =>
      obtain ⟨rfl, rfl⟩ := hrel
      go_wp2_with fail
      go_ret
      exact ⟨ret_int ho.out.symm, rfl⟩

section
variable {W w' : World} {b0 b1 : Nat} {v0 v1 u0 u1 : Value}
theorem fourG_alloc (o : Obj) (h0 : b0 < W.heap.size) (h1 : b1 < W.heap.size) (h : w'.cell? ⟨b0, 0, none⟩ = some v0 ∧ w'.cell? ⟨b0, 1, none⟩ = some v1 ∧ w'.cell? ⟨b1, 0, none⟩ = some u0 ∧ w'.cell? ⟨b1, 1, none⟩ = some u1 ∧ Grown W w') :
    (w'.alloc o).cell? ⟨b0, 0, none⟩ = some v0 ∧ (w'.alloc o).cell? ⟨b0, 1, none⟩ = some v1 ∧ (w'.alloc o).cell? ⟨b1, 0, none⟩ = some u0 ∧ (w'.alloc o).cell? ⟨b1, 1, none⟩ = some u1 ∧ Grown W (w'.alloc o) := by
  obtain ⟨a, b, c, d, e⟩ := h
  obtain ⟨a, b, c, d, _⟩ := four_alloc (W := W) o h0 h1 ⟨a, b, c, d, e.below⟩
  exact ⟨a, b, c, d, e.alloc o⟩
end

set_option maxHeartbeats 2000000 in
theorem compare_grown (a b : Int × Int) (w : World) :
    Calls Try.prog 38 #[.agg #[.int .i64 a.1, .int .i64 a.2], .agg #[.int .i64 b.1, .int .i64 b.2]] w fun e w' => e = .returned (.int .i64 (cmpP a b)) ∧ Grown w w' := by
  obtain ⟨a0, a1⟩ := a
  obtain ⟨b0, b1⟩ := b
  have HC : Hid (cmpP (a0, a1) (b0, b1) = orZ (cmpZ a0 b0) (cmpZ a1 b1)) := rfl
  rw [HC.out]
  obtain ⟨W, hW⟩ : ∃ W, W = (w.alloc (.cells #[.int .i64 a0, .int .i64 a1] 44)).alloc (.cells #[.int .i64 b0, .int .i64 b1] 44) := ⟨_, rfl⟩
  have hWS : W.heap.size = w.heap.size + 1 + 1 := by rw [hW]; simp
  have hbW : Grown w W := by rw [hW]; exact ((Grown.refl _).alloc _).alloc _
  obtain ⟨i0, i1, _, _⟩ := cells_two (w := W) (by rw [hW]; exact two_first w _ _)
  obtain ⟨i2, i3, _, _⟩ := cells_two (w := W) (by rw [hW]; exact two_second w _ _)
  have HW := Lib.hid hW
  have HB := Lib.hid hbW
  have H0 : Hid (w.heap.size < W.heap.size) := by show _ < _; omega
  have H1 : Hid (w.heap.size + 1 < W.heap.size) := by show _ < _; omega
  have hD : W.drew.cell? ⟨w.heap.size, 0, none⟩ = some (.int .i64 a0) ∧ W.drew.cell? ⟨w.heap.size, 1, none⟩ = some (.int .i64 a1) ∧ W.drew.cell? ⟨w.heap.size + 1, 0, none⟩ = some (.int .i64 b0) ∧ W.drew.cell? ⟨w.heap.size + 1, 1, none⟩ = some (.int .i64 b1) ∧ Grown W W.drew := ⟨i0, i1, i2, i3, (Grown.refl W).drew⟩
  clear hW hbW hWS
  go_enter Try.func38, Try.ntmps38
  go_wp2_with fail
  rw [← HW.out]
  go_region_held3 (fun w' => w'.cell? ⟨w.heap.size, 0, none⟩ = some (.int .i64 a0) ∧ w'.cell? ⟨w.heap.size, 1, none⟩ = some (.int .i64 a1) ∧ w'.cell? ⟨w.heap.size + 1, 0, none⟩ = some (.int .i64 b0) ∧ w'.cell? ⟨w.heap.size + 1, 1, none⟩ = some (.int .i64 b1) ∧ Grown W w')
    (first | exact hS | exact hD | exact fourG_alloc _ H0.out H1.out (by assumption) | exact fourG_alloc _ H0.out H1.out hD)
    (first
      | (go_at_call 61; refine (cmpZ_any _ _ _).mono ?_; rintro e wn ⟨rfl, rfl⟩)
      | (go_at_call 60; refine (or_same _ _ (cmpZ a0 b0) (cmpZ a1 b1) _ (World.cell?_alloc_at _ _ _ _ rfl) (World.cell?_alloc_at _ _ _ _ rfl)).mono ?_; rintro e wn ⟨rfl, rfl⟩))
  all_goals go_wp2_with fail
  all_goals go_ret
  all_goals exact ⟨rfl, HB.out.trans (fourG_alloc _ H0.out H1.out hD).2.2.2.2⟩

/-- A pair's two cells. -/
def encP (x : Int × Int) : List Value := [.int .i64 x.1, .int .i64 x.2]
theorem cmp_lays (blk off size : Nat) (w : World) : CmpLays Try.prog 38 #[] encP 2 cmpP blk off size w :=
  fun _ _ _ _ x y => compare_grown x y _
theorem cmpP_lt (x y : Int × Int) : ltOf cmpP x y = decide (x.1 < y.1 ∨ (x.1 = y.1 ∧ x.2 < y.2)) := by
  unfold ltOf cmpP orZ cmpZ
  congr 1
  rw [eq_iff_iff]
  by_cases h1 : x.1 < y.1
  · simp [h1]
  · by_cases h2 : y.1 < x.1
    · simp [h1, h2]; omega
    · by_cases h3 : x.2 < y.2
      · simp [h1, h2, h3]; omega
      · by_cases h4 : y.2 < x.2 <;> simp [h1, h2, h3, h4]
theorem cmpP_swo : SWO (ltOf cmpP) where
  irrefl x := by rw [cmpP_lt]; simp
  trans x y z h1 h2 := by rw [cmpP_lt] at *; simp at *; omega
  ntrans x y z h1 h2 := by rw [cmpP_lt] at *; simp at *; omega
end
section
set_option maxRecDepth 100000
open Go.RowKit

theorem OwnZ.below {w w' : World} {B : Nat} {ds : List Int} (h : OwnZ w B ds) (hb : Below w.heap.size w w') : OwnZ w' B ds := blk_below h hb
theorem OwnZ.rd {w : World} {B : Nat} {ds : List Int} (h : OwnZ w B ds) : RdZ w (some ⟨B, 0, none⟩) ds := fun q x hq =>
  ⟨_, rfl, lt_of_block h, by rw [add_off, cell_of h]; simp [zs, zv, hq]⟩
def gn (p : List Nat) (i : Nat) : Nat := p.getD i 0
theorem gn_at {p : List Nat} {i : Nat} (h : i < p.length) : p[i]? = some (gn p i) := by simp [gn, List.getD, List.getElem?_eq_getElem h]
/-- Numbers as ints. -/
def iz (p : List Nat) : List Int := p.map fun (x : Nat) => (x : Int)
theorem iz_length (p : List Nat) : (iz p).length = p.length := by simp [iz]
theorem iz_at {p : List Nat} {i : Nat} (h : i < p.length) : (iz p)[i]? = some ((gn p i : Nat) : Int) := by simp [iz, gn_at h]
theorem iz_inj : ∀ {p q : List Nat}, iz p = iz q → p = q
  | [], [], _ => rfl
  | [], _ :: _, h => by cases h
  | _ :: _, [], h => by cases h
  | a :: p, b :: q, h => by
    simp only [iz, List.map_cons, List.cons.injEq] at h
    rw [iz_inj h.2, show a = b by omega]
/-- Is it a permutation? -/
def rightP (xs : List Int) : Bool := decide (xs.length ≤ 200) && (decide (∀ v ∈ xs, 0 ≤ v ∧ v < xs.length) && decide xs.Nodup)
/-- A permutation of n things. -/
structure Perm (n : Nat) (p : List Nat) : Prop where
  len : p.length = n
  lt : ∀ v ∈ p, v < n
  nod : p.Nodup
theorem iz_of : ∀ (xs : List Int), (∀ v ∈ xs, 0 ≤ v) → ∃ p : List Nat, xs = iz p
  | [], _ => ⟨[], rfl⟩
  | x :: xs, h => by
    obtain ⟨p, rfl⟩ := iz_of xs (fun v hv => h v (List.mem_cons_of_mem _ hv))
    obtain ⟨n, rfl⟩ := Int.eq_ofNat_of_zero_le (h x (List.mem_cons_self ..))
    exact ⟨n :: p, rfl⟩
theorem iz_mem {p : List Nat} {v : Nat} : (v : Int) ∈ iz p ↔ v ∈ p := by
  unfold iz
  rw [List.mem_map]
  constructor
  · rintro ⟨a, h, e⟩
    have : a = v := by omega
    rw [← this]; exact h
  · intro h; exact ⟨v, h, rfl⟩
theorem iz_nodup : ∀ {p : List Nat}, (iz p).Nodup ↔ p.Nodup
  | [] => by simp [iz]
  | a :: p => by
    have e : iz (a :: p) = (a : Int) :: iz p := rfl
    rw [e, List.nodup_cons, List.nodup_cons, iz_nodup, iz_mem]
theorem rightP_iff {xs : List Int} : rightP xs = true ↔ ∃ p : List Nat, xs = iz p ∧ Perm p.length p ∧ p.length ≤ 200 := by
  unfold rightP
  rw [Bool.and_eq_true, Bool.and_eq_true]
  simp only [decide_eq_true_eq]
  constructor
  · rintro ⟨h1, h2, h3⟩
    obtain ⟨p, rfl⟩ := iz_of xs (fun v hv => (h2 v hv).1)
    rw [iz_length] at h1 h2
    exact ⟨p, rfl, ⟨rfl, fun v hv => by have := (h2 v (iz_mem.2 hv)).2; omega, iz_nodup.1 h3⟩, h1⟩
  · rintro ⟨p, rfl, hp, hl⟩
    rw [iz_length]
    refine ⟨hl, fun v hv => ?_, iz_nodup.2 hp.nod⟩
    obtain ⟨a, ha, rfl⟩ := List.mem_map.1 hv
    have := hp.lt a ha
    omega
theorem Perm.gn_lt {n i : Nat} {p : List Nat} (h : Perm n p) (hi : i < n) : gn p i < n := h.lt _ (List.mem_of_getElem? (gn_at (by rw [h.len]; exact hi)))
theorem Perm.inj {n i j : Nat} {p : List Nat} (h : Perm n p) (hi : i < n) (hj : j < n) (e : gn p i = gn p j) : i = j := by
  have h1 := gn_at (p := p) (i := i) (by rw [h.len]; exact hi)
  have h2 := gn_at (p := p) (i := j) (by rw [h.len]; exact hj)
  rw [e] at h1
  obtain ⟨a1, a2⟩ := List.getElem?_eq_some_iff.1 h1
  obtain ⟨b1, b2⟩ := List.getElem?_eq_some_iff.1 h2
  exact (List.getElem_inj h.nod).1 (a2.trans b2.symm)
/-- Marks of those among the first ones. -/
def marks (M : Nat) (xs : List Int) (k : Nat) : List Bool := (List.range M).map fun (v : Nat) => decide ((v : Int) ∈ xs.take k)
theorem marks_length (M : Nat) (xs : List Int) (k : Nat) : (marks M xs k).length = M := by simp [marks]
theorem marks_at {M : Nat} {xs : List Int} {k v : Nat} (h : v < M) : (marks M xs k)[v]? = some (decide ((v : Int) ∈ xs.take k)) := by simp [marks, h]
theorem marks_zero (M : Nat) (xs : List Int) : marks M xs 0 = List.replicate M false := by
  apply List.ext_getElem?
  intro i
  by_cases h : i < M
  · rw [marks_at h]; simp [List.getElem?_replicate, h]
  · rw [List.getElem?_eq_none (by rw [marks_length]; omega), List.getElem?_eq_none (by rw [List.length_replicate]; omega)]
theorem marks_step {M : Nat} {xs : List Int} {k v : Nat} (hv : xs[k]? = some (v : Int)) : (marks M xs k).set v true = marks M xs (k + 1) := by
  apply List.ext_getElem?
  intro i
  by_cases h : i < M
  · rw [marks_at h, List.take_add_one, hv]
    by_cases e : i = v
    · subst e
      rw [List.getElem?_set_self (by rw [marks_length]; exact h)]
      simp
    · rw [List.getElem?_set_ne (fun e2 => e e2.symm), marks_at h]
      have : decide ((i : Int) ∈ xs.take k ++ (some (v : Int)).toList) = decide ((i : Int) ∈ xs.take k) := by
        by_cases hm : (i : Int) ∈ xs.take k
        · simp [hm]
        · simp [hm]; omega
      rw [this]
  · rw [List.getElem?_eq_none (by rw [List.length_set, marks_length]; omega), List.getElem?_eq_none (by rw [marks_length]; omega)]
theorem zero200 : Try.zeroCells104 = (bs (List.replicate 200 false)).toArray := by kernel_rfl
theorem rightP_small {xs : List Int} (h : 200 < xs.length) : rightP xs = false := by
  unfold rightP
  rw [show decide (xs.length ≤ 200) = false by rw [decide_eq_false_iff_not]; omega]
  rfl
theorem rightP_out {xs : List Int} {x : Int} (hx : x ∈ xs) (h : ¬ (0 ≤ x ∧ x < xs.length)) : rightP xs = false := by
  cases hr : rightP xs with
  | false => rfl
  | true =>
    obtain ⟨p, rfl, hp, _⟩ := rightP_iff.1 hr
    obtain ⟨a, ha, rfl⟩ := List.mem_map.1 hx
    have := hp.lt a ha
    rw [iz_length] at h
    exact absurd ⟨by omega, by omega⟩ h
theorem rightP_twice {xs : List Int} {x : Int} {k : Nat} (hx : xs[k]? = some x) (h : x ∈ xs.take k) : rightP xs = false := by
  cases hr : rightP xs with
  | false => rfl
  | true =>
    exfalso
    have hn : xs.Nodup := by
      obtain ⟨p, rfl, hp, _⟩ := rightP_iff.1 hr
      exact iz_nodup.2 hp.nod
    obtain ⟨j, hj⟩ := List.getElem?_of_mem h
    have hjl := (List.getElem?_eq_some_iff.1 hj).1
    rw [List.length_take] at hjl
    rw [List.getElem?_take_of_lt (by omega)] at hj
    obtain ⟨a1, a2⟩ := List.getElem?_eq_some_iff.1 hj
    obtain ⟨b1, b2⟩ := List.getElem?_eq_some_iff.1 hx
    have := (List.getElem_inj hn).1 (a2.trans b2.symm)
    omega
theorem rightP_all {xs : List Int} (h0 : xs.length ≤ 200) (h : ∀ (k : Nat) (x : Int), xs[k]? = some x → 0 ≤ x ∧ x < xs.length ∧ x ∉ xs.take k) : rightP xs = true := by
  unfold rightP
  rw [Bool.and_eq_true, Bool.and_eq_true]
  simp only [decide_eq_true_eq]
  refine ⟨h0, fun v hv => ?_, ?_⟩
  · obtain ⟨k, hk⟩ := List.getElem?_of_mem hv
    have := h k v hk
    omega
  · rw [List.Nodup, List.pairwise_iff_getElem]
    intro i j hi hj hij e
    refine (h j xs[j] (List.getElem?_eq_getElem hj)).2.2 ?_
    rw [← e]
    exact List.mem_of_getElem? (i := i) (by rw [List.getElem?_take_of_lt hij]; exact List.getElem?_eq_getElem hi)

set_option maxRecDepth 100000 in
set_option maxHeartbeats 8000000 in
theorem rightP_any (A : Option Addr) (c n : Nat) (xs : List Int) (w : World) (hr : RdZ w A xs) (hn : n = xs.length) (hs : n ≤ 9223372036854775807) :
    Calls Try.prog 50 #[.slice A n c] w fun e w' => e = .returned (.bool (rightP xs)) ∧ Below w.heap.size w w' := by
  obtain ⟨r, hrr⟩ : ∃ r, rightP xs = r := ⟨_, rfl⟩
  have HRR := Lib.hid hrr
  rw [hrr]
  have HR := Lib.hid hr
  have HN := Lib.hid hn
  clear hrr hr hn
  by_cases hg : 200 < n
  · have HF : Hid (r = false) := by
      show _ = _
      rw [← HRR.out]
      exact rightP_small (by rw [← HN.out]; exact hg)
    have d1 : decide ((200 : Int) < (n : Int)) = true := by rw [decide_eq_true_iff]; omega
    go_enter Try.func50, Try.ntmps50
    go_wp2_with fail
    go_ret
    exact ⟨by rw [HF.out]; rfl, Below.refl _ _⟩
  · have d1 : decide ((200 : Int) < (n : Int)) = false := by rw [decide_eq_false_iff_not]; omega
    have HM0 : Hid ((w.alloc (.cells Try.zeroCells104 104)).heap[w.heap.size]? = some (.cells (bs (marks 200 xs 0)).toArray 104 (0, 0))) := by
      show _ = _
      rw [marks_zero, ← zero200]
      exact heap_alloc_new w _
    have HB0 : Hid (Below w.heap.size w (w.alloc (.cells Try.zeroCells104 104))) := (Below.refl _ _).alloc (Nat.le_refl _) _
    have HC0 : Hid (∀ (k : Nat) (x : Int), k < 0 → xs[k]? = some x → 0 ≤ x ∧ x < xs.length ∧ x ∉ xs.take k) := fun k x h => by omega
    go_enter Try.func50, Try.ntmps50
    go_wp2_with fail
    go_loopw [11] (fun s wr => ∃ k : Nat, k ≤ n ∧ s = .int .i64 k ∧ Hid (wr.heap[w.heap.size]? = some (.cells (bs (marks 200 xs k)).toArray 104 (0, 0))) ∧ Hid (∀ (j : Nat) (x : Int), j < k → xs[j]? = some x → 0 ≤ x ∧ x < xs.length ∧ x ∉ xs.take j) ∧ Hid (Below w.heap.size w wr)) (fun s _ => n - (intOf s).toNat)
    case atStart => exact ⟨0, Nat.zero_le _, rfl, HM0, HC0, HB0⟩
    case round =>
      obtain ⟨k, hk, rfl, hM, hC, hb⟩ := hrel
      by_cases h1 : k < n
      · have t1 : decide ((k : Int) < (n : Int)) = true := by simp; omega
        have hI0 : (0 : Int) ≤ (k : Int) := by omega
        have hI1 : (k : Int) < (n : Nat) := by omega
        obtain ⟨x, hx⟩ : ∃ x, xs[k]? = some x := ⟨_, List.getElem?_eq_getElem (by rw [← HN.out]; exact h1)⟩
        obtain ⟨ad, rfl, hal, c0⟩ := (HR.out.below hb.out) k x hx
        have HX := Lib.hid hx
        have hxm := List.mem_of_getElem? hx
        have hnl := HN.out
        by_cases hx0 : x < 0
        · have HF : Hid (r = false) := by show _ = _; rw [← HRR.out]; exact rightP_out hxm (by omega)
          have d2 : decide (x < 0) = true := by simpa using hx0
          clear hx hxm hnl
          go_wp2_with fail
          go_ret
          exact ⟨by rw [HF.out]; rfl, hb.out⟩
        · have d2 : decide (x < 0) = false := by simpa using hx0
          by_cases hx1 : (n : Int) ≤ x
          · have HF : Hid (r = false) := by show _ = _; rw [← HRR.out]; exact rightP_out hxm (by omega)
            have d3 : decide ((n : Int) ≤ x) = true := by simpa using hx1
            clear hx hxm hnl
            go_wp2_with fail
            go_ret
            exact ⟨by rw [HF.out]; rfl, hb.out⟩
          · obtain ⟨v, rfl⟩ := Int.eq_ofNat_of_zero_le (show 0 ≤ x by omega)
            have hv200 : v < 200 := by omega
            have hv0 : (0 : Int) ≤ (v : Int) := by omega
            have hv1 : (v : Int) < 200 := by omega
            have d3 : decide ((n : Int) ≤ (v : Int)) = false := by rw [decide_eq_false_iff_not]; exact hx1
            have d4 : decide (n ≤ v) = false := by rw [decide_eq_false_iff_not]; omega
            have c1 : wr.cell? ⟨w.heap.size, v, none⟩ = some (.bool (decide ((v : Int) ∈ xs.take k))) := by
              rw [cell_of hM.out]
              simp [bs, marks_at hv200]
            have c2 : wr.frozen? ⟨w.heap.size, v, none⟩ = false := free_of hM.out v
            by_cases hin : (v : Int) ∈ xs.take k
            · have HF : Hid (r = false) := by show _ = _; rw [← HRR.out]; exact rightP_twice hx hin
              rw [decide_eq_true hin] at c1
              clear hx hxm hnl hin
              go_wp2_with fail
              go_ret
              exact ⟨by rw [HF.out]; rfl, hb.out⟩
            · rw [decide_eq_false hin] at c1
              have HM1 : Hid ((wr.setCell ⟨w.heap.size, v, none⟩ (.bool true)).heap[w.heap.size]? = some (.cells (bs (marks 200 xs (k + 1))).toArray 104 (0, 0))) := by
                show _ = _
                rw [Go.Joins.block_setCell hM.out, ← marks_step hx]
                simp [bs, List.map_set]
              have HB1 := Lib.hid (hb.out.setCell (p := ⟨w.heap.size, v, none⟩) (Nat.le_refl _) (.bool true))
              have HC1 : Hid (∀ (j : Nat) (x : Int), j < k + 1 → xs[j]? = some x → 0 ≤ x ∧ x < xs.length ∧ x ∉ xs.take j) := fun j x hj hjx => by
                by_cases e : j = k
                · subst e
                  rw [hx] at hjx
                  injection hjx with hjx
                  subst hjx
                  exact ⟨by omega, by omega, hin⟩
                · exact hC.out j x (by omega) hjx
              clear hx hxm hnl hin
              go_wp2_with fail
              go_roundw
              case rel => exact ⟨k + 1, by omega, by go_num, HM1, HC1, HB1⟩
              case measure => simp [intOf]; omega
      · obtain rfl : k = n := by omega
        have t1 : decide ((k : Int) < (k : Int)) = false := by simp
        have HF : Hid (r = true) := by
          show _ = _
          rw [← HRR.out]
          have hnl := HN.out
          exact rightP_all (by omega) (fun j x hj => hC.out j x (by have := (List.getElem?_eq_some_iff.1 hj).1; omega) hj)
        go_wp2_with fail
        go_ret
        exact ⟨by rw [HF.out]; rfl, hb.out⟩
end
section
set_option maxRecDepth 100000
open Go.RowKit

/-- Every block that lay, but for some k from d on, lies as it lay. -/
structure Bar (d k : Nat) (A B : World) : Prop where
  os : B.os = A.os
  tape : B.tape = A.tape
  output : B.output = A.output
  size : A.heap.size ≤ B.heap.size
  same : ∀ b, b < A.heap.size → (b < d ∨ d + k ≤ b) → B.heap[b]? = A.heap[b]?
theorem Bar.refl (d k : Nat) (A : World) : Bar d k A A := ⟨rfl, rfl, rfl, Nat.le_refl _, fun _ _ _ => rfl⟩
theorem Bar.trans {d k : Nat} {A B C : World} (h : Bar d k A B) (g : Bar d k B C) : Bar d k A C :=
  ⟨g.os.trans h.os, g.tape.trans h.tape, g.output.trans h.output, Nat.le_trans h.size g.size, fun b hb hd => (g.same b (Nat.lt_of_lt_of_le hb h.size) hd).trans (h.same b hb hd)⟩
theorem Bar.wide {d k d' k' : Nat} {A B : World} (h : Bar d k A B) (h1 : d' ≤ d) (h2 : d + k ≤ d' + k') : Bar d' k' A B :=
  ⟨h.os, h.tape, h.output, h.size, fun b hb hd => h.same b hb (by omega)⟩
theorem Bar.of_below {d k : Nat} {A B : World} (h : Below A.heap.size A B) : Bar d k A B := ⟨h.os, h.tape, h.output, h.size, fun b hb _ => h.block b hb⟩
theorem Bar.put {d k l : Nat} (A : World) (o : Obj) (h1 : d ≤ l) (h2 : l < d + k) : Bar d k A (A.putObj l o) :=
  ⟨rfl, rfl, rfl, by simp, fun b _ hd => World.putObj_heap_other (by omega)⟩
theorem Bar.below {d k n : Nat} {A B : World} (h : Bar d k A B) (h1 : n ≤ d) (h2 : n ≤ A.heap.size) : Below n A B :=
  ⟨h.os, h.tape, h.output, h.size, fun b hb => h.same b (by omega) (.inl (by omega))⟩
theorem Bar.cell {d k : Nat} {A B : World} (h : Bar d k A B) {p : Addr} (hp : p.block < A.heap.size) (hd : p.block < d ∨ d + k ≤ p.block) : B.cell? p = A.cell? p := by
  unfold World.cell?
  rw [h.same _ hp hd]

structure BarAt (d k n : Nat) (A B : World) : Prop where
  os : B.os = A.os
  tape : B.tape = A.tape
  output : B.output = A.output
  size : A.heap.size ≤ B.heap.size
  same : ∀ b, b < n → (b < d ∨ d + k ≤ b) → B.heap[b]? = A.heap[b]?
theorem Bar.trans' {d k : Nat} {A B C : World} (h : Bar d k A B) (g : BarAt d k A.heap.size B C) : Bar d k A C :=
  ⟨g.os.trans h.os, g.tape.trans h.tape, g.output.trans h.output, Nat.le_trans h.size g.size, fun b hb hd => (g.same b hb hd).trans (h.same b hb hd)⟩
theorem Bar.setCell {d k : Nat} {A B : World} (h : Bar d k A B) {q : Addr} (hq : A.heap.size ≤ q.block ∨ (d ≤ q.block ∧ q.block < d + k)) (v : Value) : Bar d k A (B.setCell q v) :=
  h.trans' ⟨rfl, rfl, rfl, by show B.heap.size ≤ (B.heap.modify _ _).size; rw [Array.size_modify]; exact Nat.le_refl _, fun b hb hd => Below.heap_setCell B q v b (by have := h.size; omega)⟩
theorem Bar.alloc {d k : Nat} {A B : World} (h : Bar d k A B) (o : Obj) : Bar d k A (B.alloc o) := h.trans (Bar.of_below ((Below.refl _ B).alloc (Nat.le_refl _) o))
theorem Bar.grown {d k : Nat} {A B C : World} {row : Option Nat} (h : Bar d k A B) (hg : B.grownBy C row) (hr : ∀ r, row = some r → A.heap.size ≤ r ∨ (d ≤ r ∧ r < d + k)) : Bar d k A C := by
  obtain ⟨g1, g2, g3, g4, g5⟩ := hg
  refine ⟨by rw [← h.os]; assumption, by rw [← h.tape]; assumption, by rw [← h.output]; assumption, Nat.le_trans h.size g4, fun b hb hd => ?_⟩
  rw [g5 b (Nat.lt_of_lt_of_le hb h.size) (fun e => by have := hr b e.symm; omega)]
  exact h.same b hb hd

/-- A fresh row of ints. -/
abbrev RowI (w : World) (base b cap : Nat) (x : List Nat) : Prop := w.ownsRow base 3 1 (.slice (some ⟨b, 0, none⟩) x.length cap) x.length (zs (iz x))

end
section
set_option maxRecDepth 100000
open Go.RowKit Go.Sort

/-- A row of pairs in block b, that may be written. -/
def OwnP (w : World) (b : Nat) (E : List (Int × Int)) : Prop := b < w.heap.size ∧ ∀ (q : Nat) (e : Int × Int), E[q]? = some e → w.cell? ⟨b, q * 2, none⟩ = some (.int .i64 e.1) ∧ w.frozen? ⟨b, q * 2, none⟩ = false ∧ w.cell? ⟨b, q * 2 + 1, none⟩ = some (.int .i64 e.2) ∧ w.frozen? ⟨b, q * 2 + 1, none⟩ = false
theorem OwnP.rd {w : World} {b : Nat} {E : List (Int × Int)} (h : OwnP w b E) : RdP w (some ⟨b, 0, none⟩) E := fun q e hq => by
  obtain ⟨h0, h⟩ := h
  obtain ⟨h1, _, h3, _⟩ := h q e hq
  refine ⟨_, rfl, h0, ?_, ?_⟩
  · rw [add_off]; exact h1
  · rw [add_off]; exact h3
theorem holds_ownP {w : World} {b : Nat} {d : Array (Int × Int)} (h0 : b < w.heap.size) (h : HoldsK encP 2 w b 0 d) : OwnP w b d.toList := ⟨h0, fun q e hq => by
  rw [Array.getElem?_toList] at hq
  obtain ⟨hl, he⟩ := Array.getElem?_eq_some_iff.1 hq
  have e1 : d[q]! = e := by rw [getElem!_pos d q hl, he]
  have c0 := h.cell (i := q) (c := 0) hl (by omega)
  have c1 := h.cell (i := q) (c := 1) hl (by omega)
  rw [e1] at c0 c1
  simp only [Nat.zero_add, Nat.add_zero] at c0 c1
  exact ⟨c0.1, c0.2, c1.1, c1.2⟩⟩
theorem ownP_holds {w : World} {b : Nat} {E : List (Int × Int)} (h : OwnP w b E) : HoldsK encP 2 w b 0 E.toArray := by
  intro j hj
  rw [size_flatK] at hj
  simp only [List.size_toArray] at hj
  rw [get_flatK _ _ _ _ (by simpa using hj)]
  have hl : j / 2 < E.length := by omega
  obtain ⟨h1, h2, h3, h4⟩ := h.2 (j / 2) _ (List.getElem?_eq_getElem hl)
  have e1 : E.toArray[j / 2]! = E[j / 2] := by rw [getElem!_pos E.toArray _ (by simpa using hl)]; simp
  rw [e1]
  rcases Nat.mod_two_eq_zero_or_one j with h5 | h5
  · rw [h5, show (0 : Nat) + j = j / 2 * 2 by omega]
    exact ⟨h1, h2⟩
  · rw [h5, show (0 : Nat) + j = j / 2 * 2 + 1 by omega]
    exact ⟨h3, h4⟩

set_option maxRecDepth 100000 in
set_option maxHeartbeats 4000000 in
theorem sort_pairs (b cap n : Nat) (E : List (Int × Int)) (w : World) (h : OwnP w b E) (hn : n = E.length) (hs : n ≤ 1000000) :
    Calls Try.prog 65 #[.slice (some ⟨b, 0, none⟩) n cap, .func (.func 38) #[] #[]] w fun e w' =>
      e = .returned (.tuple #[]) ∧ ∃ E' : List (Int × Int), E'.Perm E ∧ E'.Pairwise (fun x y => ltOf cmpP y x = false) ∧ OwnP w' b E' ∧ Bar b 1 w w' := by
  subst hn
  have hcon := AnyQ.slices_SortFunc srt_lays 2 Try.isAgg44 Try.sizeOf44 encP (fun _ => rfl) (fun x v hv => by simp [encP] at hv; rcases hv with rfl | rfl <;> rfl) cmpP cmpP_swo 38 #[] b 0 cap E.toArray w (enters_of Try.func38 (by kernel_rfl) rfl) (cmp_lays b 0 _ w) (ownP_holds h) h.1 (by simp; omega)
  simp only [List.size_toArray] at hcon
  change Calls Try.prog 65 _ _ _ at hcon
  refine hcon.mono ?_
  rintro e w' ⟨rfl, d', m, os, ⟨p1, _, p3⟩, hsort, rfl⟩
  simp only [List.size_toArray] at p1 p3
  have hd : (d'.extract 0 E.length) = d' := by rw [← p1]; simp
  have he : (E.toArray.extract 0 E.length).toList = E := by simp
  rw [hd, he] at p3
  have h1 : HoldsK encP 2 (putRowK encP 2 (Sort.ahead w m) b 0 d') b 0 d' := holdsK_putRowK encP 2 (Sort.ahead w m) b 0 E.toArray d' (holdsK_ahead encP 2 w m b 0 _ (ownP_holds h)) (by simpa using p1)
  have hsz : b < (putRowK encP 2 (Sort.ahead w m) b 0 d').heap.size := by
    have := size_putRow id (Sort.ahead w m) b 0 (flatK encP 2 d')
    show b < (putRow id (Sort.ahead w m) b 0 (flatK encP 2 d')).heap.size
    rw [this]
    exact h.1
  have h2 := holdsK_grow encP 2 _ os b 0 d' hsz h1
  refine ⟨rfl, d'.toList, p3, ?_, holds_ownP (by show b < (_ ++ os).size; rw [Array.size_append]; omega) h2, ?_⟩
  · rw [List.pairwise_iff_getElem]
    intro i j hi hj hij
    have := hsort i j (Nat.zero_le _) hij (by simp at hj ⊢; omega)
    simp at hi hj
    rw [getElem!_pos d' j hj, getElem!_pos d' i hi] at this
    simpa using this
  · refine ⟨rfl, rfl, rfl, ?_, fun k hk hd => ?_⟩
    · show w.heap.size ≤ ((putRow id (Sort.ahead w m) b 0 (flatK encP 2 d')).heap ++ os).size
      rw [Array.size_append, size_putRow]
      exact Nat.le_add_right _ _
    · show ((putRow id (Sort.ahead w m) b 0 (flatK encP 2 d')).heap ++ os)[k]? = _
      rw [Array.getElem?_append_left (by rw [size_putRow]; exact hk)]
      show (w.heap.modify b _)[k]? = _
      rw [Array.getElem?_modify, if_neg (by omega)]
end
section
set_option maxRecDepth 100000
open Go.RowKit Go.Maps Go.WideMaps

theorem zeroU (w : World) : (zeroValue 106).run Try.prog w = .ok (.agg #[]) w := by kernel_rfl
/-- A set of pairs in block b, written n times. -/
def SetP (w : World) (b n : Nat) (S : List (Int × Int)) : Prop :=
  ∃ D : DataW Unit, w.ownsMap Try.prog 44 (unitElem (H := Unit)) b n D ∧ ∀ e, inP e → Maps.has D (litP e) = decide (e ∈ S)
theorem SetP.made (w : World) : SetP (w.alloc (.map #[] 0)) w.heap.size 0 [] := ⟨.map [], World.ownsMap_made _ _ _ _, fun _ _ => rfl⟩
theorem SetP.below {w w' : World} {b n : Nat} {S : List (Int × Int)} (h : SetP w b n S) (hb : Below w.heap.size w w') : SetP w' b n S := by
  obtain ⟨D, ⟨es, clock, h1, F, hs, e⟩, h2⟩ := h
  exact ⟨D, ⟨es, clock, (hb.block b (lt_of_block h1)).trans h1, F, hs, e⟩, h2⟩
theorem SetP.lt {w : World} {b n : Nat} {S : List (Int × Int)} (h : SetP w b n S) : b < w.heap.size := by
  obtain ⟨D, h1, _⟩ := h
  exact h1.lt
theorem SetP.set {w : World} {b n : Nat} {S : List (Int × Int)} (h : SetP w b n S) {a : Addr} (ha : b ≠ a.block) (u : Value) : SetP (w.setCell a u) b n S := by
  obtain ⟨D, h1, h2⟩ := h
  exact ⟨D, h1.setCell ha u, h2⟩
theorem SetP.kept {w w' : World} {b n : Nat} {S : List (Int × Int)} {row : Option Nat} (h : SetP w b n S) (hg : w.grownBy w' row) (hne : some b ≠ row) : SetP w' b n S := by
  obtain ⟨D, h1, h2⟩ := h
  exact ⟨D, h1.kept hg hne, h2⟩
theorem SetP.put {w w' : World} {b n : Nat} {S : List (Int × Int)} {D : DataW Unit} (h : w.ownsMap Try.prog 44 (unitElem (H := Unit)) b n D) (h2 : ∀ e, inP e → Maps.has D (litP e) = decide (e ∈ S)) {e : Int × Int} (he : inP e)
    (hr : w'.ownsMap Try.prog 44 (unitElem (H := Unit)) b (n + 1) (D.put (litP e) (.agg []))) : SetP w' b (n + 1) (S ++ [e]) := by
  refine ⟨_, hr, fun f hf => ?_⟩
  by_cases e1 : f = e
  · subst e1
    rw [has_put_same h.isMap (by trivial)]
    simp
  · rw [has_put_other (fun e2 => e1 (litP_inj hf he e2)), h2 f hf]
    simp [e1]
/-- 'met[e] = struct{}{}' at the operation. -/
theorem wpList_putP (w : World) {ops : Array Oper} {rest : List Oper} {o : Oper} {a : Act} {Q : Exit → Act → World → Prop}
    (hg : o.guard = none) (m x v : Operand) (hop : o.op = Op.mapUpdate 105 m x v) (b n : Nat) (S : List (Int × Int))
    (hm : a.eval m = .map (some b)) (hown : SetP w b n S) (hn : n < 1000000000) (e : Int × Int) (hx : a.eval x = vP e) (hv : a.eval v = .agg #[]) (he : inP e)
    (hK : ∀ w', SetP w' b (n + 1) (S ++ [e]) → w.grownBy w' (some b) → wpList Try.prog ops Q rest (a.put o.dst undef) w') :
    wpList Try.prog ops Q (o :: rest) a w := by
  obtain ⟨D, h1, h2⟩ := hown
  exact wpList_mapUpdate_own w hg m x v 105 hop 44 106 lawP Try.underlying105 _ b n D hm h1 (by unfold maxLen; omega) _ _ _ hx hv (keyP he) (.agg []) [] unitElem_mk
    (fun w' h3 h4 => hK w' (SetP.put h1 h2 he h3) h4)
/-- '_, twice := met[e]' at the operation. -/
theorem wpList_lookP (w : World) {ops : Array Oper} {rest : List Oper} {o : Oper} {a : Act} {Q : Exit → Act → World → Prop}
    (hg : o.guard = none) (m x : Operand) (hop : o.op = Op.lookup 105 m x true) (b n : Nat) (S : List (Int × Int))
    (hm : a.eval m = .map (some b)) (hown : SetP w b n S) (e : Int × Int) (hx : a.eval x = vP e) (he : inP e)
    (hK : wpList Try.prog ops Q rest (a.put o.dst (.tuple #[.agg #[], .bool (decide (e ∈ S))])) w) :
    wpList Try.prog ops Q (o :: rest) a w := by
  obtain ⟨D, h1, h2⟩ := hown
  refine wpList_lookup_own_unit w hg m x 105 hop 44 106 lawP Try.underlying105 (zeroU w) b n D hm h1 _ _ hx (keyP he) ?_
  rw [h2 e he]
  exact hK
end
section
set_option maxRecDepth 100000
open Go.RowKit
theorem own_cellsX {w : World} {base size n k : Nat} {e : TypeId} {v : Value} {xs : List Value} (h : w.ownsRow base e size v n xs) (hk : v.ownBlock = some k) : ∃ cur, w.heap[k]? = some (.cells cur e (0, 0)) := by
  obtain ⟨_, h0 | ⟨g', cap, cur, ev, _, h2, _⟩⟩ := h
  · rw [h0.1] at hk; cases hk
  · rw [ev] at hk
    have : g' = k := by simpa [Value.ownBlock] using hk
    subst this
    exact ⟨cur, h2⟩

def nrm (e : Int × Int) : Int × Int := if e.2 < e.1 then (e.2, e.1) else e
/-- Edges that make a graph of n vertices. -/
structure Edges (n : Nat) (L : List (Int × Int)) : Prop where
  many : L.length ≤ 594
  few : n ≤ 200
  lt : ∀ e ∈ L, (0 ≤ e.1 ∧ e.1 < n) ∧ (0 ≤ e.2 ∧ e.2 < n) ∧ e.1 ≠ e.2
  nod : (L.map nrm).Nodup
theorem Edges.norm {n : Nat} {L : List (Int × Int)} (h : Edges n L) {e : Int × Int} (he : e ∈ L) : 0 ≤ (nrm e).1 ∧ (nrm e).1 < (nrm e).2 ∧ (nrm e).2 < n := by
  have := h.lt e he
  unfold nrm
  split <;> omega
/-- What lies between two rounds of New. -/
structure NewI (w0 : World) (n : Nat) (k : Nat) (S : List (Int × Int)) (kr : Nat) (Sr : List (Int × Int)) (V : Value) (A : World) : Prop where
  below : Below w0.heap.size w0 A
  size : w0.heap.size + 3 ≤ A.heap.size
  res : A.heap[w0.heap.size]? = some (.cells #[.int .i64 0, .slice none 0 0] 24 (0, 0))
  set : SetP A (w0.heap.size + 1) k S
  box : A.heap[w0.heap.size + 2]? = some (.cells #[.int .i64 (n : Nat), V] 24 (0, 0))
  row : A.ownsRow (w0.heap.size + 3) 44 2 V kr (pcells Sr)
theorem NewI.on {w0 A B : World} {n k kr : Nat} {S Sr : List (Int × Int)} {V : Value} (h : NewI w0 n k S kr Sr V A) (hb : Below A.heap.size A B) : NewI w0 n k S kr Sr V B :=
  ⟨next_below h.below hb, Nat.le_trans h.size hb.size, blk_below h.res hb, h.set.below hb, blk_below h.box hb, row_below h.row hb⟩
theorem NewI.met {w0 A B : World} {n k k' kr : Nat} {S S' Sr : List (Int × Int)} {V : Value} (h : NewI w0 n k S kr Sr V A) (hs : SetP B (w0.heap.size + 1) k' S') (hg : A.grownBy B (some (w0.heap.size + 1))) : NewI w0 n k' S' kr Sr V B :=
  ⟨h.below.grown hg h.below.size (fun k e => by injection e with e; omega), Nat.le_trans h.size hg.size, (hg.block _ (lt_of_block h.res) (fun e => by injection e with e; omega)).trans h.res, hs,
    (hg.block _ (lt_of_block h.box) (fun e => by injection e with e; omega)).trans h.box, h.row.kept hg (.inr (fun e => by have := (h.row.lt _ e).1; omega))⟩
theorem NewI.push {w0 A B : World} {n k kr kr' : Nat} {S Sr Sr' : List (Int × Int)} {V V' : Value} (h : NewI w0 n k S kr Sr V A) (hr : B.ownsRow (w0.heap.size + 3) 44 2 V' kr' (pcells Sr')) (hg : A.grownBy B V.ownBlock) :
    B.cell? ⟨w0.heap.size + 2, 1, none⟩ = some V ∧ B.frozen? ⟨w0.heap.size + 2, 1, none⟩ = false ∧ NewI w0 n k S kr' Sr' V' (B.setCell ⟨w0.heap.size + 2, 1, none⟩ V') := by
  have hlow : ∀ j, V.ownBlock = some j → w0.heap.size + 3 ≤ j := fun j e => (h.row.lt j e).1
  have hbox : B.heap[w0.heap.size + 2]? = some (.cells #[.int .i64 (n : Nat), V] 24 (0, 0)) := (hg.block _ (lt_of_block h.box) (fun e => by have := hlow _ e.symm; omega)).trans h.box
  have hset := h.set.kept hg (fun e => by have := hlow _ e.symm; omega)
  have hb : Below w0.heap.size w0 B := h.below.grown hg h.below.size (fun k e => by have := hlow k e; omega)
  refine ⟨cell_of hbox 1, free_of hbox 1, ⟨hb.setCell (p := ⟨w0.heap.size + 2, 1, none⟩) (by show w0.heap.size ≤ w0.heap.size + 2; omega) _, ?_, ?_, ?_, ?_, ?_⟩⟩
  · have := hg.size; have := h.size; show _ ≤ (B.setCell _ _).heap.size; simp; omega
  · rw [Below.heap_setCell _ _ _ _ (by show w0.heap.size ≠ w0.heap.size + 2; omega)]
    exact (hg.block _ (lt_of_block h.res) (fun e => by have := hlow _ e.symm; omega)).trans h.res
  · exact hset.set (by show w0.heap.size + 1 ≠ w0.heap.size + 2; omega) _
  · rw [Go.Joins.block_setCell hbox]; rfl
  · exact ownsRow_setCell_below hr (by show w0.heap.size + 2 < _; omega) _
theorem ownP_of {w : World} {base g cap n : Nat} {E : List (Int × Int)} (h : w.ownsRow base 44 2 (.slice (some ⟨g, 0, none⟩) n cap) n (pcells E)) : OwnP w g E := by
  refine ⟨(h.lt g rfl).2, fun q e hq => ?_⟩
  obtain ⟨h0, h1⟩ := pcells_at E q e hq
  have c0 := h.cells rfl _ _ h0
  have c1 := h.cells rfl _ _ h1
  rw [add_off] at c0 c1
  obtain ⟨cur, hcur⟩ := own_cellsX h (k := g) rfl
  exact ⟨c0, free_of hcur _, c1, free_of hcur _⟩
theorem OwnP.set {w : World} {b : Nat} {E : List (Int × Int)} (h : OwnP w b E) {a : Addr} (ha : b ≠ a.block) (u : Value) : OwnP (w.setCell a u) b E := by
  refine ⟨by show b < (w.setCell _ _).heap.size; simp; exact h.1, fun q e hq => ?_⟩
  obtain ⟨h1, h2, h3, h4⟩ := h.2 q e hq
  refine ⟨(World.cell?_setCell_far _ _ _ _ (fun e => ha e.symm)).trans h1, by rw [World.frozen?_setCell]; exact h2, (World.cell?_setCell_far _ _ _ _ (fun e => ha e.symm)).trans h3, by rw [World.frozen?_setCell]; exact h4⟩
theorem Bar.below' {w0 A B : World} {g k : Nat} (h : Bar g k A B) (hb : Below w0.heap.size w0 A) (hg : w0.heap.size + 3 ≤ g) : Below w0.heap.size w0 B :=
  ⟨h.os.trans hb.os, h.tape.trans hb.tape, h.output.trans hb.output, Nat.le_trans hb.size h.size, fun i hi => (h.same i (by have := hb.size; omega) (.inl (by omega))).trans (hb.block i hi)⟩
theorem new_after {w0 A B : World} {n k kr g : Nat} {S Sr : List (Int × Int)} {V : Value} (h : NewI w0 n k S kr Sr V A) (hg : w0.heap.size + 3 ≤ g) (hb : Bar g 1 A B) :
    B.cell? ⟨w0.heap.size + 2, 0, none⟩ = some (.int .i64 (n : Nat)) ∧ B.cell? ⟨w0.heap.size + 2, 1, none⟩ = some V ∧ B.cell? ⟨w0.heap.size, 0, none⟩ = some (.int .i64 0) ∧ B.cell? ⟨w0.heap.size, 1, none⟩ = some (.slice none 0 0) ∧
      B.frozen? ⟨w0.heap.size, 0, none⟩ = false ∧ B.frozen? ⟨w0.heap.size, 1, none⟩ = false := by
  have h1 := (hb.same (w0.heap.size + 2) (by have := h.size; omega) (.inl (by omega))).trans h.box
  have h2 := (hb.same w0.heap.size (by have := h.size; omega) (.inl (by omega))).trans h.res
  exact ⟨cell_of h1 0, cell_of h1 1, cell_of h2 0, cell_of h2 1, free_of h2 0, free_of h2 1⟩
theorem rightG_sorted {n : Nat} {L E : List (Int × Int)} (h : Edges n L) (hp : E.Perm (L.map nrm)) (hs : E.Pairwise (fun x y => Go.Proofs.ltOf cmpP y x = false)) : rightG (n : Nat) E = true := by
  have hnod : E.Nodup := hp.nodup_iff.2 h.nod
  have hmem : ∀ e ∈ E, 0 ≤ e.1 ∧ e.1 < e.2 ∧ e.2 < n := fun e he => by
    obtain ⟨f, hf, rfl⟩ := List.mem_map.1 (hp.mem_iff.1 he)
    exact h.norm hf
  refine rightG_yes ⟨by omega, by have := h.few; omega, ?_⟩ (fun k hk => ?_)
  · rw [hp.length_eq, List.length_map]; exact h.many
  · unfold okE edgeG
    have e1 : E.getD k (0, 0) = E[k] := by simp [List.getD, hk]
    have hm := hmem _ (List.getElem_mem hk)
    rw [e1, Bool.and_eq_true, Bool.or_eq_true, decide_eq_true_iff, decide_eq_true_iff]
    refine ⟨hm, ?_⟩
    by_cases hk0 : k = 0
    · left; simp [hk0]
    · right
      have hk1 : k - 1 < E.length := by omega
      have e2 : E.getD (k - 1) (0, 0) = E[k - 1] := by simp [List.getD, hk1]
      rw [e2]
      have h3 := List.pairwise_iff_getElem.1 hs (k - 1) k hk1 hk (by omega)
      have h4 : E[k - 1] ≠ E[k] := fun e => by
        have := (List.getElem_inj hnod).1 e
        omega
      rw [cmpP_lt, decide_eq_false_iff_not] at h3
      have h5 : E[k - 1].1 < E[k].1 ∨ (E[k - 1].1 = E[k].1 ∧ E[k - 1].2 < E[k].2) := by
        apply Classical.byContradiction
        intro h6
        apply h4
        exact Prod.ext (by omega) (by omega)
      have h7 := cmpP_lt E[k - 1] E[k]
      unfold Go.Proofs.ltOf at h7
      rw [decide_eq_true h5] at h7
      exact of_decide_eq_true h7
theorem RdP.below' {w w' : World} {A : Option Addr} {E : List (Int × Int)} (h : RdP w A E) (hb : Below w.heap.size w w') : RdP w' A E := h.below hb
theorem pcells_push (S : List (Int × Int)) (e : Int × Int) : pcells (S ++ [e]) = pcells S ++ [.int .i64 e.1, .int .i64 e.2] := by simp [pcells, zv]

theorem row_cap3 {w : World} {base n c size : Nat} {B : Option Addr} {e : TypeId} {cs : List Value} (h : w.ownsRow base e size (.slice B n c) n cs) : n ≤ c ∧ c ≤ 9223372036854775807 := by
  obtain ⟨_, ⟨h0, h1⟩ | ⟨g, cap, cur, ev, _, _, h3, h4, _⟩⟩ := h
  · injection h0 with _ _ e
    omega
  · injection ev with _ _ e
    unfold maxLen at h4
    omega
set_option maxRecDepth 100000 in
set_option maxHeartbeats 8000000 in
theorem new_yesC (A0 : Option Addr) (c m n : Nat) (L : List (Int × Int)) (w : World) (hr : RdP w A0 L) (hm : m = L.length) (hE : Edges n L) :
    Calls Try.prog 51 #[.int .i64 (n : Nat), .slice A0 m c] w fun e w' => ∃ (B : Option Addr) (c' : Nat) (E : List (Int × Int)), e = .returned (.tuple #[.agg #[.int .i64 (n : Nat), .slice B m c'], .int .i64 0]) ∧ E.Perm (L.map nrm) ∧ rightG (n : Nat) E = true ∧ RdP w' B E ∧ (∀ ad, B = some ad → w.heap.size ≤ ad.block) ∧ (m ≤ c' ∧ c' ≤ 9223372036854775807) ∧ Below w.heap.size w w' := by
  have HA := Lib.hid hr
  have HE := Lib.hid hE
  have HM := Lib.hid hm
  have hn1 := hE.few
  have hm1 := hE.many
  rw [← hm] at hm1
  have hmm := @run_makeMap Try.prog
  have g1 : decide ((200 : Int) < (n : Int)) = false := by rw [decide_eq_false_iff_not]; omega
  have g2 : decide ((594 : Int) < (m : Int)) = false := by rw [decide_eq_false_iff_not]; omega
  have g3 : decide ((n : Int) < 0) = false := by rw [decide_eq_false_iff_not]; omega
  have g4 : decide (200 < n) = false := by rw [decide_eq_false_iff_not]; omega
  have g5 : decide (594 < m) = false := by rw [decide_eq_false_iff_not]; omega
  clear hr hE hm
  have hb3 : Below w.heap.size w (((w.alloc (.cells #[.int .i64 0, .slice none 0 0] 24)).alloc (.map #[] 0)).alloc (.cells #[.int .i64 (n : Nat), .slice none 0 0] 24)) :=
    (((Below.refl _ _).alloc (Nat.le_refl _) _).alloc (by simp) _).alloc (by simp; omega) _
  have HI0 : Hid (NewI w n 0 ((L.take 0).map nrm) 0 ((L.take 0).map nrm) (.slice none 0 0) (((w.alloc (.cells #[.int .i64 0, .slice none 0 0] 24)).alloc (.map #[] 0)).alloc (.cells #[.int .i64 (n : Nat), .slice none 0 0] 24))) := by
    refine ⟨hb3, by simp, ?_, ?_, ?_, World.ownsRow_nil _ _ _ _⟩
    · rw [heap_alloc_old _ _ (by simp; omega), heap_alloc_old _ _ (by simp)]
      exact heap_alloc_new w _
    · have h1 := SetP.made (w.alloc (.cells #[.int .i64 0, .slice none 0 0] 24))
      have h2 := h1.below ((Below.refl _ _).alloc (Nat.le_refl _) (.cells #[.int .i64 (n : Nat), .slice none 0 0] 24))
      simpa using h2
    · have h1 := heap_alloc_new ((w.alloc (.cells #[.int .i64 0, .slice none 0 0] 24)).alloc (.map #[] 0)) (.cells #[.int .i64 (n : Nat), .slice none 0 0] 24)
      simpa using h1
  obtain ⟨i0, hi0, hz0, hz1, hz2⟩ := info_partsI pairinfo
  clear hb3
  go_enter Try.func51, Try.ntmps51
  go_wp2_with fail
  clear hmm
  go_loopw [28] (fun s wr => ∃ (k : Nat) (V : Value), k ≤ m ∧ s = .int .i64 k ∧ Hid (NewI w n k ((L.take k).map nrm) k ((L.take k).map nrm) V wr)) (fun s _ => m - (intOf s).toNat)
  case atStart => exact ⟨0, _, Nat.zero_le _, rfl, HI0⟩
  case round =>
    obtain ⟨k, V, hk, rfl, hI⟩ := hrel
    by_cases h1 : k < m
    · have t1 : decide ((k : Int) < (m : Int)) = true := by simp; omega
      have hk0 : (0 : Int) ≤ (k : Int) := by omega
      have hk1 : (k : Int) < (m : Nat) := by omega
      obtain ⟨e, he⟩ : ∃ e, L[k]? = some e := ⟨_, List.getElem?_eq_getElem (by rw [← HM.out]; exact h1)⟩
      obtain ⟨ad, rfl, hal, c0, c1⟩ := (HA.out.below' hI.out.below) k e he
      obtain ⟨a, b⟩ := e
      have hlt := HE.out.lt (a, b) (List.mem_of_getElem? he)
      have hnod := HE.out.nod
      simp only at c0 c1 hlt
      by_cases h2 : b < a
      · have t2 : decide (b < a) = true := by simpa using h2
        obtain ⟨x, hx⟩ : ∃ x, x = b := ⟨_, rfl⟩
        obtain ⟨y, hy⟩ : ∃ y, y = a := ⟨_, rfl⟩
        have hnrm : nrm (a, b) = (x, y) := by rw [hx, hy]; simp [nrm, h2]
        obtain ⟨Wc, hWc⟩ : ∃ Wc, Wc = wr.alloc (.cells #[.int .i64 x, .int .i64 y] 44) := ⟨_, rfl⟩
        have hWB : Wc.heap[wr.heap.size]? = some (.cells #[.int .i64 x, .int .i64 y] 44 (0, 0)) := by rw [hWc]; exact heap_alloc_new wr _
        have hWb : Below wr.heap.size wr Wc := by rw [hWc]; exact (Below.refl _ _).alloc (Nat.le_refl _) _
        have hxy : 0 ≤ x ∧ x < y ∧ y < n := by omega
        have htake : (L.take (k + 1)).map nrm = (L.take k).map nrm ++ [(x, y)] := by rw [List.take_add_one, he]; simp [hnrm]
        have hmem : decide ((x, y) ∈ (L.take k).map nrm) = false := by
          rw [decide_eq_false_iff_not]
          intro hin
          have h5 : ((L.take (k + 1)).map nrm).Nodup := by rw [List.map_take]; exact hnod.sublist (List.take_sublist _ _)
          rw [htake] at h5
          exact (List.nodup_append.1 h5).2.2 _ hin _ (List.mem_singleton.2 rfl) rfl
        clear hnod he hlt hnrm
        subst hx; subst hy
        have hWS : wr.heap.size < Wc.heap.size := by have := lt_of_block hWB; exact this
        have HI := Lib.hid (hI.out.on hWb)
        have HWB := Lib.hid hWB
        obtain ⟨Wd, hWd⟩ : ∃ Wd, Wd = Wc.alloc (.cells #[] 106) := ⟨_, rfl⟩
        have hbd : Below Wc.heap.size Wc Wd := by rw [hWd]; exact (Below.refl _ _).alloc (Nat.le_refl _) _
        have HID := Lib.hid (HI.out.on hbd)
        obtain ⟨d0, d1, _, _⟩ := cells_two (w := Wd) (blk_below hWB hbd)
        rw [hWd] at d0 d1
        have hex : decide ((x, y) ∈ (L.take k).map nrm) = false := hmem
        have HN6 : Hid (∀ w6, SetP w6 (w.heap.size + 1) (k + 1) ((L.take k).map nrm ++ [(x, y)]) → Wd.grownBy w6 (some (w.heap.size + 1)) → Hid (NewI w n (k + 1) ((L.take k).map nrm ++ [(x, y)]) k ((L.take k).map nrm) V w6) ∧ w6.cell? ⟨wr.heap.size, 0, none⟩ = some (.int .i64 x) ∧ w6.cell? ⟨wr.heap.size, 1, none⟩ = some (.int .i64 y) ∧ w6.cell? ⟨w.heap.size + 2, 1, none⟩ = some V) := fun w6 hs hg => by
          have h6 := HID.out.met hs hg
          have hb6 := (hg.block wr.heap.size (Nat.lt_of_lt_of_le hWS hbd.size) (fun e => by injection e with e; have := hI.out.size; omega)).trans (blk_below HWB.out hbd)
          obtain ⟨e0, e1, _, _⟩ := cells_two (w := w6) hb6
          exact ⟨h6, e0, e1, cell_of h6.box 1⟩
        have HN7 : Hid (∀ w6 w7 V', NewI w n (k + 1) ((L.take k).map nrm ++ [(x, y)]) k ((L.take k).map nrm) V w6 → w7.ownsRow (w.heap.size + 3) 44 2 V' (k + 1) (pcells ((L.take k).map nrm) ++ [.int .i64 x, .int .i64 y]) → (w6.alloc (.cells #[.int .i64 x, .int .i64 y] 44)).grownBy w7 V.ownBlock →
            w7.cell? ⟨w.heap.size + 2, 1, none⟩ = some V ∧ w7.frozen? ⟨w.heap.size + 2, 1, none⟩ = false ∧ Hid (NewI w n (k + 1) ((L.take k).map nrm ++ [(x, y)]) (k + 1) ((L.take k).map nrm ++ [(x, y)]) V' (w7.setCell ⟨w.heap.size + 2, 1, none⟩ V'))) := fun w6 w7 V' h6 hr hg => by
          rw [← pcells_push _ (x, y)] at hr
          exact (h6.on ((Below.refl _ _).alloc (Nat.le_refl _) _)).push hr hg
        have HAP : Hid (∀ (w6 : World) (j : Nat) (u : Value), [Value.int .i64 x, .int .i64 y][j]? = some u → (w6.alloc (.cells #[.int .i64 x, .int .i64 y] 44)).cell? ((⟨w6.heap.size, 0, none⟩ : Addr).add j) = some u) := fun w6 j u hj => by
          rw [← hj, add_off, World.cell?_alloc_at _ _ _ _ rfl]
          simp
        have HWC := Lib.hid hWc
        have HWD := Lib.hid hWd
        have HT : Hid ((L.take (k + 1)).map nrm = (L.take k).map nrm ++ [(x, y)]) := htake
        have hinp : inP (x, y) := ⟨⟨by omega, by omega⟩, by omega, by omega⟩
        have t3 : decide (x < 0) = false := by rw [decide_eq_false_iff_not]; omega
        have t4 : (x == y) = false := by simp; omega
        have t5 : decide ((n : Int) ≤ y) = false := by rw [decide_eq_false_iff_not]; omega
        clear hWc hWd hWB hWb hI htake hmem hbd
        go_wp2_with (first
          | (at_lookup; rw [← HWC.out]; refine wpList_lookP _ rfl _ _ rfl (w.heap.size + 1) k _ rfl HI.out.set (x, y) rfl hinp ?_; rw [hex])
          | (at_mapUpdate; rw [← HWD.out]; refine wpList_putP _ rfl _ _ _ rfl (w.heap.size + 1) k _ rfl HID.out.set (by omega) (x, y) rfl rfl hinp ?_; intro w6 hs6 hg6; obtain ⟨HI6, e0, e1, e2⟩ := HN6.out w6 hs6 hg6)
          | (at_builtin; refine wpList_append_lies _ rfl (.tmp 73) (.tmp 75) 22 rfl (w.heap.size + 3) 44 i0 (.agg #[.int .i64 0, .int .i64 0]) 2 16 Try.underlying22 hi0 hz0 hz1 hz2 rfl (by decide) V k (pcells ((L.take k).map nrm)) rfl (HI6.out.row.alloc _) ⟨w6.heap.size, 0, none⟩ 1 1 [.int .i64 x, .int .i64 y] (by simp [Act.eval]) rfl (HAP.out w6) (by simp [Value.oneCell']) (by omega) (by simp [maxLen]; omega) (by omega) (by have := HI6.out.size; simp; omega) (w6.heap.size + 1) (by simp) ?_; intro g7 c7 w7 hr7 hg7 _ _; obtain ⟨f0, f1, HI7⟩ := HN7.out w6 w7 _ HI6.out hr7 hg7))
        go_roundw
        case rel => exact ⟨k + 1, _, by omega, by go_num, by rw [HT.out]; exact HI7⟩
        case measure => simp [intOf]; omega
      · have t2 : decide (b < a) = false := by simpa using h2
        obtain ⟨x, hx⟩ : ∃ x, x = a := ⟨_, rfl⟩
        obtain ⟨y, hy⟩ : ∃ y, y = b := ⟨_, rfl⟩
        have hnrm : nrm (a, b) = (x, y) := by rw [hx, hy]; simp [nrm, h2]
        subst hx; subst hy
        obtain ⟨Wc, hWc⟩ : ∃ Wc, Wc = wr.alloc (.cells #[.int .i64 x, .int .i64 y] 44) := ⟨_, rfl⟩
        have hWB : Wc.heap[wr.heap.size]? = some (.cells #[.int .i64 x, .int .i64 y] 44 (0, 0)) := by rw [hWc]; exact heap_alloc_new wr _
        have hWb : Below wr.heap.size wr Wc := by rw [hWc]; exact (Below.refl _ _).alloc (Nat.le_refl _) _
        have hxy : 0 ≤ x ∧ x < y ∧ y < n := by omega
        have htake : (L.take (k + 1)).map nrm = (L.take k).map nrm ++ [(x, y)] := by rw [List.take_add_one, he]; simp [hnrm]
        have hmem : decide ((x, y) ∈ (L.take k).map nrm) = false := by
          rw [decide_eq_false_iff_not]
          intro hin
          have h5 : ((L.take (k + 1)).map nrm).Nodup := by rw [List.map_take]; exact hnod.sublist (List.take_sublist _ _)
          rw [htake] at h5
          exact (List.nodup_append.1 h5).2.2 _ hin _ (List.mem_singleton.2 rfl) rfl
        clear hnod he hlt hnrm
        have hWS : wr.heap.size < Wc.heap.size := by have := lt_of_block hWB; exact this
        have HI := Lib.hid (hI.out.on hWb)
        have HWB := Lib.hid hWB
        obtain ⟨Wd, hWd⟩ : ∃ Wd, Wd = Wc.alloc (.cells #[] 106) := ⟨_, rfl⟩
        have hbd : Below Wc.heap.size Wc Wd := by rw [hWd]; exact (Below.refl _ _).alloc (Nat.le_refl _) _
        have HID := Lib.hid (HI.out.on hbd)
        obtain ⟨d0, d1, _, _⟩ := cells_two (w := Wd) (blk_below hWB hbd)
        rw [hWd] at d0 d1
        have hex : decide ((x, y) ∈ (L.take k).map nrm) = false := hmem
        have HN6 : Hid (∀ w6, SetP w6 (w.heap.size + 1) (k + 1) ((L.take k).map nrm ++ [(x, y)]) → Wd.grownBy w6 (some (w.heap.size + 1)) → Hid (NewI w n (k + 1) ((L.take k).map nrm ++ [(x, y)]) k ((L.take k).map nrm) V w6) ∧ w6.cell? ⟨wr.heap.size, 0, none⟩ = some (.int .i64 x) ∧ w6.cell? ⟨wr.heap.size, 1, none⟩ = some (.int .i64 y) ∧ w6.cell? ⟨w.heap.size + 2, 1, none⟩ = some V) := fun w6 hs hg => by
          have h6 := HID.out.met hs hg
          have hb6 := (hg.block wr.heap.size (Nat.lt_of_lt_of_le hWS hbd.size) (fun e => by injection e with e; have := hI.out.size; omega)).trans (blk_below HWB.out hbd)
          obtain ⟨e0, e1, _, _⟩ := cells_two (w := w6) hb6
          exact ⟨h6, e0, e1, cell_of h6.box 1⟩
        have HN7 : Hid (∀ w6 w7 V', NewI w n (k + 1) ((L.take k).map nrm ++ [(x, y)]) k ((L.take k).map nrm) V w6 → w7.ownsRow (w.heap.size + 3) 44 2 V' (k + 1) (pcells ((L.take k).map nrm) ++ [.int .i64 x, .int .i64 y]) → (w6.alloc (.cells #[.int .i64 x, .int .i64 y] 44)).grownBy w7 V.ownBlock →
            w7.cell? ⟨w.heap.size + 2, 1, none⟩ = some V ∧ w7.frozen? ⟨w.heap.size + 2, 1, none⟩ = false ∧ Hid (NewI w n (k + 1) ((L.take k).map nrm ++ [(x, y)]) (k + 1) ((L.take k).map nrm ++ [(x, y)]) V' (w7.setCell ⟨w.heap.size + 2, 1, none⟩ V'))) := fun w6 w7 V' h6 hr hg => by
          rw [← pcells_push _ (x, y)] at hr
          exact (h6.on ((Below.refl _ _).alloc (Nat.le_refl _) _)).push hr hg
        have HAP : Hid (∀ (w6 : World) (j : Nat) (u : Value), [Value.int .i64 x, .int .i64 y][j]? = some u → (w6.alloc (.cells #[.int .i64 x, .int .i64 y] 44)).cell? ((⟨w6.heap.size, 0, none⟩ : Addr).add j) = some u) := fun w6 j u hj => by
          rw [← hj, add_off, World.cell?_alloc_at _ _ _ _ rfl]
          simp
        have HWC := Lib.hid hWc
        have HWD := Lib.hid hWd
        have HT : Hid ((L.take (k + 1)).map nrm = (L.take k).map nrm ++ [(x, y)]) := htake
        have hinp : inP (x, y) := ⟨⟨by omega, by omega⟩, by omega, by omega⟩
        have t3 : decide (x < 0) = false := by rw [decide_eq_false_iff_not]; omega
        have t4 : (x == y) = false := by simp; omega
        have t5 : decide ((n : Int) ≤ y) = false := by rw [decide_eq_false_iff_not]; omega
        clear hWc hWd hWB hWb hI htake hmem hbd
        go_wp2_with (first
          | (at_lookup; rw [← HWC.out]; refine wpList_lookP _ rfl _ _ rfl (w.heap.size + 1) k _ rfl HI.out.set (x, y) rfl hinp ?_; rw [hex])
          | (at_mapUpdate; rw [← HWD.out]; refine wpList_putP _ rfl _ _ _ rfl (w.heap.size + 1) k _ rfl HID.out.set (by omega) (x, y) rfl rfl hinp ?_; intro w6 hs6 hg6; obtain ⟨HI6, e0, e1, e2⟩ := HN6.out w6 hs6 hg6)
          | (at_builtin; refine wpList_append_lies _ rfl (.tmp 73) (.tmp 75) 22 rfl (w.heap.size + 3) 44 i0 (.agg #[.int .i64 0, .int .i64 0]) 2 16 Try.underlying22 hi0 hz0 hz1 hz2 rfl (by decide) V k (pcells ((L.take k).map nrm)) rfl (HI6.out.row.alloc _) ⟨w6.heap.size, 0, none⟩ 1 1 [.int .i64 x, .int .i64 y] (by simp [Act.eval]) rfl (HAP.out w6) (by simp [Value.oneCell']) (by omega) (by simp [maxLen]; omega) (by omega) (by have := HI6.out.size; simp; omega) (w6.heap.size + 1) (by simp) ?_; intro g7 c7 w7 hr7 hg7 _ _; obtain ⟨f0, f1, HI7⟩ := HN7.out w6 w7 _ HI6.out hr7 hg7))
        go_roundw
        case rel => exact ⟨k + 1, _, by omega, by go_num, by rw [HT.out]; exact HI7⟩
        case measure => simp [intOf]; omega
    · obtain rfl : k = m := by omega
      have t1 : decide ((k : Int) < (k : Int)) = false := by simp
      have htk : L.take k = L := List.take_of_length_le (by rw [HM.out]; exact Nat.le_refl _)
      rw [htk] at hI
      have cb0 := cell_of hI.out.box 0
      have cb1 := cell_of hI.out.box 1
      clear htk
      rcases Joins.ownsRow_forms hI.out.row with ⟨rfl, hk0⟩ | ⟨g, cap, rfl⟩
      · have HS : Hid (∀ W : World, Calls Try.prog 65 #[.slice none 0 0, .func (.func 38) #[] #[]] W fun e w' => e = .returned (.tuple #[]) ∧ w' = W) := fun W => AnyF.slices_SortFunc_none srt_lays none 0 (.func (.func 38) #[] #[]) W
        have hr0 := cell_of hI.out.res 0
        have hr1 := cell_of hI.out.res 1
        have hf0 := free_of hI.out.res 0
        have hf1 := free_of hI.out.res 1
        have HLN : Hid (L = []) := List.length_eq_zero_iff.1 (by have := HM.out; omega)
        subst hk0
        go_wp2_with (first | (go_at_call 65; refine (HS.out _).mono ?_; rintro e wn ⟨rfl, rfl⟩))
        have q0 := World.cell?_setCell_same' wn ⟨w.heap.size, 0, none⟩ (.int .i64 (n : Nat)) (by rw [hr0]; rfl)
        have q1 := World.cell?_setCell_same' (wn.setCell ⟨w.heap.size, 0, none⟩ (.int .i64 (n : Nat))) ⟨w.heap.size, 1, none⟩ (.slice none 0 0) (by rw [World.cell?_setCell_other _ _ _ _ (by simp), hr1]; rfl)
        refine bodyPost_ret (by rw [results_cell_tmp rfl]; simp [go_sem, q0, q1, Result.andThen] <;> rfl) rfl ?_
        refine ⟨none, 0, [], rfl, ?_, rightG_yes ⟨by omega, by omega, by simp⟩ (fun k hk => by simp at hk), fun q e hq => by simp at hq, (fun ad e => by cases e), ⟨Nat.le_refl _, by omega⟩, ?_⟩
        · rw [HLN.out]; exact List.Perm.refl _
        · exact (hI.out.below.setCell (p := ⟨w.heap.size, 0, none⟩) (Nat.le_refl _) _).setCell (p := ⟨w.heap.size, 1, none⟩) (Nat.le_refl _) _
      · obtain ⟨hg1, hg2⟩ := hI.out.row.lt g rfl
        have HCAP := Lib.hid (row_cap3 hI.out.row)
        have hown := ownP_of hI.out.row
        have HSORT : Hid (∀ W : World, W = wr → Calls Try.prog 65 #[.slice (some ⟨g, 0, none⟩) k cap, .func (.func 38) #[] #[]] W fun e w' => e = .returned (.tuple #[]) ∧ ∃ E' : List (Int × Int), E'.Perm (L.map nrm) ∧ E'.Pairwise (fun x y => Go.Proofs.ltOf cmpP y x = false) ∧ OwnP w' g E' ∧ Bar g 1 W w') := fun W e => by
          rw [e]
          exact sort_pairs g cap k (L.map nrm) wr hown (by rw [List.length_map]; exact HM.out) (by omega)
        clear hown
        go_wp2_with (first | (go_at_call 65; refine (HSORT.out _ rfl).mono ?_; rintro e w5 ⟨rfl, E', hp5, hs5, ho5, hb5⟩; obtain ⟨b0, b1, r0, r1, r2, r3⟩ := new_after hI.out hg1 hb5))
        have q0 := World.cell?_setCell_same' w5 ⟨w.heap.size, 0, none⟩ (.int .i64 (n : Nat)) (by rw [r0]; rfl)
        have q1 := World.cell?_setCell_same' (w5.setCell ⟨w.heap.size, 0, none⟩ (.int .i64 (n : Nat))) ⟨w.heap.size, 1, none⟩ (.slice (some ⟨g, 0, none⟩) k cap) (by rw [World.cell?_setCell_other _ _ _ _ (by simp), r1]; rfl)
        refine bodyPost_ret (by rw [results_cell_tmp rfl]; simp [go_sem, q0, q1, Result.andThen] <;> rfl) rfl ?_
        refine ⟨some ⟨g, 0, none⟩, cap, E', rfl, hp5, rightG_sorted HE.out hp5 hs5, ?_, (fun ad e => by injection e with e; subst e; show w.heap.size ≤ g; omega), HCAP.out, ?_⟩
        · exact ((ho5.set (by show g ≠ w.heap.size; omega) _).set (by show g ≠ w.heap.size; omega) _).rd
        · exact ((hb5.below' hI.out.below hg1).setCell (p := ⟨w.heap.size, 0, none⟩) (Nat.le_refl _) _).setCell (p := ⟨w.heap.size, 1, none⟩) (Nat.le_refl _) _
theorem new_yes (A0 : Option Addr) (c m n : Nat) (L : List (Int × Int)) (w : World) (hr : RdP w A0 L) (hm : m = L.length) (hE : Edges n L) :
    Calls Try.prog 51 #[.int .i64 (n : Nat), .slice A0 m c] w fun e w' => ∃ (B : Option Addr) (c' : Nat) (E : List (Int × Int)), e = .returned (.tuple #[.agg #[.int .i64 (n : Nat), .slice B m c'], .int .i64 0]) ∧ E.Perm (L.map nrm) ∧ rightG (n : Nat) E = true ∧ RdP w' B E ∧ (∀ ad, B = some ad → w.heap.size ≤ ad.block) ∧ Below w.heap.size w w' := by
  refine (new_yesC A0 c m n L w hr hm hE).mono ?_
  rintro e w' ⟨B, c', E, h1, h2, h3, h4, h5, _, h6⟩
  exact ⟨B, c', E, h1, h2, h3, h4, h5, h6⟩
end
section
set_option maxRecDepth 100000
open Go.RowKit

theorem nod_le : ∀ (n : Nat) (l : List Nat), l.Nodup → (∀ x ∈ l, x < n) → l.length ≤ n
  | 0, [], _, _ => Nat.le_refl _
  | 0, a :: l, _, h => by have := h a (List.mem_cons_self ..); omega
  | n + 1, l, hn, h => by
    by_cases hm : n ∈ l
    · have h1 := nod_le n (l.erase n) (hn.erase n) (fun x hx => by
        rw [hn.mem_erase_iff] at hx
        have := h x hx.2
        have := hx.1
        omega)
      rw [List.length_erase_of_mem hm] at h1
      omega
    · have h1 := nod_le n l hn (fun x hx => by
        have := h x hx
        have : x ≠ n := fun e => by rw [e] at hx; exact hm hx
        omega)
      omega
theorem Perm.mem {n v : Nat} {p : List Nat} (h : Perm n p) (hv : v < n) : v ∈ p := by
  apply Classical.byContradiction
  intro hm
  have := nod_le n (v :: p) (List.nodup_cons.2 ⟨hm, h.nod⟩) (fun x hx => by
    rcases List.mem_cons.1 hx with e | e
    · rw [e]; exact hv
    · exact h.lt x e)
  rw [List.length_cons, h.len] at this
  omega
def compP (p q : List Nat) : List Nat := (List.range p.length).map fun i => gn q (gn p i)
def invP (p : List Nat) : List Nat := (List.range p.length).map fun v => p.idxOf v
theorem compP_length (p q : List Nat) : (compP p q).length = p.length := by simp [compP]
theorem invP_length (p : List Nat) : (invP p).length = p.length := by simp [invP]
theorem gn_map {f : Nat → Nat} {n i : Nat} (h : i < n) : gn ((List.range n).map f) i = f i := by simp [gn, List.getD, h]
theorem gn_comp {p q : List Nat} {i : Nat} (h : i < p.length) : gn (compP p q) i = gn q (gn p i) := gn_map h
theorem gn_range {n i : Nat} (h : i < n) : gn (List.range n) i = i := by simp [gn, List.getD, h]
theorem gn_inv {n i : Nat} {p : List Nat} (h : Perm n p) (hi : i < n) : gn (invP p) (gn p i) = i := by
  have hl : gn p i < p.length := by rw [h.len]; exact h.gn_lt hi
  unfold invP
  rw [gn_map hl]
  have h1 := gn_at (p := p) (i := i) (by rw [h.len]; exact hi)
  obtain ⟨a1, a2⟩ := List.getElem?_eq_some_iff.1 h1
  have hm : gn p i ∈ p := List.mem_of_getElem? h1
  have h2 : p.idxOf (gn p i) < p.length := List.idxOf_lt_length_iff.2 hm
  have h3 := List.getElem_idxOf h2
  exact (List.getElem_inj h.nod).1 (h3.trans a2.symm)
theorem gn_inv2 {n v : Nat} {p : List Nat} (h : Perm n p) (hv : v < n) : gn p (gn (invP p) v) = v ∧ gn (invP p) v < n := by
  obtain ⟨i, hi⟩ := List.getElem?_of_mem (h.mem hv)
  have hil := (List.getElem?_eq_some_iff.1 hi).1
  rw [h.len] at hil
  have e : gn p i = v := by simp [gn, List.getD, hi]
  rw [← e, gn_inv h hil]
  exact ⟨rfl, hil⟩
/-- Lists of as many that say the same are one. -/
theorem gn_ext {p q : List Nat} (hl : p.length = q.length) (h : ∀ i, i < p.length → gn p i = gn q i) : p = q := by
  apply List.ext_getElem?
  intro i
  by_cases hi : i < p.length
  · rw [gn_at hi, gn_at (by omega), h i hi]
  · rw [List.getElem?_eq_none (by omega), List.getElem?_eq_none (by omega)]
theorem perm_of {n : Nat} {p : List Nat} (hl : p.length = n) (hlt : ∀ i, i < n → gn p i < n) (hin : ∀ i j, i < n → j < n → gn p i = gn p j → i = j) : Perm n p := by
  refine ⟨hl, fun v hv => ?_, ?_⟩
  · obtain ⟨i, hi⟩ := List.getElem?_of_mem hv
    have hil := (List.getElem?_eq_some_iff.1 hi).1
    have e : gn p i = v := by simp [gn, List.getD, hi]
    rw [← e]
    exact hlt i (by omega)
  · rw [List.Nodup, List.pairwise_iff_getElem]
    intro i j hi hj hij e
    have h1 : gn p i = p[i] := by simp [gn, List.getD, hi]
    have h2 : gn p j = p[j] := by simp [gn, List.getD, hj]
    have := hin i j (by omega) (by omega) (by rw [h1, h2, e])
    omega
theorem Perm.comp {n : Nat} {p q : List Nat} (h : Perm n p) (k : Perm n q) : Perm n (compP p q) := by
  have hl : (compP p q).length = n := by rw [compP_length, h.len]
  refine perm_of hl (fun i hi => ?_) (fun i j hi hj e => ?_)
  · rw [gn_comp (by rw [h.len]; exact hi)]
    exact k.gn_lt (h.gn_lt hi)
  · rw [gn_comp (by rw [h.len]; exact hi), gn_comp (by rw [h.len]; exact hj)] at e
    exact h.inj hi hj (k.inj (h.gn_lt hi) (h.gn_lt hj) e)
theorem Perm.inv {n : Nat} {p : List Nat} (h : Perm n p) : Perm n (invP p) := by
  refine perm_of (by rw [invP_length, h.len]) (fun i hi => (gn_inv2 h hi).2) (fun i j hi hj e => ?_)
  have h1 := (gn_inv2 h hi).1
  have h2 := (gn_inv2 h hj).1
  rw [e, h2] at h1
  exact h1.symm
theorem perm_range (n : Nat) : Perm n (List.range n) := ⟨List.length_range, fun v hv => List.mem_range.1 hv, List.nodup_range⟩
/-- A row that is filled from the first place on. -/
def fillN (n k : Nat) (f : Nat → Nat) : List Int := (List.range n).map fun i => if i < k then ((f i : Nat) : Int) else 0
theorem fillN_length (n k : Nat) (f : Nat → Nat) : (fillN n k f).length = n := by simp [fillN]
theorem fillN_zero (n : Nat) (f : Nat → Nat) : fillN n 0 f = List.replicate n 0 := by
  apply List.ext_getElem?
  intro i
  by_cases h : i < n
  · simp [fillN, h, List.getElem?_replicate]
  · rw [List.getElem?_eq_none (by rw [fillN_length]; omega), List.getElem?_eq_none (by rw [List.length_replicate]; omega)]
theorem fillN_step {n k : Nat} (f : Nat → Nat) (h : k < n) : (fillN n k f).set k ((f k : Nat) : Int) = fillN n (k + 1) f := by
  apply List.ext_getElem?
  intro i
  by_cases hi : i < n
  · by_cases e : i = k
    · subst e
      rw [List.getElem?_set_self (by rw [fillN_length]; exact h)]
      simp [fillN, hi]
    · rw [List.getElem?_set_ne (fun e2 => e e2.symm)]
      have h1 : (i < k + 1) ↔ i < k := by omega
      simp [fillN, hi, h1]
  · rw [List.getElem?_eq_none (by rw [List.length_set, fillN_length]; omega), List.getElem?_eq_none (by rw [fillN_length]; omega)]
theorem fillN_all (n : Nat) (f : Nat → Nat) : fillN n n f = iz ((List.range n).map f) := by
  unfold fillN iz
  rw [List.map_map]
  apply List.map_congr_left
  intro i hi
  rw [if_pos (List.mem_range.1 hi)]
  rfl
theorem make_ints (n : Nat) (hn : n ≤ 1000000) (w : World) : (Instr.makeSlice 41 (.int .i64 n) (.int .i64 n)).run Try.prog w = .ok (.slice (some ⟨w.heap.size, 0, none⟩) n n) (w.alloc (.cells (zs (List.replicate n 0)).toArray 3)) := by
  obtain ⟨i2, hi2, hx0, hx1, hx2⟩ := info_partsI i64info
  have hr := run_make (P := Try.prog) w 41 3 i2 (.int .i64 0) Try.underlying41 hi2 hx0 .i64 .i64 n n (by omega) (by omega) (by rw [hx2]; omega) (by omega)
  rw [hx1, Nat.mul_one] at hr
  rw [hr]
  congr 3
  apply Array.ext'
  show (madeCells #[Value.int .i64 0] n).toList = _
  rw [toList_madeCells_one]
  simp [zs, zv]
theorem OwnZ.set {w : World} {B v : Nat} {ds : List Int} (h : OwnZ w B ds) (x : Int) : OwnZ (w.setCell ⟨B, v, none⟩ (.int .i64 x)) B (ds.set v x) := by
  show _ = _
  rw [Go.Joins.block_setCell h]
  simp [zs, zv, List.map_set]
theorem OwnZ.at_ {w : World} {B v : Nat} {x : Int} {ds : List Int} (h : OwnZ w B ds) (hx : ds[v]? = some x) : w.cell? ⟨B, v, none⟩ = some (.int .i64 x) := by
  rw [cell_of h]
  simp [zs, zv, hx]

theorem perm_right {n : Nat} {p : List Nat} (h : Perm n p) (hn : n ≤ 200) : rightP (iz p) = true := by
  obtain ⟨rfl, h2, h3⟩ := h
  exact rightP_iff.2 ⟨p, rfl, ⟨rfl, h2, h3⟩, hn⟩
theorem izl {n : Nat} {p : List Nat} (h : Perm n p) : n = (iz p).length := by rw [iz_length, h.len]

end
section
set_option maxRecDepth 100000
open Go.RowKit

theorem make_pairs (n : Nat) (hn : n ≤ 1000000) (w : World) : (Instr.makeSlice 22 (.int .i64 n) (.int .i64 n)).run Try.prog w = .ok (.slice (some ⟨w.heap.size, 0, none⟩) n n) (w.alloc (.cells (pcells (List.replicate n (0, 0))).toArray 44)) := by
  obtain ⟨i2, hi2, hx0, hx1, hx2⟩ := info_partsI pairinfo
  have hr := run_make (P := Try.prog) w 22 44 i2 (.agg #[.int .i64 0, .int .i64 0]) Try.underlying22 hi2 hx0 .i64 .i64 n n (by omega) (by omega) (by rw [hx2]; omega) (by omega)
  rw [hx1] at hr
  rw [hr]
  congr 3
  apply Array.ext'
  apply List.ext_getElem?
  intro i
  have hz : ∀ q, (#[Value.int .i64 0, Value.int .i64 0] : Array Value)[q % 2]! = .int .i64 0 := fun q => by
    rcases Nat.mod_two_eq_zero_or_one q with h | h <;> rw [h] <;> rfl
  by_cases hi : i < n * 2
  · have h1 : (madeCells #[Value.int .i64 0, Value.int .i64 0] (n * 2)).toList[i]? = some (.int .i64 0) := by
      rw [Array.getElem?_toList]
      unfold madeCells
      rw [Array.getElem?_map, Array.getElem?_range, if_pos hi]
      show some _ = _
      exact congrArg some (hz i)
    have h2 : (pcells (List.replicate n (0, 0)))[i]? = some (.int .i64 0) := by
      obtain ⟨u, hu⟩ : ∃ u, (pcells (List.replicate n ((0 : Int), (0 : Int))))[i]? = some u := ⟨_, List.getElem?_eq_getElem (by rw [pcells_length, List.length_replicate]; exact hi)⟩
      obtain ⟨q, e, hq, h⟩ := pcells_split hu
      have he : e = (0, 0) := (List.mem_replicate.1 (List.mem_of_getElem? hq)).2
      subst he
      rw [hu]
      rcases h with ⟨_, rfl⟩ | ⟨_, rfl⟩ <;> rfl
    exact h1.trans h2.symm
  · rw [List.getElem?_eq_none (by rw [Array.length_toList, size_madeCells]; omega)]
    show none = (pcells (List.replicate n (0, 0)))[i]?
    rw [List.getElem?_eq_none (by rw [pcells_length, List.length_replicate]; omega)]
theorem RdP.far {w : World} {B : Option Addr} {F : List (Int × Int)} (h : RdP w B F) {a : Addr} (ha : ∀ ad, B = some ad → ad.block ≠ a.block) (u : Value) : RdP (w.setCell a u) B F := fun q e hq => by
  obtain ⟨ad, e0, h1, h2, h3⟩ := h q e hq
  have hne := ha ad e0
  refine ⟨ad, e0, by show ad.block < (w.setCell _ _).heap.size; simp; exact h1, (World.cell?_setCell_far _ _ _ _ (by rw [block_add]; exact fun e => hne e.symm)).trans h2, (World.cell?_setCell_far _ _ _ _ (by show _ ≠ (ad.add (q * 2)).block; rw [block_add]; exact fun e => hne e.symm)).trans h3⟩
/-- A row of pairs in a block. -/
def RowP (w : World) (B : Nat) (F : List (Int × Int)) : Prop := w.heap[B]? = some (.cells (pcells F).toArray 44 (0, 0))
theorem RowP.rd {w : World} {B : Nat} {F : List (Int × Int)} (h : RowP w B F) : RdP w (some ⟨B, 0, none⟩) F := fun q e hq => by
  obtain ⟨h0, h1⟩ := pcells_at F q e hq
  refine ⟨_, rfl, lt_of_block h, ?_, ?_⟩
  · rw [add_off, cell_of h]; simpa [zv] using h0
  · rw [add_off]; rw [cell_of h]; simpa [zv] using h1
theorem pcells_set : ∀ (F : List (Int × Int)) (k : Nat) (e : Int × Int), k < F.length → ((pcells F).set (k * 2) (.int .i64 e.1)).set (k * 2 + 1) (.int .i64 e.2) = pcells (F.set k e)
  | x :: F, 0, e, _ => rfl
  | x :: F, k + 1, e, h => by
    have ih := pcells_set F k e (by simpa using h)
    rw [show (k + 1) * 2 = k * 2 + 2 by omega]
    show zv x.1 :: zv x.2 :: ((pcells F).set (k * 2) _).set (k * 2 + 1) _ = zv x.1 :: zv x.2 :: pcells (F.set k e)
    rw [ih]
theorem RowP.set {w : World} {B k : Nat} {F : List (Int × Int)} (h : RowP w B F) (hk : k < F.length) (e : Int × Int) : RowP ((w.setCell ⟨B, k * 2, none⟩ (.int .i64 e.1)).setCell ⟨B, k * 2 + 1, none⟩ (.int .i64 e.2)) B (F.set k e) := by
  show _ = _
  rw [Go.Joins.block_setCell (Go.Joins.block_setCell h _), ← pcells_set F k e hk]
  simp
def fillP (E : List (Int × Int)) (f : Int × Int → Int × Int) (k : Nat) : List (Int × Int) := (List.range E.length).map fun i => if i < k then f (E.getD i (0, 0)) else (0, 0)
theorem fillP_length (E : List (Int × Int)) (f : Int × Int → Int × Int) (k : Nat) : (fillP E f k).length = E.length := by simp [fillP]
theorem fillP_zero (E : List (Int × Int)) (f : Int × Int → Int × Int) : fillP E f 0 = List.replicate E.length (0, 0) := by
  apply List.ext_getElem?
  intro i
  by_cases hi : i < E.length
  · simp [fillP, hi]
  · rw [List.getElem?_eq_none (by rw [fillP_length]; omega), List.getElem?_eq_none (by rw [List.length_replicate]; omega)]
theorem fillP_step {E : List (Int × Int)} (f : Int × Int → Int × Int) {k : Nat} {e : Int × Int} (he : E[k]? = some e) : (fillP E f k).set k (f e) = fillP E f (k + 1) := by
  have hk := (List.getElem?_eq_some_iff.1 he).1
  apply List.ext_getElem?
  intro i
  by_cases hi : i < E.length
  · by_cases e1 : i = k
    · subst e1
      rw [List.getElem?_set_self (by rw [fillP_length]; exact hk)]
      obtain ⟨_, e2⟩ := List.getElem?_eq_some_iff.1 he
      simp [fillP, hi, e2]
    · rw [List.getElem?_set_ne (fun e2 => e1 e2.symm)]
      have h1 : (i < k + 1) ↔ i < k := by omega
      simp [fillP, hi, h1]
  · rw [List.getElem?_eq_none (by rw [List.length_set, fillP_length]; omega), List.getElem?_eq_none (by rw [fillP_length]; omega)]
theorem fillP_all (E : List (Int × Int)) (f : Int × Int → Int × Int) : fillP E f E.length = E.map f := by
  apply List.ext_getElem?
  intro i
  by_cases hi : i < E.length
  · simp [fillP, hi, List.getD]
  · rw [List.getElem?_eq_none (by rw [fillP_length]; omega), List.getElem?_eq_none (by simp; omega)]
/-- Where an edge is taken. -/
def edP (p : List Nat) (e : Int × Int) : Int × Int := (((gn p e.1.toNat : Nat) : Int), ((gn p e.2.toNat : Nat) : Int))
theorem nrm_two {a b c d : Nat} (h : nrm ((a : Int), (b : Int)) = nrm ((c : Int), (d : Int))) : (a = c ∧ b = d) ∨ (a = d ∧ b = c) := by
  unfold nrm at h
  by_cases c1 : (b : Int) < a <;> by_cases c2 : (d : Int) < c <;> simp only [c1, c2, if_true, if_false, Prod.mk.injEq] at h <;> omega
theorem edges_of {n : Nat} {p : List Nat} {E : List (Int × Int)} (hp : Perm n p) (hg : rightG (n : Nat) E = true) : Edges n (E.map (edP p)) := by
  obtain ⟨h1, h2, h3⟩ := rightG_bounds hg
  have hE : ∀ e ∈ E, 0 ≤ e.1 ∧ e.1 < e.2 ∧ e.2 < n := fun e he => by
    obtain ⟨k, hk⟩ := List.getElem?_of_mem he
    exact rightG_edge hg hk
  refine ⟨by rw [List.length_map]; exact h3, by omega, fun f hf => ?_, ?_⟩
  · obtain ⟨e, he, rfl⟩ := List.mem_map.1 hf
    obtain ⟨a1, a2, a3⟩ := hE e he
    have l1 := hp.gn_lt (i := e.1.toNat) (by omega)
    have l2 := hp.gn_lt (i := e.2.toNat) (by omega)
    refine ⟨⟨by unfold edP; simp, by unfold edP; simp; omega⟩, ⟨by unfold edP; simp, by unfold edP; simp; omega⟩, fun h => ?_⟩
    unfold edP at h
    have := hp.inj (i := e.1.toNat) (j := e.2.toNat) (by omega) (by omega) (by simp only at h; omega)
    omega
  · have ho := rightG_ord hg
    rw [List.map_map, List.Nodup, List.pairwise_map, List.pairwise_iff_getElem]
    intro i j hi hj hij h
    obtain ⟨a1, a2, a3⟩ := hE _ (List.getElem_mem hi)
    obtain ⟨b1, b2, b3⟩ := hE _ (List.getElem_mem hj)
    have hlt := ho i j hij hj
    have e1 : E.getD i (0, 0) = E[i] := by simp [List.getD, hi]
    have e2 : E.getD j (0, 0) = E[j] := by simp [List.getD, hj]
    rw [e1, e2] at hlt
    generalize E[i] = e at *
    generalize E[j] = f at *
    have inj := fun (u v : Nat) hu hv => hp.inj (i := u) (j := v) hu hv
    have key : (e.1 = f.1 ∧ e.2 = f.2) ∨ (e.1 = f.2 ∧ e.2 = f.1) := by
      have i11 := inj e.1.toNat f.1.toNat (by omega) (by omega)
      have i12 := inj e.1.toNat f.2.toNat (by omega) (by omega)
      have i21 := inj e.2.toNat f.1.toNat (by omega) (by omega)
      have i22 := inj e.2.toNat f.2.toNat (by omega) (by omega)
      rcases nrm_two (show nrm (edP p e) = nrm (edP p f) from h) with ⟨h4, h5⟩ | ⟨h4, h5⟩
      · have := i11 h4; have := i22 h5; left; omega
      · have := i12 h4; have := i21 h5; right; omega
    rcases key with ⟨k1, k2⟩ | ⟨k1, k2⟩
    · have : e = f := Prod.ext k1 k2
      subst this
      have h6 := cmpP_lt e e
      unfold Go.Proofs.ltOf at h6
      rw [decide_eq_true hlt] at h6
      have := of_decide_eq_true h6.symm
      omega
    · omega

set_option maxRecDepth 100000 in
set_option maxHeartbeats 8000000 in
theorem apply_yesC (A0 A1 : Option Addr) (c d m n : Nat) (E : List (Int × Int)) (p : List Nat) (w : World) (hr : RdP w A0 E) (hs : RdZ w A1 (iz p)) (hm : m = E.length) (hg : rightG (n : Nat) E = true) (hp : Perm n p) :
    Calls Try.prog 26 #[.agg #[.int .i64 (n : Nat), .slice A0 m c], .slice A1 n d] w fun e w' => ∃ (B : Option Addr) (c' : Nat) (F : List (Int × Int)), e = .returned (.tuple #[.agg #[.int .i64 (n : Nat), .slice B m c'], .int .i64 0]) ∧ F.Perm ((E.map (edP p)).map nrm) ∧ rightG (n : Nat) F = true ∧ RdP w' B F ∧ (∀ ad, B = some ad → w.heap.size ≤ ad.block) ∧ (m ≤ c' ∧ c' ≤ 9223372036854775807) ∧ Below w.heap.size w w' := by
  obtain ⟨hn0, hn200, hm594⟩ := rightG_bounds hg
  have hn : n ≤ 200 := by omega
  obtain ⟨W, hW⟩ : ∃ W, W = (w.alloc (.cells #[.int .i64 (n : Nat), .slice A0 m c] 24)).alloc (.cells #[.int .i64 0, .slice none 0 0] 24) := ⟨_, rfl⟩
  have hbW : Below w.heap.size w W := by rw [hW]; exact ((Below.refl _ _).alloc (Nat.le_refl _) _).alloc (by simp) _
  have hWS : W.heap.size = w.heap.size + 2 := by rw [hW]; simp
  have HW0 : Hid (W.heap[w.heap.size]? = some (.cells #[.int .i64 (n : Nat), .slice A0 m c] 24 (0, 0))) := by
    show _ = _
    rw [hW, heap_alloc_old _ _ (by simp)]
    exact heap_alloc_new w _
  have HW1 : Hid (W.heap[w.heap.size + 1]? = some (.cells #[.int .i64 0, .slice none 0 0] 24 (0, 0))) := by
    show _ = _
    rw [hW]
    have h1 := heap_alloc_new (w.alloc (.cells #[.int .i64 (n : Nat), .slice A0 m c] 24)) (.cells #[.int .i64 0, .slice none 0 0] 24)
    simpa using h1
  obtain ⟨j0, j1, _, _⟩ := cells_two (w := W) HW0.out
  have HRG := Lib.hid (right_any A0 c m (n : Nat) E W (hr.below hbW) hm)
  have HRP := Lib.hid (perm_right hp hn)
  have HA := Lib.hid (hr.below hbW)
  have HB := Lib.hid (hs.below hbW)
  have HP := Lib.hid hp
  have HM := Lib.hid hm
  have HG := Lib.hid hg
  have HED := Lib.hid (edges_of hp hg)
  have HW := Lib.hid hW
  have HBW := Lib.hid hbW
  have HWS := Lib.hid hWS
  have hm2 : m ≤ 594 := by omega
  have hmk := fun w' => make_pairs m (by omega) w'
  have g1 : ((n : Int) != (n : Int)) = false := by simp
  clear hr hs hm hg hp hW hbW hWS
  go_enter Try.func26, Try.ntmps26
  go_wp2_with fail
  rw [← HW.out]
  refine HRG.out.mono ?_
  rintro e w1 ⟨rfl, hb1⟩
  rw [HG.out]
  have HB1 := Lib.hid hb1
  obtain ⟨k0, k1, _, _⟩ := cells_two (w := w1) (blk_below HW0.out hb1)
  clear hb1 j0 j1 hmk
  go_wp2_with fail
  refine (rightP_any A1 d n (iz p) w1 (HB.out.below HB1.out) (izl HP.out) (by omega)).mono ?_
  rintro e w2 ⟨rfl, hb2⟩
  rw [HRP.out]
  have HB2 := Lib.hid (next_below HB1.out hb2)
  obtain ⟨k0, k1, _, _⟩ := cells_two (w := w2) (blk_below HW0.out HB2.out)
  obtain ⟨w3, hw3⟩ : ∃ w3, w3 = w2.alloc (.cells (pcells (List.replicate m (0, 0))).toArray 44) := ⟨_, rfl⟩
  have hb3 : Below w2.heap.size w2 w3 := by rw [hw3]; exact (Below.refl _ _).alloc (Nat.le_refl _) _
  have hmk : (Instr.makeSlice 22 (.int .i64 m) (.int .i64 m)).run Try.prog w2 = .ok (.slice (some ⟨w2.heap.size, 0, none⟩) m m) w3 := by rw [hw3]; exact make_pairs m (by omega) w2
  have HB3 := Lib.hid (next_below HB2.out hb3)
  have HR0 : Hid (RowP w3 w2.heap.size (fillP E (edP p) 0)) := by
    show _ = _
    rw [fillP_zero, ← HM.out, hw3]
    exact heap_alloc_new w2 _
  have hws3 : w2.heap.size < w3.heap.size := by rw [hw3]; simp
  have HL0 := Lib.hid (Below.refl w2.heap.size w3)
  obtain ⟨l0, l1, _, _⟩ := cells_two (w := w3) (blk_below HW0.out HB3.out)
  clear hb2 hb3 hw3
  go_wp2_with fail
  clear hmk k0 k1 l0 l1
  go_loopw [31] (fun s wr => ∃ k : Nat, k ≤ m ∧ s = .int .i64 k ∧ Hid (RowP wr w2.heap.size (fillP E (edP p) k)) ∧ Hid (Below w2.heap.size w3 wr)) (fun s _ => m - (intOf s).toNat)
  case atStart => exact ⟨0, Nat.zero_le _, rfl, HR0, HL0⟩
  case round =>
    obtain ⟨k, hk, rfl, hR, hb⟩ := hrel
    by_cases h1 : k < m
    · have t1 : decide ((k : Int) < (m : Int)) = true := by simp; omega
      have hk0 : (0 : Int) ≤ (k : Int) := by omega
      have hk1 : (k : Int) < (m : Nat) := by omega
      obtain ⟨e, he⟩ : ∃ e, E[k]? = some e := ⟨_, List.getElem?_eq_getElem (by rw [← HM.out]; exact h1)⟩
      obtain ⟨e1, e2, e3⟩ := rightG_edge HG.out he
      have hstep := fillP_step (edP p) he
      have hfl : k < (fillP E (edP p) k).length := by rw [fillP_length, ← HM.out]; exact h1
      obtain ⟨a, ha⟩ := Int.eq_ofNat_of_zero_le e1
      obtain ⟨b, hbb⟩ := Int.eq_ofNat_of_zero_le (show 0 ≤ e.2 by omega)
      obtain ⟨ea, eb⟩ := e
      simp only at ha hbb e1 e2 e3
      subst ha; subst hbb
      have hBE := HB3.out.trans (hb.out.mono HB2.out.size)
      have hBE' := next_below HBW.out hBE
      obtain ⟨adE, rfl, _, c0, c1⟩ := (HA.out.below hBE) k _ he
      obtain ⟨x, hx⟩ : ∃ x, x = gn p a := ⟨_, rfl⟩
      obtain ⟨y, hy⟩ : ∃ y, y = gn p b := ⟨_, rfl⟩
      have hfe : edP p ((a : Int), (b : Int)) = ((x : Int), (y : Int)) := by rw [hx, hy]; simp [edP]
      rw [hfe] at hstep
      obtain ⟨Wb, hWb⟩ : ∃ Wb, Wb = wr.alloc (.cells #[.int .i64 ((a : Nat) : Int), .int .i64 ((b : Nat) : Int)] 44) := ⟨_, rfl⟩
      have hbb : Below wr.heap.size wr Wb := by rw [hWb]; exact (Below.refl _ _).alloc (Nat.le_refl _) _
      have hBB := next_below hBE hbb
      obtain ⟨m0, m1, _, _⟩ := cells_two (w := Wb) (by rw [hWb]; exact heap_alloc_new wr _)
      obtain ⟨ad, rfl, hadl, _⟩ := HB.out a _ (iz_at (by rw [HP.out.len]; omega))
      obtain ⟨ad2, ead2, _, c2⟩ := (HB.out.below hBB) a _ (iz_at (by rw [HP.out.len]; omega))
      injection ead2 with ead2
      subst ead2
      obtain ⟨ad', ead, _, c3⟩ := (HB.out.below hBB) b _ (iz_at (by rw [HP.out.len]; omega))
      injection ead with ead
      subst ead
      rw [← hx] at c2
      rw [← hy] at c3
      have HSB : Hid (Wb.cell? ⟨wr.heap.size, 0, none⟩ = some (.int .i64 ((a : Nat) : Int)) ∧ Wb.cell? ⟨wr.heap.size, 1, none⟩ = some (.int .i64 ((b : Nat) : Int)) ∧ Wb.cell? (ad.add a) = some (.int .i64 ((x : Nat) : Int)) ∧ Wb.cell? (ad.add b) = some (.int .i64 ((y : Nat) : Int))) := ⟨m0, m1, c2, c3⟩
      have hRB := blk_below (show wr.heap[w2.heap.size]? = _ from hR.out) hbb
      obtain ⟨z0, hz0⟩ : ∃ z, (pcells (fillP E (edP p) k))[k * 2]? = some z := ⟨_, List.getElem?_eq_getElem (by rw [pcells_length]; omega)⟩
      obtain ⟨z1, hz1⟩ : ∃ z, (pcells (fillP E (edP p) k))[k * 2 + 1]? = some z := ⟨_, List.getElem?_eq_getElem (by rw [pcells_length]; omega)⟩
      have HFB : Hid (Wb.cell? ⟨w2.heap.size, k * 2, none⟩ = some z0 ∧ Wb.frozen? ⟨w2.heap.size, k * 2, none⟩ = false ∧ Wb.cell? ⟨w2.heap.size, k * 2 + 1, none⟩ = some z1 ∧ Wb.frozen? ⟨w2.heap.size, k * 2 + 1, none⟩ = false) :=
        ⟨by rw [cell_of hRB]; simpa using hz0, free_of hRB _, by rw [cell_of hRB]; simpa using hz1, free_of hRB _⟩
      have hRW : RowP Wb w2.heap.size (fillP E (edP p) k) := hRB
      have hset := hRW.set hfl ((x : Int), (y : Int))
      rw [hstep] at hset
      have HSET := Lib.hid hset
      have hsw := hb.out.size
      have HAD : Hid (ad.block < w2.heap.size) := Nat.lt_of_lt_of_le hadl HB2.out.size
      have HBF : Hid (Below w2.heap.size w3 ((Wb.setCell ⟨w2.heap.size, k * 2, none⟩ (.int .i64 ((x : Nat) : Int))).setCell ⟨w2.heap.size, k * 2 + 1, none⟩ (.int .i64 ((y : Nat) : Int)))) :=
        (((hb.out.trans (hbb.mono (by omega))).setCell (p := ⟨w2.heap.size, k * 2, none⟩) (Nat.le_refl _) _).setCell (p := ⟨w2.heap.size, k * 2 + 1, none⟩) (Nat.le_refl _) _)
      have HWB := Lib.hid hWb
      have ha0 : (0 : Int) ≤ (a : Int) := by omega
      have ha1 : (a : Int) < (n : Nat) := by omega
      have hb0 : (0 : Int) ≤ (b : Int) := by omega
      have hb1 : (b : Int) < (n : Nat) := by omega
      clear hadl hx hy hfe hstep hWb hbb hBB m0 m1 c2 c3 hRB hz0 hz1 hRW hset he e1 e2 hfl hBE hBE'
      go_wp2_with fail
      rw [← HWB.out]
      refine wp_region_held_drew (S := fun wz => wz.cell? ⟨wr.heap.size, 0, none⟩ = some (.int .i64 ((a : Nat) : Int)) ∧ wz.cell? ⟨wr.heap.size, 1, none⟩ = some (.int .i64 ((b : Nat) : Int)) ∧ wz.cell? (ad.add a) = some (.int .i64 ((x : Nat) : Int)) ∧ wz.cell? (ad.add b) = some (.int .i64 ((y : Nat) : Int))) (by kernel_rfl) ⟨HSB.out.1, HSB.out.2.1, HSB.out.2.2.1, HSB.out.2.2.2⟩ (fun hS => ?_)
      refine wpAnyH_take (i := 0) (v := ?_) rfl (by kernel_rfl) (by kernel_rfl) (by kernel_rfl) (fun _ _ _ h => h) (Or.inl ⟨by rfl, ?_⟩) hS ?_
      rotate_left
      · intro wz hSw; (try dsimp only at hSw); go_simp; (try with_reducible rfl)
      try simp only [List.getElem_toArray, List.getElem_cons_zero, List.getElem_cons_succ, Act.put, List.setIfInBounds_toArray, List.set_cons_zero, List.set_cons_succ]
      refine wpAnyH_take (i := 1) (v := ?_) rfl (by kernel_rfl) (by kernel_rfl) (by kernel_rfl) (fun _ _ _ h => h) (Or.inl ⟨by rfl, ?_⟩) hS ?_
      rotate_left
      · intro wz hSw; (try dsimp only at hSw); go_simp; (try with_reducible rfl)
      try simp only [List.getElem_toArray, List.getElem_cons_zero, List.getElem_cons_succ, Act.put, List.setIfInBounds_toArray, List.set_cons_zero, List.set_cons_succ]
      refine wpAnyH_take (i := 2) (v := ?_) rfl (by kernel_rfl) (by kernel_rfl) (by kernel_rfl) (fun _ _ _ h => h) (Or.inl ⟨by rfl, ?_⟩) hS ?_
      rotate_left
      · intro wz hSw; (try dsimp only at hSw); go_simp; (try with_reducible rfl)
      try simp only [List.getElem_toArray, List.getElem_cons_zero, List.getElem_cons_succ, Act.put, List.setIfInBounds_toArray, List.set_cons_zero, List.set_cons_succ]
      refine wpAnyH_take (i := 3) (v := ?_) rfl (by kernel_rfl) (by kernel_rfl) (by kernel_rfl) (fun _ _ _ h => h) (Or.inl ⟨by rfl, ?_⟩) hS ?_
      rotate_left
      · intro wz hSw; (try dsimp only at hSw); go_simp; (try with_reducible rfl)
      try simp only [List.getElem_toArray, List.getElem_cons_zero, List.getElem_cons_succ, Act.put, List.setIfInBounds_toArray, List.set_cons_zero, List.set_cons_succ]
      refine wpAnyH_take (i := 4) (v := ?_) rfl (by kernel_rfl) (by kernel_rfl) (by kernel_rfl) (fun _ _ _ h => h) (Or.inl ⟨by rfl, ?_⟩) hS ?_
      rotate_left
      · intro wz hSw; (try dsimp only at hSw); obtain ⟨q1, q2, q3, q4⟩ := hSw; go_simp; (try with_reducible rfl)
      try simp only [List.getElem_toArray, List.getElem_cons_zero, List.getElem_cons_succ, Act.put, List.setIfInBounds_toArray, List.set_cons_zero, List.set_cons_succ]
      refine wpAnyH_take (i := 5) (v := ?_) rfl (by kernel_rfl) (by kernel_rfl) (by kernel_rfl) (fun _ _ _ h => h) (Or.inl ⟨by rfl, ?_⟩) hS ?_
      rotate_left
      · intro wz hSw; (try dsimp only at hSw); go_simp; (try with_reducible rfl)
      try simp only [List.getElem_toArray, List.getElem_cons_zero, List.getElem_cons_succ, Act.put, List.setIfInBounds_toArray, List.set_cons_zero, List.set_cons_succ]
      refine wpAnyH_take (i := 6) (v := ?_) rfl (by kernel_rfl) (by kernel_rfl) (by kernel_rfl) (fun _ _ _ h => h) (Or.inl ⟨by rfl, ?_⟩) hS ?_
      rotate_left
      · intro wz hSw; (try dsimp only at hSw); obtain ⟨q1, q2, q3, q4⟩ := hSw; go_simp; (try with_reducible rfl)
      try simp only [List.getElem_toArray, List.getElem_cons_zero, List.getElem_cons_succ, Act.put, List.setIfInBounds_toArray, List.set_cons_zero, List.set_cons_succ]
      refine wpAnyH_take (i := 7) (v := ?_) rfl (by kernel_rfl) (by kernel_rfl) (by kernel_rfl) (fun _ _ _ h => h) (Or.inl ⟨by rfl, ?_⟩) hS ?_
      rotate_left
      · intro wz hSw; (try dsimp only at hSw); go_simp; (try with_reducible rfl)
      try simp only [List.getElem_toArray, List.getElem_cons_zero, List.getElem_cons_succ, Act.put, List.setIfInBounds_toArray, List.set_cons_zero, List.set_cons_succ]
      refine wpAnyH_take (i := 8) (v := ?_) rfl (by kernel_rfl) (by kernel_rfl) (by kernel_rfl) (fun _ _ _ h => h) (Or.inl ⟨by rfl, ?_⟩) hS ?_
      rotate_left
      · intro wz hSw; (try dsimp only at hSw); go_simp; (try with_reducible rfl)
      try simp only [List.getElem_toArray, List.getElem_cons_zero, List.getElem_cons_succ, Act.put, List.setIfInBounds_toArray, List.set_cons_zero, List.set_cons_succ]
      refine wpAnyH_take (i := 9) (v := ?_) rfl (by kernel_rfl) (by kernel_rfl) (by kernel_rfl) (fun _ _ _ h => h) (Or.inl ⟨by rfl, ?_⟩) hS ?_
      rotate_left
      · intro wz hSw; (try dsimp only at hSw); obtain ⟨q1, q2, q3, q4⟩ := hSw; go_simp; (try with_reducible rfl)
      try simp only [List.getElem_toArray, List.getElem_cons_zero, List.getElem_cons_succ, Act.put, List.setIfInBounds_toArray, List.set_cons_zero, List.set_cons_succ]
      refine wpAnyH_take (i := 10) (v := ?_) rfl (by kernel_rfl) (by kernel_rfl) (by kernel_rfl) (fun _ _ _ h => h) (Or.inl ⟨by rfl, ?_⟩) hS ?_
      rotate_left
      · intro wz hSw; (try dsimp only at hSw); go_simp; (try with_reducible rfl)
      try simp only [List.getElem_toArray, List.getElem_cons_zero, List.getElem_cons_succ, Act.put, List.setIfInBounds_toArray, List.set_cons_zero, List.set_cons_succ]
      refine wpAnyH_take (i := 11) (v := ?_) rfl (by kernel_rfl) (by kernel_rfl) (by kernel_rfl) (fun _ _ _ h => h) (Or.inl ⟨by rfl, ?_⟩) hS ?_
      rotate_left
      · intro wz hSw; (try dsimp only at hSw); obtain ⟨q1, q2, q3, q4⟩ := hSw; go_simp; (try with_reducible rfl)
      try simp only [List.getElem_toArray, List.getElem_cons_zero, List.getElem_cons_succ, Act.put, List.setIfInBounds_toArray, List.set_cons_zero, List.set_cons_succ]
      refine wpAnyH_take (i := 12) (v := ?_) rfl (by kernel_rfl) (by kernel_rfl) (by kernel_rfl) (fun _ _ _ h => h) (Or.inl ⟨by rfl, ?_⟩) hS ?_
      rotate_left
      · intro wz hSw; (try dsimp only at hSw); go_simp; (try with_reducible rfl)
      try simp only [List.getElem_toArray, List.getElem_cons_zero, List.getElem_cons_succ, Act.put, List.setIfInBounds_toArray, List.set_cons_zero, List.set_cons_succ]
      refine wpAnyH_take (i := 13) (v := ?_) rfl (by kernel_rfl) (by kernel_rfl) (by kernel_rfl) (fun _ _ _ h => h) (Or.inl ⟨by rfl, ?_⟩) hS ?_
      rotate_left
      · intro wz hSw; (try dsimp only at hSw); go_simp; (try with_reducible rfl)
      try simp only [List.getElem_toArray, List.getElem_cons_zero, List.getElem_cons_succ, Act.put, List.setIfInBounds_toArray, List.set_cons_zero, List.set_cons_succ]
      obtain ⟨f0, f1, f2, f3⟩ := HFB.out
      refine wpAnyH_ready (rs := [14]) (by kernel_rfl) (by simp) (AllReadyH.cons rfl (fun K hK => ?_) AllReadyH.nil)
      go_simp
      have hsz : w2.heap.size < wr.heap.size := by omega
      refine hK.out _ _ ⟨?_, ?_, ?_, ?_⟩ (fun _ => ?_)
      · exact ((World.cell?_setCell_far _ _ _ _ (by show w2.heap.size ≠ wr.heap.size; omega)).trans (World.cell?_setCell_far _ _ _ _ (by show w2.heap.size ≠ wr.heap.size; omega))).trans hS.1
      · exact ((World.cell?_setCell_far _ _ _ _ (by show w2.heap.size ≠ wr.heap.size; omega)).trans (World.cell?_setCell_far _ _ _ _ (by show w2.heap.size ≠ wr.heap.size; omega))).trans hS.2.1
      · exact ((World.cell?_setCell_far _ _ _ _ (by rw [block_add]; show w2.heap.size ≠ ad.block; have := HAD.out; omega)).trans (World.cell?_setCell_far _ _ _ _ (by rw [block_add]; show w2.heap.size ≠ ad.block; have := HAD.out; omega))).trans hS.2.2.1
      · exact ((World.cell?_setCell_far _ _ _ _ (by rw [block_add]; show w2.heap.size ≠ ad.block; have := HAD.out; omega)).trans (World.cell?_setCell_far _ _ _ _ (by rw [block_add]; show w2.heap.size ≠ ad.block; have := HAD.out; omega))).trans hS.2.2.2
      clear hK K
      refine wpAnyH_done (by kernel_rfl) ?_ _
      go_wp2_with fail
      go_roundw
      case rel => exact ⟨k + 1, by omega, by go_num, HSET, Lib.hid (HBF.out.trans ⟨rfl, rfl, rfl, Nat.le_refl _, fun _ _ => rfl⟩)⟩
      case measure => simp [intOf]; omega
    · obtain rfl : k = m := by omega
      have t1 : decide ((k : Int) < (k : Int)) = false := by simp
      have hBE := HB3.out.trans (hb.out.mono HB2.out.size)
      obtain ⟨n0, n1, _, _⟩ := cells_two (w := wr) (blk_below HW0.out hBE)
      have hRd := hR.out.rd
      have hfa : fillP E (edP p) k = E.map (edP p) := by rw [HM.out]; exact fillP_all E (edP p)
      rw [hfa] at hRd
      have HNEW := Lib.hid (new_yesC (some ⟨w2.heap.size, 0, none⟩) k k n (E.map (edP p)) wr hRd (by rw [List.length_map]; exact HM.out) HED.out)
      have HBE := Lib.hid hBE
      clear hRd hfa hBE
      go_wp2_with fail
      refine HNEW.out.mono ?_
      rintro e w4 ⟨B, c', F, rfl, hF1, hF2, hF3, hF4, hcap, hb4⟩
      have HCAP := Lib.hid hcap
      clear hcap
      have hB4 := next_below HBE.out hb4
      obtain ⟨r0, r1, r2, r3⟩ := cells_two (w := w4) (blk_below HW1.out hB4)
      have q0 := World.cell?_setCell_same' w4 ⟨w.heap.size + 1, 0, none⟩ (.int .i64 (n : Nat)) (by rw [r0]; rfl)
      have q1 := World.cell?_setCell_same' (w4.setCell ⟨w.heap.size + 1, 0, none⟩ (.int .i64 (n : Nat))) ⟨w.heap.size + 1, 1, none⟩ (.slice B k c') (by rw [World.cell?_setCell_other _ _ _ _ (by simp), r1]; rfl)
      have HF1 := Lib.hid hF1
      have HF2 := Lib.hid hF2
      have hF5 : ∀ ad, B = some ad → w.heap.size + 2 ≤ ad.block := fun ad e => by have := hF4 ad e; have := HBE.out.size; have := HWS.out; omega
      have HF3 := Lib.hid ((hF3.far (a := ⟨w.heap.size + 1, 0, none⟩) (fun ad e => by have := hF5 ad e; show ad.block ≠ w.heap.size + 1; omega) (.int .i64 (n : Nat))).far (a := ⟨w.heap.size + 1, 1, none⟩) (fun ad e => by have := hF5 ad e; show ad.block ≠ w.heap.size + 1; omega) (.slice B k c'))
      have HF5 := Lib.hid hF5
      have HB4 := Lib.hid (next_below HBW.out hB4)
      clear hF1 hF2 hF3 hF4 hF5 hB4 hb4
      go_wp2_with fail
      refine bodyPost_ret (by rw [results_cell_tmp rfl]; simp [go_sem, q0, q1, Result.andThen] <;> rfl) rfl ?_
      refine ⟨B, c', F, rfl, HF1.out, HF2.out, HF3.out, (fun ad e => by have := HF5.out ad e; omega), HCAP.out, ?_⟩
      exact (HB4.out.setCell (p := ⟨w.heap.size + 1, 0, none⟩) (by show w.heap.size ≤ w.heap.size + 1; omega) _).setCell (p := ⟨w.heap.size + 1, 1, none⟩) (by show w.heap.size ≤ w.heap.size + 1; omega) _
theorem apply_yes (A0 A1 : Option Addr) (c d m n : Nat) (E : List (Int × Int)) (p : List Nat) (w : World) (hr : RdP w A0 E) (hs : RdZ w A1 (iz p)) (hm : m = E.length) (hg : rightG (n : Nat) E = true) (hp : Perm n p) :
    Calls Try.prog 26 #[.agg #[.int .i64 (n : Nat), .slice A0 m c], .slice A1 n d] w fun e w' => ∃ (B : Option Addr) (c' : Nat) (F : List (Int × Int)), e = .returned (.tuple #[.agg #[.int .i64 (n : Nat), .slice B m c'], .int .i64 0]) ∧ F.Perm ((E.map (edP p)).map nrm) ∧ rightG (n : Nat) F = true ∧ RdP w' B F ∧ (∀ ad, B = some ad → w.heap.size ≤ ad.block) ∧ Below w.heap.size w w' := by
  refine (apply_yesC A0 A1 c d m n E p w hr hs hm hg hp).mono ?_
  rintro e w' ⟨B, c', F, h1, h2, h3, h4, h5, _, h6⟩
  exact ⟨B, c', F, h1, h2, h3, h4, h5, h6⟩
end
section
set_option maxRecDepth 100000
open Go.RowKit

/-- An edge called anew. -/
def phi (p : List Nat) (e : Int × Int) : Int × Int := nrm (edP p e)
theorem phi_inj {n : Nat} {p : List Nat} (hp : Perm n p) {e f : Int × Int} (he : 0 ≤ e.1 ∧ e.1 < e.2 ∧ e.2 < n) (hf : 0 ≤ f.1 ∧ f.1 < f.2 ∧ f.2 < n) (h : phi p e = phi p f) : e = f := by
  have inj := fun (u v : Nat) hu hv => hp.inj (i := u) (j := v) hu hv
  unfold phi edP at h
  rcases nrm_two h with ⟨h4, h5⟩ | ⟨h4, h5⟩
  · have i1 := inj _ _ (by omega) (by omega) h4
    have i2 := inj _ _ (by omega) (by omega) h5
    exact Prod.ext (by omega) (by omega)
  · have i1 := inj _ _ (by omega) (by omega) h4
    have i2 := inj _ _ (by omega) (by omega) h5
    omega
theorem phi_ends (p : List Nat) (e : Int × Int) (w : Int) : EndOf (phi p e) w ↔ (w = ((gn p e.1.toNat : Nat) : Int) ∨ w = ((gn p e.2.toNat : Nat) : Int)) := by
  unfold phi nrm edP EndOf
  simp only
  split <;> simp only <;> constructor <;> intro h <;> rcases h with h | h <;> simp [h]
structure Ren (n : Nat) (p : List Nat) (E W F V : List (Int × Int)) : Prop where
  perm : Perm n p
  gE : rightG (n : Nat) E = true
  gF : rightG (n : Nat) F = true
  gV : rightG (n : Nat) V = true
  sub : ∀ e ∈ W, e ∈ E
  fE : F.Perm ((E.map (edP p)).map nrm)
  fW : V.Perm ((W.map (edP p)).map nrm)
section
variable {n : Nat} {p : List Nat} {E W F V : List (Int × Int)}
theorem inE (hg : rightG (n : Nat) E = true) {e : Int × Int} (he : e ∈ E) : 0 ≤ e.1 ∧ e.1 < e.2 ∧ e.2 < n := by
  obtain ⟨k, hk⟩ := List.getElem?_of_mem he
  exact rightG_edge hg hk
theorem Ren.memF (h : Ren n p E W F V) {f : Int × Int} : f ∈ F ↔ ∃ e ∈ E, f = phi p e := by
  rw [h.fE.mem_iff, List.map_map, List.mem_map]
  exact ⟨fun ⟨e, a, b⟩ => ⟨e, a, b.symm⟩, fun ⟨e, a, b⟩ => ⟨e, a, b.symm⟩⟩
theorem Ren.memV (h : Ren n p E W F V) {f : Int × Int} : f ∈ V ↔ ∃ e ∈ W, f = phi p e := by
  rw [h.fW.mem_iff, List.map_map, List.mem_map]
  exact ⟨fun ⟨e, a, b⟩ => ⟨e, a, b.symm⟩, fun ⟨e, a, b⟩ => ⟨e, a, b.symm⟩⟩
theorem Ren.subV (h : Ren n p E W F V) : ∀ e ∈ V, e ∈ F := fun f hf => by
  obtain ⟨e, he, rfl⟩ := h.memV.1 hf
  exact h.memF.2 ⟨e, h.sub e he, rfl⟩
theorem Ren.okV (h : Ren n p E W F V) : (leftP V F F.length).2 = V.length := (web_ok h.gF).2 ⟨h.gV, h.subV⟩
theorem Ren.notV (h : Ren n p E W F V) {a : Int × Int} (ha : a ∈ E) (hw : a ∉ W) : phi p a ∉ V := fun hv => by
  obtain ⟨e, he, hq⟩ := h.memV.1 hv
  have := phi_inj h.perm (inE h.gE ha) (inE h.gE (h.sub e he)) hq
  exact hw (by rw [this]; exact he)
/-- A number's place, told anew. -/
theorem Ren.on_ (h : Ren n p E W F V) {v : Nat} (hv : v < n) : onZ V ((gn p v : Nat) : Int) = onZ W (v : Int) := by
  rw [Bool.eq_iff_iff]
  have key : ∀ (L : List (Int × Int)) (z : Int), onZ L z = true ↔ ∃ e ∈ L, EndOf e z := fun L z => by
    unfold Go.Proofs.Ytlkfpphahfendaa.onZ EndOf
    rw [List.any_eq_true]
    simp
  rw [key, key]
  constructor
  · rintro ⟨f, hf, hz⟩
    obtain ⟨e, he, rfl⟩ := h.memV.1 hf
    have hb := inE h.gE (h.sub e he)
    refine ⟨e, he, ?_⟩
    rcases (phi_ends p e _).1 hz with h1 | h1
    · have := h.perm.inj hv (show e.1.toNat < n by omega) (by omega)
      left; omega
    · have := h.perm.inj hv (show e.2.toNat < n by omega) (by omega)
      right; omega
  · rintro ⟨e, he, hz⟩
    refine ⟨phi p e, h.memV.2 ⟨e, he, rfl⟩, (phi_ends p e _).2 ?_⟩
    rcases hz with h1 | h1
    · left; rw [h1, Int.toNat_natCast]
    · right; rw [h1, Int.toNat_natCast]
theorem Ren.meet (h : Ren n p E W F V) {a b : Int × Int} (ha : a ∈ E) (hb : b ∈ E) : meetP V (phi p a) (phi p b) = true ↔ meetP W a b = true := by
  have ea := inE h.gE ha
  have eb := inE h.gE hb
  rw [meetP_iff, meetP_iff]
  have ends : ∀ {e : Int × Int}, (0 ≤ e.1 ∧ e.1 < e.2 ∧ e.2 < n) → ∀ {v : Int}, EndOf e v → ∃ u : Nat, v = (u : Int) ∧ u < n := fun {e} he {v} hv => by
    rcases hv with h1 | h1
    · exact ⟨v.toNat, by omega, by omega⟩
    · exact ⟨v.toNat, by omega, by omega⟩
  constructor
  · rintro ⟨w, h1, h2, h3⟩
    obtain ⟨u, hu, hun, hue⟩ : ∃ u : Nat, w = ((gn p u : Nat) : Int) ∧ u < n ∧ EndOf a (u : Int) := by
      rcases (phi_ends p a w).1 h1 with h4 | h4
      · exact ⟨_, h4, by omega, .inl (by omega)⟩
      · exact ⟨_, h4, by omega, .inr (by omega)⟩
    refine ⟨(u : Int), hue, ?_, ?_⟩
    · rcases (phi_ends p b w).1 h2 with h4 | h4
      · have := h.perm.inj hun (show b.1.toNat < n by omega) (by omega)
        left; omega
      · have := h.perm.inj hun (show b.2.toNat < n by omega) (by omega)
        right; omega
    · rw [← h.on_ hun, ← hu]; exact h3
  · rintro ⟨v, h1, h2, h3⟩
    obtain ⟨u, rfl, hun⟩ := ends ea h1
    refine ⟨((gn p u : Nat) : Int), (phi_ends p a _).2 ?_, (phi_ends p b _).2 ?_, by rw [h.on_ hun]; exact h3⟩
    · rcases h1 with h1 | h1
      · left; rw [h1, Int.toNat_natCast]
      · right; rw [h1, Int.toNat_natCast]
    · rcases h2 with h2 | h2
      · left; rw [h2, Int.toNat_natCast]
      · right; rw [h2, Int.toNat_natCast]
theorem cn_in {a b : Int × Int} (ha : a ∈ E) (h : Cn W E a b) : b ∈ E := by
  cases h with
  | refl => exact ha
  | step _ hm _ => exact hm
theorem Ren.cn (h : Ren n p E W F V) {a b : Int × Int} (ha : a ∈ E) (hc : Cn W E a b) : Cn V F (phi p a) (phi p b) := by
  induction hc with
  | refl => exact .refl
  | @step b c hb hm hp ih => exact ih.step (h.memF.2 ⟨_, hm, rfl⟩) ((h.meet hm (cn_in ha hb)).2 hp)
theorem Ren.back (h : Ren n p E W F V) {a y : Int × Int} (ha : a ∈ E) (hc : Cn V F (phi p a) y) : ∃ b ∈ E, y = phi p b ∧ Cn W E a b := by
  induction hc with
  | refl => exact ⟨a, ha, rfl, .refl⟩
  | step _ hm hp ih =>
    obtain ⟨b, hb, rfl, hab⟩ := ih
    obtain ⟨c, hc, rfl⟩ := h.memF.1 hm
    exact ⟨c, hc, rfl, hab.step hc ((h.meet hc hb).1 hp)⟩
/-- Edges called anew, in their order. -/
def ren (F : List (Int × Int)) (p : List Nat) (G : List (Int × Int)) : List (Int × Int) := F.filter fun f => decide (f ∈ G.map (phi p))
theorem ren_mem {G : List (Int × Int)} {f : Int × Int} : f ∈ ren F p G ↔ f ∈ F ∧ ∃ e ∈ G, f = phi p e := by
  unfold ren
  rw [List.mem_filter, decide_eq_true_iff, List.mem_map]
  exact and_congr_right fun _ => ⟨fun ⟨e, a, b⟩ => ⟨e, a, b.symm⟩, fun ⟨e, a, b⟩ => ⟨e, a, b.symm⟩⟩
theorem Ren.grp (h : Ren n p E W F V) {a : Int × Int} (ha : a ∈ E) : ren F p (grp W E a) = grp V F (phi p a) := by
  unfold ren Go.Proofs.Ytlkfpphahfendaa.grp
  apply List.filter_congr
  intro f hf
  rw [Bool.eq_iff_iff, decide_eq_true_iff, @decide_eq_true_iff _ (Classical.propDecidable _), List.mem_map]
  constructor
  · rintro ⟨e, he, rfl⟩
    exact h.cn ha (grp_mem.1 he).2
  · intro hc
    obtain ⟨b, hb, rfl, hab⟩ := h.back ha hc
    exact ⟨b, grp_mem.2 ⟨hb, hab⟩, rfl⟩
theorem Ren.want (h : Ren n p E W F V) {G F' : List (Int × Int)} (hG : ∀ e ∈ G, e ∈ E) (hF : F'.Perm ((G.map (edP p)).map nrm)) (hr : rightG (n : Nat) F' = true) : F' = ren F p G := by
  refine List.Perm.eq_of_pairwise (le := fun a b => cmpP a b < 0) (fun a b _ _ h1 h2 => ?_) (rightG_pw8 hr) ((rightG_pw8 h.gF).sublist List.filter_sublist) ?_
  · rw [cmpP_neg] at h1 h2
    omega
  · refine (List.perm_ext_iff_of_nodup (rightG_nodup hr) ((rightG_nodup h.gF).filter _)).2 fun f => ?_
    rw [hF.mem_iff, List.map_map, List.mem_map, show (f ∈ F.filter _ ↔ _) from ren_mem (G := G)]
    constructor
    · rintro ⟨e, he, rfl⟩
      exact ⟨h.memF.2 ⟨e, hG e he, rfl⟩, e, he, rfl⟩
    · rintro ⟨_, e, he, rfl⟩
      exact ⟨e, he, rfl⟩
theorem rise_of {l : List Int} (h : l.Nodup) : (srtZ l).Pairwise (· < ·) := by
  have hn : (srtZ l).Nodup := (List.mergeSort_perm l _).nodup_iff.2 h
  exact (srtZ_le l).imp₂ (fun a b h1 h2 => by omega) hn
theorem map_nodup {l : List Int} {f : Int → Int} (h : l.Nodup) (hf : ∀ x ∈ l, ∀ y ∈ l, f x = f y → x = y) : (l.map f).Nodup := by
  rw [List.Nodup, List.pairwise_map]
  exact h.imp_of_mem (fun ha hb hne e => hne (hf _ ha _ hb e))
/-- Feet, called anew. -/
def renZ (p : List Nat) (v : Int) : Int := ((gn p v.toNat : Nat) : Int)
theorem Ren.feet (h : Ren n p E W F V) {G : List (Int × Int)} (hG : ∀ e ∈ G, e ∈ E) : srtZ ((feetR W G n).map (renZ p)) = feetR V (ren F p G) n := by
  have hnat : ∀ x ∈ feetR W G n, ∃ v : Nat, v < n ∧ x = (v : Int) := fun x hx => by
    obtain ⟨v, h1, h2, _⟩ := feetR_mem.1 hx
    exact ⟨v, h1, h2⟩
  have hrz : ∀ v : Nat, renZ p (v : Int) = ((gn p v : Nat) : Int) := fun v => by unfold renZ; rw [Int.toNat_natCast]
  have hnd : ((feetR W G n).map (renZ p)).Nodup := by
    refine map_nodup ((feetR_lt W G n).imp (fun hlt e => by subst e; omega)) (fun x hx y hy e => ?_)
    obtain ⟨u, hu, rfl⟩ := hnat x hx
    obtain ⟨v, hv, rfl⟩ := hnat y hy
    unfold renZ at e
    simp only [Int.toNat_natCast] at e
    have := h.perm.inj hu hv (by omega)
    omega
  have kk : ∀ (L : List (Int × Int)) (z : Int), Go.Proofs.Ytlkfpphahfendaa.onZ L z = true ↔ ∃ e ∈ L, EndOf e z := fun L z => by
    unfold Go.Proofs.Ytlkfpphahfendaa.onZ EndOf
    rw [List.any_eq_true]
    simp
  refine rise_eq (rise_of hnd) (feetR_lt _ _ _) fun x => ?_
  rw [srtZ_mem, List.mem_map, feetR_mem]
  constructor
  · rintro ⟨y, hy, rfl⟩
    obtain ⟨v, hv, rfl, h1, h2⟩ := feetR_mem.1 hy
    rw [hrz]
    refine ⟨gn p v, h.perm.gn_lt hv, rfl, by rw [h.on_ hv]; exact h1, ?_⟩
    obtain ⟨e, he, hev⟩ := (kk _ _).1 h2
    refine (kk _ _).2 ⟨phi p e, ren_mem.2 ⟨h.memF.2 ⟨e, hG e he, rfl⟩, e, he, rfl⟩, (phi_ends p e _).2 ?_⟩
    rcases hev with h3 | h3
    · left; rw [h3, Int.toNat_natCast]
    · right; rw [h3, Int.toNat_natCast]
  · rintro ⟨w, hw, rfl, h1, h2⟩
    obtain ⟨f, hf, hfw⟩ := (kk _ _).1 h2
    obtain ⟨_, e, he, rfl⟩ := ren_mem.1 hf
    have eb := inE h.gE (hG e he)
    obtain ⟨u, hu, hun, hue⟩ : ∃ u : Nat, (w : Int) = ((gn p u : Nat) : Int) ∧ u < n ∧ EndOf e (u : Int) := by
      rcases (phi_ends p e _).1 hfw with h4 | h4
      · exact ⟨_, h4, by omega, .inl (by omega)⟩
      · exact ⟨_, h4, by omega, .inr (by omega)⟩
    refine ⟨(u : Int), feetR_mem.2 ⟨u, hun, rfl, ?_, (kk _ _).2 ⟨e, he, hue⟩⟩, by unfold renZ; rw [Int.toNat_natCast]; exact hu.symm⟩
    rw [← h.on_ hun, ← hu]
    exact h1
end
section
variable {n : Nat} {E W : List (Int × Int)}
theorem grp_eq {a b : Int × Int} (ha : a ∈ E) (h : Cn W E a b) : grp W E a = grp W E b := by
  unfold grp
  apply List.filter_congr
  intro x _
  rw [Bool.eq_iff_iff, @decide_eq_true_iff _ (Classical.propDecidable _), @decide_eq_true_iff _ (Classical.propDecidable _)]
  exact ⟨fun k => (h.symm ha).trans k, fun k => h.trans k⟩
/-- Each edge that is left has its fragment. -/
theorem frag_of (h : rightG (n : Nat) E = true) (hok : (leftP W E E.length).2 = W.length) {e : Int × Int} (he : e ∈ E) (hw : e ∉ W) : (grp W E e, feetR W (grp W E e) n) ∈ fragsF n E W := by
  have hR := rest_of h hok
  obtain ⟨j, hj⟩ := List.getElem?_of_mem (hR.mem.2 ⟨he, hw⟩)
  obtain ⟨f, hf, hfo, _⟩ := first_of (ownE n W E) (leftP W E E.length).1.length j (List.getElem?_eq_some_iff.1 hj).1
  have hfl := (mem_firsts.1 hf).1
  have hle : (leftP W E E.length).1[f]? = some ((leftP W E E.length).1.getD f (0, 0)) := by rw [List.getD_eq_getElem?_getD, List.getElem?_eq_getElem hfl]; rfl
  have hc := (hR.own_iff hle hj).1 hfo
  rw [← grp_eq (hR.mem.1 (List.mem_of_getElem? hle)).1 hc, fragsF_ref h hok]
  obtain ⟨q, h1, h2, _⟩ := refS_inv hR E.length (Nat.le_refl _)
  have hq : q = (leftP W E E.length).1.length := by rw [← h1, List.take_length, ← hR.is]
  subst hq
  rw [h2]
  exact List.mem_map.2 ⟨f, hf, rfl⟩
theorem frag_nodup (h : rightG (n : Nat) E = true) (hok : (leftP W E E.length).2 = W.length) : ((fragsF n E W).map Prod.fst).Nodup := by
  rw [List.Nodup, List.pairwise_map, List.pairwise_iff_getElem]
  intro i j hi hj hij heq
  obtain ⟨f, a, hf⟩ := frag_at h hok (List.getElem?_eq_getElem hi)
  obtain ⟨g, b, hg⟩ := frag_at h hok (List.getElem?_eq_getElem hj)
  have := frag_same h hok hf hg (List.mem_of_getElem? hf.head) (by rw [← heq]; exact List.mem_of_getElem? hf.head)
  omega
end
section
variable {n : Nat} {p : List Nat} {E W F V : List (Int × Int)}
/-- A fragment called anew is a fragment. -/
theorem Ren.frag (h : Ren n p E W F V) (hok : (leftP W E E.length).2 = W.length) {x : List (Int × Int) × List Int} (hx : x ∈ fragsF n E W) : (ren F p x.1, srtZ (x.2.map (renZ p))) ∈ fragsF n F V := by
  obtain ⟨e, he, hw, rfl⟩ := frag_is h.gE hok hx
  simp only
  rw [h.feet (fun f hf => (grp_mem.1 hf).1), h.grp he]
  exact frag_of h.gF h.okV (h.memF.2 ⟨e, he, rfl⟩) (h.notV he hw)
theorem Ren.many (h : Ren n p E W F V) (hok : (leftP W E E.length).2 = W.length) : (fragsF n F V).length = (fragsF n E W).length := by
  have h1 := frag_nodup h.gE hok
  have h2 := frag_nodup h.gF h.okV
  have h3 : (((fragsF n E W).map Prod.fst).map (ren F p)).Nodup := by
    rw [List.map_map, List.Nodup, List.pairwise_map, List.pairwise_iff_getElem]
    intro i j hi hj hij heq
    obtain ⟨f, a, hf⟩ := frag_at h.gE hok (List.getElem?_eq_getElem hi)
    obtain ⟨g, b, hg⟩ := frag_at h.gE hok (List.getElem?_eq_getElem hj)
    have hm := List.mem_of_getElem? hf.head
    have haE := (frag_sub h.gE hok (List.getElem_mem hi) hm).1
    have hq : phi p a ∈ ren F p (fragsF n E W)[j].1 := by
      have : phi p a ∈ ren F p (fragsF n E W)[i].1 := ren_mem.2 ⟨h.memF.2 ⟨a, haE, rfl⟩, a, hm, rfl⟩
      have heq : ren F p (fragsF n E W)[i].1 = ren F p (fragsF n E W)[j].1 := heq
      rwa [heq] at this
    obtain ⟨_, c, hc, hac⟩ := ren_mem.1 hq
    have := phi_inj h.perm (inE h.gE haE) (inE h.gE (frag_sub h.gE hok (List.getElem_mem hj) hc).1) hac
    subst this
    have := frag_same h.gE hok hf hg hm hc
    omega
  have hm : ∀ G, G ∈ (fragsF n F V).map Prod.fst ↔ G ∈ ((fragsF n E W).map Prod.fst).map (ren F p) := by
    intro G
    rw [List.map_map, List.mem_map, List.mem_map]
    constructor
    · rintro ⟨y, hy, rfl⟩
      obtain ⟨f, hf, hv, rfl⟩ := frag_is h.gF h.okV hy
      obtain ⟨e, he, rfl⟩ := h.memF.1 hf
      have hw : e ∉ W := fun hw => hv (h.memV.2 ⟨e, hw, rfl⟩)
      exact ⟨_, frag_of h.gE hok he hw, h.grp he⟩
    · rintro ⟨x, hx, rfl⟩
      exact ⟨_, h.frag hok hx, rfl⟩
  have := ((List.perm_ext_iff_of_nodup h2 h3).2 hm).length_eq
  simpa using this
end
end
section
set_option maxRecDepth 100000
open Go.RowKit

set_option maxHeartbeats 8000000 in
theorem apply_noL (A0 A1 : Option Addr) (c d m n : Nat) (N : Int) (E : List (Int × Int)) (xs : List Int) (w : World) (hr : RdP w A0 E) (hs : RdZ w A1 xs) (hm : m = E.length) (hn : n = xs.length) (hl : n ≤ 9223372036854775807) (hx : ¬ (rightG N E = true ∧ rightP xs = true ∧ (xs.length : Int) = N)) :
    Calls Try.prog 26 #[.agg #[.int .i64 N, .slice A0 m c], .slice A1 n d] w fun e w' => e = .returned (.tuple #[.agg #[.int .i64 0, .slice none 0 0], .int .i64 (if rightG N E then 30 else 20)]) ∧ Below w.heap.size w w' := by
  obtain ⟨W, hW⟩ : ∃ W, W = (w.alloc (.cells #[.int .i64 N, .slice A0 m c] 24)).alloc (.cells #[.int .i64 0, .slice none 0 0] 24) := ⟨_, rfl⟩
  have hbW : Below w.heap.size w W := by rw [hW]; exact ((Below.refl _ _).alloc (Nat.le_refl _) _).alloc (by simp) _
  have hWS : W.heap.size = w.heap.size + 2 := by rw [hW]; simp
  have HW0 : Hid (W.heap[w.heap.size]? = some (.cells #[.int .i64 N, .slice A0 m c] 24 (0, 0))) := by
    show _ = _
    rw [hW, heap_alloc_old _ _ (by simp)]
    exact heap_alloc_new w _
  have HW1 : Hid (W.heap[w.heap.size + 1]? = some (.cells #[.int .i64 0, .slice none 0 0] 24 (0, 0))) := by
    show _ = _
    rw [hW]
    have h1 := heap_alloc_new (w.alloc (.cells #[.int .i64 N, .slice A0 m c] 24)) (.cells #[.int .i64 0, .slice none 0 0] 24)
    simpa using h1
  obtain ⟨j0, j1, _, _⟩ := cells_two (w := W) HW0.out
  have HA := Lib.hid (hr.below hbW)
  have HB := Lib.hid (hs.below hbW)
  have HM := Lib.hid hm
  have HN := Lib.hid hn
  have HW := Lib.hid hW
  have HBW := Lib.hid hbW
  have HX := Lib.hid hx
  obtain ⟨er, her⟩ : ∃ er : Int, (if rightG N E then (30 : Int) else 20) = er := ⟨_, rfl⟩
  rw [her]
  have HER := Lib.hid her
  clear her hr hs hm hn hW hbW hWS hx
  go_enter Try.func26, Try.ntmps26
  go_wp2_with fail
  rw [← HW.out]
  refine (right_any A0 c m N E W HA.out HM.out).mono ?_
  rintro e w1 ⟨rfl, hb1⟩
  have HB1 := Lib.hid hb1
  obtain ⟨k0, k1, _, _⟩ := cells_two (w := w1) (blk_below HW0.out hb1)
  have hr0 := cell_of (blk_below HW1.out hb1) 0
  have hr1 := cell_of (blk_below HW1.out hb1) 1
  have hf0 := free_of (blk_below HW1.out hb1) 0
  have hf1 := free_of (blk_below HW1.out hb1) 1
  clear hb1 j0 j1
  by_cases h1 : rightG N E = true
  · have H1 := Lib.hid h1
    rw [h1]
    clear h1
    go_wp2_with fail
    refine (rightP_any A1 d n xs w1 (HB.out.below HB1.out) HN.out (by omega)).mono ?_
    rintro e w2 ⟨rfl, hb2⟩
    have HB2 := Lib.hid (next_below HB1.out hb2)
    clear hr0 hr1 hf0 hf1 k0 k1 hb2
    obtain ⟨k0, k1, _, _⟩ := cells_two (w := w2) (blk_below HW0.out HB2.out)
    have hr0 := cell_of (blk_below HW1.out HB2.out) 0
    have hr1 := cell_of (blk_below HW1.out HB2.out) 1
    have hf0 := free_of (blk_below HW1.out HB2.out) 0
    have hf1 := free_of (blk_below HW1.out HB2.out) 1
    by_cases h2 : rightP xs = true
    · have hne : ((n : Int) != N) = true := by
        have h3 := HX.out
        have h4 := HN.out
        rw [bne_iff_ne]
        exact fun h5 => h3 ⟨H1.out, h2, by rw [← h4]; exact h5⟩
      rw [h2]
      clear h2
      go_wp2_with fail
      have q0 := World.cell?_setCell_same' w2 ⟨w.heap.size + 1, 0, none⟩ (.int .i64 0) (by rw [hr0]; rfl)
      have q1 := World.cell?_setCell_same' (w2.setCell ⟨w.heap.size + 1, 0, none⟩ (.int .i64 0)) ⟨w.heap.size + 1, 1, none⟩ (.slice none 0 0) (by rw [World.cell?_setCell_other _ _ _ _ (by simp), hr1]; rfl)
      refine bodyPost_ret (by rw [results_cell_tmp rfl]; simp [go_sem, q0, q1, Result.andThen] <;> rfl) rfl ?_
      exact ⟨by rw [← HER.out, H1.out]; rfl, ((next_below HBW.out HB2.out).setCell (p := ⟨w.heap.size + 1, 0, none⟩) (by show _ ≤ w.heap.size + 1; omega) _).setCell (p := ⟨w.heap.size + 1, 1, none⟩) (by show _ ≤ w.heap.size + 1; omega) _⟩
    · have h2' : rightP xs = false := by simpa using h2
      rw [h2']
      clear h2 h2'
      go_wp2_with fail
      have q0 := World.cell?_setCell_same' w2 ⟨w.heap.size + 1, 0, none⟩ (.int .i64 0) (by rw [hr0]; rfl)
      have q1 := World.cell?_setCell_same' (w2.setCell ⟨w.heap.size + 1, 0, none⟩ (.int .i64 0)) ⟨w.heap.size + 1, 1, none⟩ (.slice none 0 0) (by rw [World.cell?_setCell_other _ _ _ _ (by simp), hr1]; rfl)
      refine bodyPost_ret (by rw [results_cell_tmp rfl]; simp [go_sem, q0, q1, Result.andThen] <;> rfl) rfl ?_
      exact ⟨by rw [← HER.out, H1.out]; rfl, ((next_below HBW.out HB2.out).setCell (p := ⟨w.heap.size + 1, 0, none⟩) (by show _ ≤ w.heap.size + 1; omega) _).setCell (p := ⟨w.heap.size + 1, 1, none⟩) (by show _ ≤ w.heap.size + 1; omega) _⟩
  · have h1' : rightG N E = false := by simpa using h1
    have H1 := Lib.hid h1'
    rw [h1']
    clear h1 h1'
    go_wp2_with fail
    have q0 := World.cell?_setCell_same' w1 ⟨w.heap.size + 1, 0, none⟩ (.int .i64 0) (by rw [hr0]; rfl)
    have q1 := World.cell?_setCell_same' (w1.setCell ⟨w.heap.size + 1, 0, none⟩ (.int .i64 0)) ⟨w.heap.size + 1, 1, none⟩ (.slice none 0 0) (by rw [World.cell?_setCell_other _ _ _ _ (by simp), hr1]; rfl)
    refine bodyPost_ret (by rw [results_cell_tmp rfl]; simp [go_sem, q0, q1, Result.andThen] <;> rfl) rfl ?_
    exact ⟨by rw [← HER.out, H1.out]; rfl, ((next_below HBW.out HB1.out).setCell (p := ⟨w.heap.size + 1, 0, none⟩) (by show _ ≤ w.heap.size + 1; omega) _).setCell (p := ⟨w.heap.size + 1, 1, none⟩) (by show _ ≤ w.heap.size + 1; omega) _⟩

set_option maxHeartbeats 4000000 in
theorem names1_any (B1 B2 Bw Bz : Option Addr) (lg x1 lf x2 lw cw lz cz pg pz : Nat) (G Wn : List (Int × Int)) (F Z : List Int) (w : World) (hG : RdP w B1 G) (hF : RdZ w B2 F) (hW : RdP w Bw Wn) (hZ : RdZ w Bz Z) (hlg : lg = G.length) (hlf : lf = F.length) (hlw : lw = Wn.length) (hlz : lz = Z.length)
    (b1 : lg ≤ 1000000) (b2 : lf ≤ 1000000) (b3 : lw ≤ 1000000) (b4 : lz ≤ 1000000) (c1 : w.cell? ⟨pg, 1, none⟩ = some (.slice Bw lw cw)) (c2 : w.cell? ⟨pz, 0, none⟩ = some (.slice Bz lz cz)) :
    Calls Try.prog 29 #[.agg #[.slice B1 lg x1, .slice B2 lf x2], .pointer (some ⟨pg, 0, none⟩), .pointer (some ⟨pz, 0, none⟩)] w fun e w' => e = .returned (.bool (decide (G = Wn) && decide (F = Z))) ∧ Below w.heap.size w w' := by
  obtain ⟨X, hX⟩ : ∃ X, X = w.alloc (.cells #[.slice B1 lg x1, .slice B2 lf x2] 43) := ⟨_, rfl⟩
  have hb : Below w.heap.size w X := by rw [hX]; exact (Below.refl _ _).alloc (Nat.le_refl _) _
  have hXS : w.heap.size < X.heap.size := by rw [hX]; simp
  obtain ⟨j0, j1, _, _⟩ := cells_two (w := X) (by rw [hX]; exact heap_alloc_new w _)
  have l1 := World.block_lt_of_cell? _ _ c1
  have l2 := World.block_lt_of_cell? _ _ c2
  have d1 : X.cell? ⟨pg, 1, none⟩ = some (.slice Bw lw cw) := by rw [hb.cell l1]; exact c1
  have d2 : X.cell? ⟨pz, 0, none⟩ = some (.slice Bz lz cz) := by rw [hb.cell l2]; exact c2
  have HJ : Hid (∀ w', Below X.heap.size X w' → w'.cell? ⟨w.heap.size, 0, none⟩ = some (.slice B1 lg x1) ∧ w'.cell? ⟨w.heap.size, 1, none⟩ = some (.slice B2 lf x2) ∧ w'.cell? ⟨pg, 1, none⟩ = some (.slice Bw lw cw) ∧ w'.cell? ⟨pz, 0, none⟩ = some (.slice Bz lz cz)) := fun w' hb' =>
    ⟨by rw [hb'.cell (by show w.heap.size < _; omega)]; exact j0, by rw [hb'.cell (by show w.heap.size < _; omega)]; exact j1, by rw [hb'.cell (Nat.lt_trans l1 hXS)]; exact d1, by rw [hb'.cell (Nat.lt_trans l2 hXS)]; exact d2⟩
  have HG := Lib.hid (hG.below hb)
  have HF := Lib.hid (hF.below hb)
  have HW := Lib.hid (hW.below hb)
  have HZ := Lib.hid (hZ.below hb)
  have HLG := Lib.hid hlg
  have HLF := Lib.hid hlf
  have HLW := Lib.hid hlw
  have HLZ := Lib.hid hlz
  have HX := Lib.hid hX
  have HB := Lib.hid hb
  have HXS := Lib.hid hXS
  have HSP := samePr_any B1 Bw x1 cw lg lw G Wn X HG.out HW.out b1 b3 hlg hlw
  obtain ⟨q, hq⟩ : ∃ q, decide (G = Wn) = q := ⟨_, rfl⟩
  obtain ⟨q2, hq2⟩ : ∃ q, decide (F = Z) = q := ⟨_, rfl⟩
  rw [hq] at HSP
  rw [hq, hq2]
  have HSP := Lib.hid HSP
  have HQ2 := Lib.hid hq2
  clear hG hF hW hZ hlg hlf hlw hlz hX hb hXS hq hq2 c1 c2 l1 l2
  rw [HX.out] at j0 j1 d1 d2
  go_enter Try.func29, Try.ntmps29
  go_wp2_with fail
  rw [← HX.out]
  refine HSP.out.mono ?_
  rintro e w1 ⟨rfl, hb1⟩
  have HB1 := Lib.hid hb1
  clear hb1 j0 j1 d1 d2
  obtain ⟨j0, j1, d1, d2⟩ := HJ.out w1 HB1.out
  cases q with
  | false =>
    go_wp2_with fail
    go_ret
    exact ⟨rfl, HB.out.trans (HB1.out.mono (Nat.le_of_lt HXS.out))⟩
  | true =>
    have HSZ := sameZ_any B2 Bz x2 cz lf lz F Z w1 (HF.out.below HB1.out) (HZ.out.below HB1.out) b2 b4 HLF.out HLZ.out
    rw [HQ2.out] at HSZ
    have HSZ := Lib.hid HSZ
    go_wp2_with fail
    refine HSZ.out.mono ?_
    rintro e w2 ⟨rfl, hb2⟩
    have HB2 := Lib.hid (next_below HB1.out hb2)
    clear hb2
    go_wp2_with fail
    go_ret
    exact ⟨rfl, HB.out.trans (HB2.out.mono (Nat.le_of_lt HXS.out))⟩
set_option maxHeartbeats 4000000 in
/-- The first fragment that is the one that is looked for. -/
theorem indexFr_any (A Bw Bz : Option Addr) (c n lw cw lz cz pg pz k : Nat) (D : List (List (Int × Int) × List Int)) (Wn : List (Int × Int)) (Z : List Int) (w : World) (hr : RdF w A D) (hn : n = D.length) (hn2 : n ≤ 1000) (hbd : ∀ x ∈ D, x.1.length ≤ 1000000 ∧ x.2.length ≤ 1000000) (hW : RdP w Bw Wn) (hZ : RdZ w Bz Z) (hlw : lw = Wn.length) (hlz : lz = Z.length)
    (b3 : lw ≤ 1000000) (b4 : lz ≤ 1000000) (c1 : w.cell? ⟨pg, 1, none⟩ = some (.slice Bw lw cw)) (c2 : w.cell? ⟨pz, 0, none⟩ = some (.slice Bz lz cz)) (hk : k < n) (hno : ∀ j : Nat, j < k → D[j]? ≠ some (Wn, Z)) (hyes : D[k]? = some (Wn, Z)) :
    Calls Try.prog 54 #[.slice A n c, .func (.func 29) #[] #[.pointer (some ⟨pg, 0, none⟩), .pointer (some ⟨pz, 0, none⟩)]] w fun e w' => e = .returned (.int .i64 (k : Int)) ∧ Below w.heap.size w w' := by
  have l1 := World.block_lt_of_cell? _ _ c1
  have l2 := World.block_lt_of_cell? _ _ c2
  have HR := Lib.hid hr
  have HN := Lib.hid hn
  have HBD := Lib.hid hbd
  have HNO := Lib.hid hno
  have HYES := Lib.hid hyes
  have HC : Hid (∀ (w' : World) (B1 B2 : Option Addr) (x1 x2 lg lf : Nat) (x : List (Int × Int) × List Int), x ∈ D → lg = x.1.length → lf = x.2.length → RdP w' B1 x.1 → RdZ w' B2 x.2 → Below w.heap.size w w' → Calls Try.prog 29 #[.agg #[.slice B1 lg x1, .slice B2 lf x2], .pointer (some ⟨pg, 0, none⟩), .pointer (some ⟨pz, 0, none⟩)] w' fun e w'' => e = .returned (.bool (decide (x = (Wn, Z)))) ∧ Below w'.heap.size w' w'') := by
    intro w' B1 B2 x1 x2 lg lf x hx e1 e2 h1 h2 hb
    have h := names1_any B1 B2 Bw Bz lg x1 lf x2 lw cw lz cz pg pz x.1 Wn x.2 Z w' h1 h2 (hW.below hb) (hZ.below hb) e1 e2 hlw hlz (by have := (hbd x hx).1; omega) (by have := (hbd x hx).2; omega) b3 b4 (by rw [hb.cell l1]; exact c1) (by rw [hb.cell l2]; exact c2)
    rw [show (decide (x.1 = Wn) && decide (x.2 = Z)) = decide (x = (Wn, Z)) by rw [Bool.eq_iff_iff]; simp [Prod.ext_iff]] at h
    exact h
  clear hr hn hbd hno hyes hW hZ hlw hlz c1 c2 l1 l2
  go_enter Try.func54, Try.ntmps54
  go_wp2_with fail
  go_loopw [8] (fun s wr => ∃ i : Nat, i ≤ k ∧ s = .int .i64 i ∧ Hid (Below w.heap.size w wr)) (fun s _ => n - (intOf s).toNat)
  case atStart => exact ⟨0, Nat.zero_le _, rfl, Lib.hid (Below.refl _ _)⟩
  case round =>
    obtain ⟨i, hi, rfl, hb⟩ := hrel
    obtain ⟨x, hxi⟩ : ∃ x, D[i]? = some x := ⟨_, List.getElem?_eq_getElem (by rw [← HN.out]; omega)⟩
    obtain ⟨ad, B1, B2, x1, x2, rfl, _, q0, q1, g1, g2⟩ := (HR.out.below hb.out) i x hxi
    have hI0 : (0 : Int) ≤ (i : Int) := by omega
    have hI1 : (i : Int) < (n : Nat) := by omega
    obtain ⟨lg, hlg⟩ : ∃ lg, x.1.length = lg := ⟨_, rfl⟩
    obtain ⟨lf, hlf⟩ : ∃ lf, x.2.length = lf := ⟨_, rfl⟩
    have HC2 := HC.out wr B1 B2 x1 x2 lg lf x (List.mem_of_getElem? hxi) hlg.symm hlf.symm g1 g2 hb.out
    rw [hlg] at q0
    rw [hlf] at q1
    have HXI := Lib.hid hxi
    clear hxi hlg hlf g1 g2
    by_cases hik : i = k
    · subst hik
      have hb1 : decide (x = (Wn, Z)) = true := by
        have h := HYES.out
        rw [HXI.out] at h
        injection h with h
        rw [h]
        simp
      rw [hb1] at HC2
      have HC2 := Lib.hid HC2
      clear hb1
      go_wp2_with (first | (go_at_call 29; refine HC2.out.mono ?_; rintro e wn ⟨rfl, hbn⟩))
      go_ret
      exact ⟨rfl, next_below hb.out hbn⟩
    · have hb1 : decide (x = (Wn, Z)) = false := by
        rw [decide_eq_false_iff_not]
        intro h
        exact HNO.out i (by omega) (by rw [HXI.out, h])
      rw [hb1] at HC2
      have HC2 := Lib.hid HC2
      clear hb1
      go_wp2_with (first | (go_at_call 29; refine HC2.out.mono ?_; rintro e wn ⟨rfl, hbn⟩))
      go_roundw
      case rel => exact ⟨i + 1, by omega, by go_num, Lib.hid (next_below hb.out hbn)⟩
      case measure => simp [intOf]; omega
theorem first_at {α : Type} {D : List α} {y : α} (h : y ∈ D) : ∃ k, k < D.length ∧ D[k]? = some y ∧ ∀ j : Nat, j < k → D[j]? ≠ some y := by
  induction D with
  | nil => cases h
  | cons a D ih =>
    by_cases e : a = y
    · exact ⟨0, by simp, by simp [e], fun j hj => by omega⟩
    · obtain ⟨k, h1, h2, h3⟩ := ih (by rcases List.mem_cons.1 h with h | h; exact absurd h.symm e; exact h)
      refine ⟨k + 1, by simp; omega, by simpa using h2, fun j hj => ?_⟩
      cases j with
      | zero => simpa using e
      | succ j => simpa using h3 j (by omega)
theorem containsFr_any (A Bw Bz : Option Addr) (c n lw cw lz cz pg pz : Nat) (D : List (List (Int × Int) × List Int)) (Wn : List (Int × Int)) (Z : List Int) (w : World) (hr : RdF w A D) (hn : n = D.length) (hn2 : n ≤ 1000) (hbd : ∀ x ∈ D, x.1.length ≤ 1000000 ∧ x.2.length ≤ 1000000) (hW : RdP w Bw Wn) (hZ : RdZ w Bz Z) (hlw : lw = Wn.length) (hlz : lz = Z.length)
    (b3 : lw ≤ 1000000) (b4 : lz ≤ 1000000) (c1 : w.cell? ⟨pg, 1, none⟩ = some (.slice Bw lw cw)) (c2 : w.cell? ⟨pz, 0, none⟩ = some (.slice Bz lz cz)) (hy : (Wn, Z) ∈ D) :
    Calls Try.prog 28 #[.slice A n c, .func (.func 29) #[] #[.pointer (some ⟨pg, 0, none⟩), .pointer (some ⟨pz, 0, none⟩)]] w fun e w' => e = .returned (.bool true) ∧ Below w.heap.size w w' := by
  obtain ⟨k, h1, h2, h3⟩ := first_at hy
  have HI := Lib.hid (indexFr_any A Bw Bz c n lw cw lz cz pg pz k D Wn Z w hr hn hn2 hbd hW hZ hlw hlz b3 b4 c1 c2 (by omega) h3 h2)
  have hk0 : decide ((0 : Int) ≤ (k : Int)) = true := by simp
  clear hr hn hbd hW hZ hlw hlz c1 c2 hy h1 h2 h3
  go_enter Try.func28, Try.ntmps28
  go_wp2_with fail
  refine HI.out.mono ?_
  rintro e w1 ⟨rfl, hb1⟩
  go_wp2_with fail
  go_ret
  exact ⟨rfl, hb1⟩
end
section
set_option maxRecDepth 100000
open Go.RowKit

/-- A value that came in as ints. -/
def OkInts (w : World) (v : Value) : Prop := ∃ (A : Option Addr) (c : Nat) (xs : List Int), v = .slice A xs.length c ∧ (∀ x ∈ xs, isI x) ∧ RdZ w A xs ∧ xs.length ≤ c ∧ c ≤ 9223372036854775807 ∧ (A = none → c = 0)
theorem OkInts.below {w w' : World} {v : Value} (h : OkInts w v) (hb : Below w.heap.size w w') : OkInts w' v := by
  obtain ⟨A, c, xs, rfl, a, r, l⟩ := h
  exact ⟨A, c, xs, rfl, a, r.below hb, l⟩
open Go.ChangeShapes Go.WideShapes in
theorem open_intsOk {H : Type} {enc : TypeId × Value → H} {W : World} {r : Reach} {b0 : Nat} {v : Value} {d : DataW H} {p : List MemPlace}
    (hv : Value.okWide Try.prog W r b0 41 v) (h : DataW.Trod enc Try.prog W 0 (fun _ => true) true 41 v d p) : OkInts W v := by
  obtain ⟨a0, len, cap, rfl⟩ := okWide_slice Try.underlying41 hv
  obtain ⟨fuel, hf⟩ := h
  rcases open_ints Try.underlying41 Try.underlying3 (by kernel_rfl) hf with ⟨hcs, _⟩ | ⟨x, l, c, zs, hcs, _, hl, hm, hz, _, hcell, hwz⟩
  · simp [Value.cells] at hcs
    obtain ⟨rfl, rfl, rfl⟩ := hcs
    exact ⟨none, 0, [], rfl, (by intro x hx; cases hx), (by intro q x hq; simp at hq), by simp, by simp, fun _ => rfl⟩
  · simp [Value.cells] at hcs
    obtain ⟨rfl, rfl, rfl⟩ := hcs
    have hzl : zs.length = cap := by simpa using hz
    have hlen : (zs.take len).length = len := by simp; omega
    refine ⟨some x, cap, zs.take len, by rw [hlen], ?_, ?_, by rw [hlen]; exact hl, by unfold maxLen at hm; omega, fun e => by cases e⟩
    · intro b hb
      have hb' := hwz b (List.mem_of_mem_take hb)
      simp [Lit.wf, IntKind.min, IntKind.max, IntKind.signed, IntKind.bits] at hb'
      unfold isI
      omega
    · intro q b hq
      have hql : q < len := by have := (List.getElem?_eq_some_iff.1 hq).1; omega
      have hc := hcell q (by omega)
      rw [List.getElem?_take, if_pos hql] at hq
      have : zs.getD q 0 = b := by simp [List.getD, hq]
      rw [this] at hc
      have hlt := World.block_lt_of_cell? W _ hc
      rw [block_add] at hlt
      exact ⟨x, rfl, hlt, hc⟩
end
section
set_option maxRecDepth 100000
open Go.RowKit

/-- Feet so far, called anew. -/
def renF (p : List Nat) (F : List Int) (t : Nat) : List Int := (F.take t).map (renZ p)
theorem renF_step {p : List Nat} {F : List Int} {t : Nat} {v : Int} (h : F[t]? = some v) : renF p F (t + 1) = renF p F t ++ [renZ p v] := by
  unfold renF
  rw [List.take_add_one, h, List.map_append]
  rfl
theorem renF_length (p : List Nat) (F : List Int) (t : Nat) : (renF p F t).length ≤ t := by
  unfold renF
  rw [List.length_map, List.length_take]
  omega
set_option maxHeartbeats 64000000 in
theorem names_ok (A B C : Option Addr) (c d f n m Nn : Nat) (E : List (Int × Int)) (bs : List Bool) (p : List Nat) (w : World) (hE : RdP w A E) (hB : RdB w B bs) (hC : RdZ w C (iz p)) (hn : n = E.length) (hm : m = bs.length) (hg : rightG (Nn : Nat) E = true) (hp : Perm Nn p) :
    Calls Try.prog 8 #[.agg #[.int .i64 (Nn : Nat), .slice A n c], .slice B m d, .slice C Nn f] w fun e w' => e = .returned (.bool true) ∧ Below w.heap.size w w' := by
  have hn6 : n ≤ 594 := by rw [hn]; exact (rightG_bounds hg).2.2
  have hN2 : Nn ≤ 200 := by have := (rightG_bounds hg).2.1; omega
  obtain ⟨X, hX⟩ : ∃ X, X = w.alloc (.cells #[.int .i64 (Nn : Nat), .slice A n c] 24) := ⟨_, rfl⟩
  have hb : Below w.heap.size w X := by rw [hX]; exact (Below.refl _ _).alloc (Nat.le_refl _) _
  have hXS : w.heap.size < X.heap.size := by rw [hX]; simp
  obtain ⟨j0, j1, _, _⟩ := cells_two (w := X) (by rw [hX]; exact heap_alloc_new w _)
  have HJ : Hid (∀ w', Below X.heap.size X w' → w'.cell? ⟨w.heap.size, 0, none⟩ = some (.int .i64 (Nn : Nat)) ∧ w'.cell? ⟨w.heap.size, 1, none⟩ = some (.slice A n c)) := fun w' hb =>
    ⟨by rw [hb.cell (by show w.heap.size < _; omega)]; exact j0, by rw [hb.cell (by show w.heap.size < _; omega)]; exact j1⟩
  have HE := Lib.hid (hE.below hb)
  have HBS := Lib.hid (hB.below hb)
  have HC := Lib.hid (hC.below hb)
  have HN := Lib.hid hn
  have HM := Lib.hid hm
  have HG := Lib.hid hg
  have HP := Lib.hid hp
  have HX := Lib.hid hX
  have HB := Lib.hid hb
  have HXS := Lib.hid hXS
  have HA1 := Lib.hid (apply_yesC A C c f n Nn E p X HE.out HC.out HN.out HG.out HP.out)
  obtain ⟨i4, hi4, hz0, hz1, hz2⟩ := info_partsI i64info
  clear hE hB hC hn hm hg hp hX hb hXS
  go_enter Try.func8, Try.ntmps8
  go_wp2_with fail
  rw [← HX.out]
  refine HA1.out.mono ?_
  rintro e w1 ⟨BF, cF, F, rfl, hF1, hF2, hF3, _, hFc, hb1⟩
  have HF1 := Lib.hid hF1
  have HF2 := Lib.hid hF2
  obtain ⟨X1, hX1⟩ : ∃ X1, X1 = w1.alloc (.cells #[.int .i64 (Nn : Nat), .slice BF n cF] 24) := ⟨_, rfl⟩
  have hbX1 : Below w1.heap.size w1 X1 := by rw [hX1]; exact (Below.refl _ _).alloc (Nat.le_refl _) _
  have HB1 := Lib.hid (next_below hb1 hbX1)
  have HF3 := Lib.hid (hF3.below hbX1)
  have HH : Hid (X1.heap[w1.heap.size]? = some (.cells #[.int .i64 (Nn : Nat), .slice BF n cF] 24 (0, 0))) := by show _ = _; rw [hX1]; exact heap_alloc_new w1 _
  have HX1 := Lib.hid hX1
  have hFl : n = F.length := by rw [hF1.length_eq, List.length_map, List.length_map]; exact HN.out
  have HFL := Lib.hid hFl
  have HR := rightS_any A c n (Nn : Nat) E X1 (HE.out.below HB1.out) HN.out
  obtain ⟨q, hq⟩ : ∃ q, rightS (Nn : Nat) E = q := ⟨_, rfl⟩
  rw [hq] at HR
  have HR := Lib.hid HR
  have HQ := Lib.hid hq
  clear hF1 hF2 hF3 hFc hb1 hX1 hbX1 hFl hq HA1 j0 j1
  obtain ⟨j0, j1⟩ := HJ.out X1 HB1.out
  rw [HX1.out] at j0 j1
  go_wp2_with fail
  rw [← HX1.out]
  refine HR.out.mono ?_
  rintro e w2 ⟨rfl, hb2⟩
  have HB2 := Lib.hid (next_below HB1.out hb2)
  have HH := Lib.hid (blk_below HH.out hb2)
  have HF3 := Lib.hid (HF3.out.below hb2)
  obtain ⟨ph, hph⟩ : ∃ ph, w1.heap.size = ph := ⟨_, rfl⟩
  rw [hph] at HH ⊢
  clear hb2 HR j0 j1 hph
  cases q with
  | false =>
    go_wp2_with fail
    refine (awake_any w2).mono ?_
    rintro e w3 ⟨rfl, hb3⟩
    go_wp2_with fail
    go_ret
    exact ⟨rfl, HB.out.trans ((next_below HB2.out hb3).mono (Nat.le_of_lt HXS.out))⟩
  | true =>
    have hqq := HQ.out
    unfold rightS at hqq
    rw [Bool.and_eq_true, decide_eq_true_iff] at hqq
    have hN30 : Nn ≤ 30 := by have := hqq.2; omega
    obtain ⟨V, hV⟩ : ∃ V, mkd E bs n = V := ⟨_, rfl⟩
    have hweb := chosen_web (bs := bs) HG.out HN.out
    have hvs := mkd_sub (bs := bs) HN.out
    rw [hV] at hweb hvs
    have HWEB := Lib.hid hweb
    have HVS := Lib.hid hvs
    have hVl : V.length ≤ 594 := by rw [← hV]; exact Nat.le_trans (mkd_le E bs n) hn6
    have HCH := chosen_any A B c d n m (Nn : Nat) E bs w2 (HE.out.below HB2.out) (HBS.out.below HB2.out) HN.out HM.out (by omega)
    rw [hV] at HCH
    have HCH := Lib.hid HCH
    have HVL := Lib.hid hVl
    clear hqq hweb hvs hV hVl
    obtain ⟨j0, j1⟩ := HJ.out w2 HB2.out
    go_wp2_with fail
    refine HCH.out.mono ?_
    rintro e w3 ⟨Bw, lw, cw, rfl, hrow, hb⟩
    obtain ⟨hlw, hrw⟩ := pcells_len hrow
    have hcap := row_cap hrow
    have HB3 := Lib.hid (next_below HB2.out hb)
    have HH := Lib.hid (blk_below HH.out hb)
    have HF3 := Lib.hid (HF3.out.below hb)
    have RW := Lib.hid hrw
    have HLW := Lib.hid hlw
    have hlb : lw ≤ 594 := by rw [hlw]; exact HVL.out
    have HCAP := Lib.hid hcap
    have hgV : rightG (Nn : Nat) V = true := sub_right HG.out HVS.out
    have HA2 := Lib.hid (apply_yesC Bw C cw f lw Nn V p w3 RW.out (HC.out.below HB3.out) HLW.out hgV HP.out)
    clear hrow hb hrw hlw HCH hcap hgV j0 j1
    obtain ⟨j0, j1⟩ := HJ.out w3 HB3.out
    go_wp2_with fail
    refine HA2.out.mono ?_
    rintro e w4 ⟨BV, cV, VN, rfl, hV1, hV2, hV3, _, hVc, hb4⟩
    have HREN : Hid (Ren Nn p E V F VN) := ⟨HP.out, HG.out, HF2.out, hV2, fun e he => HVS.out.subset he, HF1.out, hV1⟩
    obtain ⟨X2, hX2⟩ : ∃ X2, X2 = w4.alloc (.cells #[.int .i64 (Nn : Nat), .slice BV lw cV] 24) := ⟨_, rfl⟩
    have hbX2 : Below w4.heap.size w4 X2 := by rw [hX2]; exact (Below.refl _ _).alloc (Nat.le_refl _) _
    have hb42 := next_below hb4 hbX2
    have HB4 := Lib.hid (next_below HB3.out hb42)
    have HH := Lib.hid (blk_below HH.out hb42)
    have HF3 := Lib.hid (HF3.out.below hb42)
    have RW := Lib.hid (RW.out.below hb42)
    have RV := Lib.hid (hV3.below hbX2)
    have HNM : Hid (X2.heap[w4.heap.size]? = some (.cells #[.int .i64 (Nn : Nat), .slice BV lw cV] 24 (0, 0))) := by show _ = _; rw [hX2]; exact heap_alloc_new w4 _
    have hVNl : lw = VN.length := by rw [hV1.length_eq, List.length_map, List.length_map]; exact HLW.out
    have HVNL := Lib.hid hVNl
    have HVC := Lib.hid hVc
    have HX2 := Lib.hid hX2
    have HT := fragsTT A Bw c cw n lw (Nn : Nat) E V X2 (HE.out.below HB4.out) RW.out HN.out HLW.out HCAP.out.1 HCAP.out.2
    have hft : fragsT (Nn : Nat) E V = (fragsF Nn E V, 0) := by
      unfold fragsT
      rw [if_neg (by rw [HG.out]; simp), if_pos HWEB.out.1]
      rfl
    have hft2 : fragsT (Nn : Nat) F VN = (fragsF Nn F VN, 0) := by
      unfold fragsT
      rw [if_neg (by rw [HF2.out]; simp), if_pos HREN.out.okV]
      rfl
    have hsm := fragsT_small (Nn : Nat) E V (by rw [← HN.out]; omega)
    have hsm2 := fragsT_small (Nn : Nat) F VN (by rw [← HFL.out]; omega)
    rw [hft] at HT hsm
    rw [hft2] at hsm2
    have HT := Lib.hid HT
    have HSM := Lib.hid hsm
    have HSM2 := Lib.hid hsm2
    have HFT2 := Lib.hid hft2
    clear hft hft2 hsm hsm2 hV1 hV2 hV3 hVc hb4 hX2 hbX2 hb42 hVNl HA2 j0 j1
    obtain ⟨j0, j1⟩ := HJ.out X2 HB4.out
    rw [HX2.out] at j0 j1
    go_wp2_with fail
    rw [← HX2.out]
    refine HT.out.mono ?_
    rintro e w5 ⟨A5, l5, c5, rfl, hl5, r5, hb5⟩
    obtain ⟨pn, hpn⟩ : ∃ pn, w4.heap.size = pn := ⟨_, rfl⟩
    rw [hpn] at HNM ⊢
    have HB5 := Lib.hid (next_below HB4.out hb5)
    have HH := Lib.hid (blk_below HH.out hb5)
    have HNM := Lib.hid (blk_below HNM.out hb5)
    have HF3 := Lib.hid (HF3.out.below hb5)
    have RV := Lib.hid (RV.out.below hb5)
    have R5 := Lib.hid r5
    have hl5b : l5 ≤ 1000 := by rw [hl5]; exact HSM.out.1
    have HL5 := Lib.hid hl5
    have HT := fragsTT BF BV cF cV n lw (Nn : Nat) F VN w5 HF3.out RV.out HFL.out HVNL.out HVC.out.1 HVC.out.2
    rw [HFT2.out] at HT
    have HT := Lib.hid HT
    obtain ⟨h0, h1, _, _⟩ := cells_two HH.out
    obtain ⟨n0, n1, _, _⟩ := cells_two HNM.out
    clear hb5 r5 hl5 hpn HX2 j0 j1
    go_wp2_with fail
    refine HT.out.mono ?_
    rintro e w6 ⟨A6, l6, c6, rfl, hl6, r6, hb6⟩
    have HB6 := Lib.hid (next_below HB5.out hb6)
    have R5 := Lib.hid (R5.out.below hb6)
    have R6 := Lib.hid r6
    have hl65 : l6 = l5 := by
      rw [HL5.out]
      exact hl6.trans (HREN.out.many HWEB.out.1)
    subst hl65
    have HL6 := Lib.hid hl6
    have HB60 := Lib.hid (Below.refl w6.heap.size w6)
    clear hb6 r6 hl6 h0 h1 n0 n1 HT
    have hne1 : ((l6 : Int) != (l6 : Int)) = false := by simp
    have hne2 : (l6 != l6) = false := by simp
    go_wp2_with fail
    go_loopw [76] (fun s76 wr => ∃ i : Nat, i ≤ l6 ∧ s76 = .int .i64 i ∧ Hid (Below w6.heap.size w6 wr)) (fun s76 _ => l6 - (intOf s76).toNat)
    case atStart => exact ⟨0, Nat.zero_le _, rfl, HB60⟩
    case round =>
      obtain ⟨i, hi, rfl, hbel⟩ := hrel
      by_cases h1 : i < l6
      · have t1 : decide ((i : Int) < (l6 : Int)) = true := by simp; omega
        have hI0 : (0 : Int) ≤ (i : Int) := by omega
        have hI1 : (i : Int) < (l6 : Nat) := by omega
        obtain ⟨x, hx⟩ : ∃ x, (fragsF Nn E V)[i]? = some x := ⟨_, List.getElem?_eq_getElem (by have h : l6 = (fragsF Nn E V).length := HL5.out; omega)⟩
        obtain ⟨fq, e0, hfi⟩ := frag_at HG.out HWEB.out.1 hx
        obtain ⟨ad, B1, B2, x1, x2, rfl, hal, q0, q1, g1, g2⟩ := R5.out i x hx
        rw [← hbel.out.cell (World.block_lt_of_cell? _ _ q0)] at q0
        rw [← hbel.out.cell (World.block_lt_of_cell? _ _ q1)] at q1
        have hxs := HSM.out.2 x (List.mem_of_getElem? hx)
        have hxl : x.1.length ≤ 594 := by have := (frag_sublist hfi).length_le; have := HN.out; omega
        have hxf : x.2.length ≤ 30 := by rw [hfi.feet]; exact Nat.le_trans (feetR_le _ _ _) hN30
        have hgG : rightG (Nn : Nat) x.1 = true := sub_right HG.out (frag_sublist hfi)
        have hGE : ∀ e ∈ x.1, e ∈ E := fun e he => (frag_sublist hfi).subset he
        have hin := HREN.out.frag HWEB.out.1 (List.mem_of_getElem? hx)
        have hFn : ∀ v ∈ x.2, ∃ u : Nat, v = (u : Int) ∧ u < Nn := fun v hv => by
          rw [hfi.feet] at hv
          obtain ⟨u, h2, h3, _⟩ := feetR_mem.1 hv
          exact ⟨u, h3, h2⟩
        obtain ⟨G, F0⟩ := x
        simp only at q0 q1 g1 g2 hxs hxl hxf hgG hGE hin hFn
        obtain ⟨lg, hlg⟩ : ∃ lg, G.length = lg := ⟨_, rfl⟩
        obtain ⟨lf, hlf⟩ : ∃ lf, F0.length = lf := ⟨_, rfl⟩
        rw [hlg] at q0 hxl
        rw [hlf] at q1 hxf
        have HLG := Lib.hid hlg
        have HLF := Lib.hid hlf
        have HGG := Lib.hid hgG
        have HGE := Lib.hid hGE
        have HIN := Lib.hid hin
        have HFN := Lib.hid hFn
        obtain ⟨Y, hY⟩ : ∃ Y, Y = wr.alloc (.cells #[.slice B1 lg x1, .slice B2 lf x2] 43) := ⟨_, rfl⟩
        have hbY : Below wr.heap.size wr Y := by rw [hY]; exact (Below.refl _ _).alloc (Nat.le_refl _) _
        have HEB : Hid (Y.heap[wr.heap.size]? = some (.cells #[.slice B1 lg x1, .slice B2 lf x2] 43 (0, 0))) := by show _ = _; rw [hY]; exact heap_alloc_new wr _
        have HBY := Lib.hid (next_below hbel.out hbY)
        have HG1 := Lib.hid (g1.below HBY.out)
        have HG2 := Lib.hid (g2.below HBY.out)
        have HYY := Lib.hid hY
        have HA3 := Lib.hid (apply_yesC B1 C x1 f lg Nn G p Y HG1.out (HC.out.below (next_below HB6.out HBY.out)) hlg.symm HGG.out HP.out)
        clear hx hfi hlg hlf hbY hY hal g1 g2 hbel hxs hgG hGE hin hFn
        go_upto_region 13 with fail
        rw [← HYY.out]
        obtain ⟨pf, hpf⟩ : ∃ pf, wr.heap.size = pf := ⟨_, rfl⟩
        rw [hpf] at HEB ⊢
        have HYF : Hid (Y = wr.alloc (.cells #[.slice B1 lg x1, .slice B2 lf x2] 43)) := HYY
        clear q0 q1 hpf HYY HYF
        obtain ⟨r0, r1, _, _⟩ := cells_two HEB.out
        obtain ⟨j0, _⟩ := HJ.out Y (next_below HB6.out HBY.out)
        go_wp2_with fail
        refine HA3.out.mono ?_
        rintro e w7 ⟨BW, cW, Wn, rfl, hW1, hW2, hW3, _, _, hb7⟩
        have HWN := Lib.hid (HREN.out.want HGE.out hW1 hW2)
        obtain ⟨X3, hX3⟩ : ∃ X3, X3 = w7.alloc (.cells #[.int .i64 (Nn : Nat), .slice BW lg cW] 24) := ⟨_, rfl⟩
        have hbX3 : Below w7.heap.size w7 X3 := by rw [hX3]; exact (Below.refl _ _).alloc (Nat.le_refl _) _
        have hb73 := next_below hb7 hbX3
        have HB7 := Lib.hid (next_below HBY.out hb73)
        have HEB := Lib.hid (blk_below HEB.out hb73)
        have HG2 := Lib.hid (HG2.out.below hb73)
        have HW3 := Lib.hid (hW3.below hbX3)
        have HPW : Hid (X3.heap[w7.heap.size]? = some (.cells #[.int .i64 (Nn : Nat), .slice BW lg cW] 24 (0, 0))) := by show _ = _; rw [hX3]; exact heap_alloc_new w7 _
        have hs37 : X3.heap.size = w7.heap.size + 1 := by rw [hX3]; simp
        have HWL : Hid (lg = Wn.length) := by show _ = _; rw [hW1.length_eq, List.length_map, List.length_map]; exact HLG.out.symm
        obtain ⟨X4, hX4⟩ : ∃ X4, X4 = X3.alloc (.cells #[.slice none 0 0] 41) := ⟨_, rfl⟩
        have HB34 : Hid (Below X3.heap.size X3 X4) := by show Below _ _ _; rw [hX4]; exact (Below.refl _ _).alloc (Nat.le_refl _) _
        have HPZ : Hid (X4.heap[X3.heap.size]? = some (.cells #[.slice none 0 0] 41 (0, 0))) := by show _ = _; rw [hX4]; exact heap_alloc_new X3 _
        have HR0 : Hid (X4.ownsRow X3.heap.size 3 1 (.slice none 0 0) 0 (zs (renF p F0 0))) := World.ownsRow_nil _ _ _ _
        have HX34 : Hid (X4 = (w7.alloc (.cells #[.int .i64 (Nn : Nat), .slice BW lg cW] 24)).alloc (.cells #[.slice none 0 0] 41)) := by show _ = _; rw [hX4, hX3]
        obtain ⟨f0, f1, _, _⟩ := cells_two (blk_below HEB.out HB34.out)
        clear hW1 hW2 hW3 hb7 hb73 hX3 hX4 hbX3 HA3 r0 r1 j0
        go_upto_region 15 with fail
        rw [← HX34.out]
        rw [hs37] at HB34 HPZ HR0
        obtain ⟨pw, hpw⟩ : ∃ pw, w7.heap.size = pw := ⟨_, rfl⟩
        have hs3 : X3.heap.size = pw + 1 := by omega
        rw [hpw] at HPW HB34 HPZ HR0 ⊢
        have hx3s := HB7.out.size
        have hx6 : w6.heap.size ≤ pw + 1 := by omega
        have HS3 := Lib.hid hs3
        have HX6 := Lib.hid hx6
        have HX3S := Lib.hid hx3s
        clear hpw hs37 HX34 hs3 hx6 hx3s
        go_wp2_with fail
        clear f0 f1
        go_loopw [93, 21] (fun s93 s21 wn => ∃ (t cz : Nat) (Bz : Option Addr), t ≤ lf ∧ s93 = .int .i64 t ∧ Hid (wn.heap[pw + 1]? = some (.cells #[.slice Bz t cz] 41 (0, 0))) ∧ Hid (wn.ownsRow (pw + 1) 3 1 (.slice Bz t cz) t (zs (renF p F0 t))) ∧ Hid (Below (pw + 1) X3 wn)) (fun s93 _ _ => lf - (intOf s93).toNat)
        case atStart => exact ⟨0, 0, none, Nat.zero_le _, rfl, HPZ, HR0, HB34⟩
        case round =>
          clear HPZ HR0 HB34
          obtain ⟨t, cz, Bz, ht, rfl, hPZ, hRZ, hBZ⟩ := hrel
          have hBX : Below X3.heap.size X3 wr := by rw [HS3.out]; exact hBZ.out
          by_cases h2 : t < lf
          · have t2 : decide ((t : Int) < (lf : Int)) = true := by simp; omega
            have hT0 : (0 : Int) ≤ (t : Int) := by omega
            have hT1 : (t : Int) < (lf : Nat) := by omega
            obtain ⟨v, hv⟩ : ∃ v, F0[t]? = some v := ⟨_, List.getElem?_eq_getElem (by rw [HLF.out]; exact h2)⟩
            obtain ⟨bd, rfl, _, q0⟩ := (HG2.out.below (next_below HB7.out hBX |> fun _ => hBX)) t v hv
            have hst := renF_step (p := p) hv
            obtain ⟨u, rfl, hun⟩ := HFN.out v (List.mem_of_getElem? hv)
            have hbC : Below X.heap.size X wr := next_below HB6.out (next_below HB7.out hBX)
            obtain ⟨pc, rfl, _, q2⟩ := (HC.out.below hbC) u ((gn p u : Nat) : Int) (iz_at (by rw [HP.out.len]; exact hun))
            have q2l := World.block_lt_of_cell? _ _ q2
            obtain ⟨hU0, hU1⟩ : (0 : Int) ≤ (u : Int) ∧ (u : Int) < (Nn : Nat) := by omega
            obtain ⟨y, hy⟩ : ∃ y, gn p u = y := ⟨_, rfl⟩
            rw [show renZ p (u : Int) = ((gn p u : Nat) : Int) by unfold renZ; rw [Int.toNat_natCast], hy] at hst
            rw [hy] at q2
            have HST := Lib.hid hst
            have hzl := lt_of_block hPZ.out
            have hnz : (Value.slice Bz t cz).ownBlock ≠ some (pw + 1) := own_ne8 hRZ.out hPZ.out (by decide)
            have hge : ∀ q, (Value.slice Bz t cz).ownBlock = some q → pw + 1 < q := fun q hq => by
              have h1 := (hRZ.out.lt q hq).1
              rcases Nat.lt_or_eq_of_le h1 with h3 | h3
              · exact h3
              · exact absurd (by rw [hq, h3]) hnz
            have hpcz : pc.block < pw + 1 := by
              have hCl : pc.block < X.heap.size := by
                obtain ⟨pc2, e2, hl2, _⟩ := HC.out u ((gn p u : Nat) : Int) (iz_at (by rw [HP.out.len]; exact hun))
                injection e2 with e2
                rw [e2]
                exact hl2
              have := HB6.out.size
              have := HX6.out
              omega
            have m0 : wr.drew.cell? ⟨pw + 1, 0, none⟩ = some (.slice Bz t cz) := cell_of hPZ.out 0
            have m1 : wr.drew.frozen? ⟨pw + 1, 0, none⟩ = false := free_of hPZ.out 0
            have m2 : (wr.drew.alloc (.cells #[.int .i64 (y : Nat)] 3)).cell? ⟨pw + 1, 0, none⟩ = some (.slice Bz t cz) := (World.cell?_alloc_lt wr.drew (.cells #[.int .i64 (y : Nat)] 3) ⟨pw + 1, 0, none⟩ hzl).trans m0
            have m3 : (wr.alloc (.cells #[.int .i64 (y : Nat)] 3)).drew.cell? ⟨pw + 1, 0, none⟩ = some (.slice Bz t cz) := m2
            have HFA := Lib.hid (World.ownsRow.alloc (World.ownsRow.drew hRZ.out) (.cells #[.int .i64 (y : Nat)] 3))
            have HLO : Hid (∀ w', (wr.drew.alloc (.cells #[.int .i64 (y : Nat)] 3)).grownBy w' (Value.slice Bz t cz).ownBlock → ∀ b, b ≤ pw + 1 → w'.heap[b]? = wr.heap[b]?) := fun w' hg' b hb => by
              rw [hg'.block b (by simp; omega) (fun e => by have := hge b e.symm; omega)]
              exact ((Below.refl wr.heap.size wr).alloc (Nat.le_refl _) _).block b (by omega)
            have HBLW : Hid (∀ w', (wr.drew.alloc (.cells #[.int .i64 (y : Nat)] 3)).grownBy w' (Value.slice Bz t cz).ownBlock → Below (pw + 1) X3 w') := fun w' hg' => by
              have h3 : Below (pw + 1) X3 wr.drew := hBZ.out.drew
              exact (h3.alloc (by simp; omega) _).grown hg' (by simp; omega) (fun q e => by have := hge q e; omega)
            have hcy : ∀ w' : World, (∀ b, b ≤ pw + 1 → w'.heap[b]? = wr.heap[b]?) → w'.cell? (pc.add u) = some (.int .i64 (y : Nat)) := fun w' hw => by
              rw [← q2]
              exact World.cell?_of_block (hw _ (by rw [block_add]; omega))
            have HCY := Lib.hid hcy
            have HPZZ := Lib.hid hPZ.out
            have hfin : Hid (∀ (w7 : World) (g' cap' : Nat), w7.ownsRow (pw + 1) 3 1 (.slice (some ⟨g', 0, none⟩) (t + 1) cap') (t + 1) (zs (renF p F0 t) ++ [.int .i64 (y : Nat)]) → (wr.drew.alloc (.cells #[.int .i64 (y : Nat)] 3)).grownBy w7 (Value.slice Bz t cz).ownBlock →
                Hid ((w7.setCell ⟨pw + 1, 0, none⟩ (.slice (some ⟨g', 0, none⟩) (t + 1) cap')).heap[pw + 1]? = some (.cells #[.slice (some ⟨g', 0, none⟩) (t + 1) cap'] 41 (0, 0))) ∧ Hid ((w7.setCell ⟨pw + 1, 0, none⟩ (.slice (some ⟨g', 0, none⟩) (t + 1) cap')).ownsRow (pw + 1) 3 1 (.slice (some ⟨g', 0, none⟩) (t + 1) cap') (t + 1) (zs (renF p F0 (t + 1)))) ∧ Hid (Below (pw + 1) X3 (w7.setCell ⟨pw + 1, 0, none⟩ (.slice (some ⟨g', 0, none⟩) (t + 1) cap')))) := fun w7 g' cap' hr hg => by
              have hz7 := (HLO.out w7 hg (pw + 1) (Nat.le_refl _)).trans HPZZ.out
              have hg7z : g' ≠ pw + 1 := fun e => own_ne8 hr hz7 (by decide) (by rw [e]; rfl)
              refine ⟨?_, ?_, ?_⟩
              · show _ = _
                rw [Go.Joins.block_setCell hz7]
                rfl
              · show World.ownsRow _ _ _ _ _ _ _
                rw [HST.out, show zs (renF p F0 t ++ [(y : Int)]) = zs (renF p F0 t) ++ [.int .i64 (y : Nat)] by simp [zs, zv]]
                exact row_far hr (p := ⟨pw + 1, 0, none⟩) hg7z _
              · exact (HBLW.out w7 hg).setCell (p := ⟨pw + 1, 0, none⟩) (Nat.le_refl _) _
            have hD : (wr.drew).cell? (pc.add u) = some (.int .i64 (y : Nat)) := q2
            have HPCZ := Lib.hid hpcz
            clear hv hst hRZ hPZ hBZ hBX hbC hnz hge hpcz hcy
            go_upto_region 18 with fail
            refine wp_region_held_drew (S := (fun w' => w'.cell? (pc.add u) = some (.int .i64 (y : Nat)))) (by kernel_rfl) hD (fun hS => ?_)
            refine wpAnyH_take (i := 1) (v := ?_) rfl (by kernel_rfl) (by kernel_rfl) (by kernel_rfl) (fun _ _ _ h => h) (Or.inl ⟨by rfl, ?_⟩) hS ?_
            rotate_left
            · intro wz hSw; (try dsimp only at hSw); go_simp; (try with_reducible rfl)
            try simp only [List.getElem_toArray, List.getElem_cons_zero, List.getElem_cons_succ, Act.put, List.setIfInBounds_toArray, List.set_cons_zero, List.set_cons_succ]
            refine wpAnyH_take (i := 2) (v := ?_) rfl (by kernel_rfl) (by kernel_rfl) (by kernel_rfl) (fun _ _ _ h => h) (Or.inl ⟨by rfl, ?_⟩) hS ?_
            rotate_left
            · intro wz hSw; (try dsimp only at hSw); go_simp; (try with_reducible rfl)
            try simp only [List.getElem_toArray, List.getElem_cons_zero, List.getElem_cons_succ, Act.put, List.setIfInBounds_toArray, List.set_cons_zero, List.set_cons_succ]
            refine wpAnyH_take (i := 3) (v := ?_) rfl (by kernel_rfl) (by kernel_rfl) (by kernel_rfl) (fun _ _ _ h => h) (Or.inl ⟨by rfl, ?_⟩) hS ?_
            rotate_left
            · intro wz hSw; (try dsimp only at hSw); go_simp; (try with_reducible rfl)
            try simp only [List.getElem_toArray, List.getElem_cons_zero, List.getElem_cons_succ, Act.put, List.setIfInBounds_toArray, List.set_cons_zero, List.set_cons_succ]
            refine wpAnyH_take (i := 4) (v := ?_) rfl (by kernel_rfl) (by kernel_rfl) (by kernel_rfl) (fun _ _ _ h => h) (Or.inl ⟨by rfl, ?_⟩) hS ?_
            rotate_left
            · intro wz hSw; (try dsimp only at hSw); go_simp; (try with_reducible rfl)
            try simp only [List.getElem_toArray, List.getElem_cons_zero, List.getElem_cons_succ, Act.put, List.setIfInBounds_toArray, List.set_cons_zero, List.set_cons_succ]
            refine wpAnyH_ready (rs := [0, 5]) (by kernel_rfl) (by simp) (AllReadyH.cons rfl (fun K hK => ?_) (AllReadyH.cons rfl (fun K hK => ?_) AllReadyH.nil))
            · skip
              go_simp
              refine hK.out _ _ hS (fun _ => ?_)
              clear hK K
              try simp only [List.getElem_toArray, List.getElem_cons_zero, List.getElem_cons_succ, Act.put, List.setIfInBounds_toArray, List.set_cons_zero, List.set_cons_succ]
              refine wpAnyH_ready (rs := [5]) (by kernel_rfl) (by simp) (AllReadyH.cons rfl (fun K hK => ?_) AllReadyH.nil)
              go_simp
              have hS := (World.cell?_alloc_lt wr.drew (.cells #[.int .i64 (y : Nat)] 3) (pc.add u) q2l).trans hS
              refine hK.out _ _ hS (fun _ => ?_)
              clear hK K
              try simp only [List.getElem_toArray, List.getElem_cons_zero, List.getElem_cons_succ, Act.put, List.setIfInBounds_toArray, List.set_cons_zero, List.set_cons_succ]
              refine wpAnyH_ready (rs := [6]) (by kernel_rfl) (by simp) (AllReadyH.cons rfl (fun K hK => ?_) AllReadyH.nil)
              refine step_append_lies _ rfl (.tmp 97) (.tmp 102) 41 rfl (pw + 1) 3 i4 (.int .i64 0) 1 8 Try.underlying41 hi4 hz0 hz1 hz2 rfl (by decide) (.slice Bz t cz) t (zs (renF p F0 t)) (by simp [Act.eval]) HFA.out ⟨wr.heap.size, 0, none⟩ 1 1 [.int .i64 (y : Nat)] (by simp [Act.eval]) rfl (by intro j u' hj; rw [← hj, add_off]; exact (show (wr.alloc (.cells #[.int .i64 (y : Nat)] 3)).cell? ⟨wr.heap.size, j, none⟩ = _ from (by rw [World.cell?_alloc_at _ _ _ _ rfl]; simp))) (by simp [Value.oneCell']) (by omega) (by simp [maxLen]; omega) (by omega) (by simp only [World.size_alloc, World.size_drew]; omega) (wr.heap.size + 1) (by simp only [World.size_alloc, World.size_drew]) ?_
              intro g' cap' w7 hrow7 hgr7 hor7 hlt7
              have hS := HCY.out w7 (HLO.out w7 hgr7)
              have n0 := cell_of ((HLO.out w7 hgr7 (pw + 1) (Nat.le_refl _)).trans HPZZ.out) 0
              have n1 := free_of ((HLO.out w7 hgr7 (pw + 1) (Nat.le_refl _)).trans HPZZ.out) 0
              refine hK.out _ _ hS (fun _ => ?_)
              clear hK K
              try simp only [List.getElem_toArray, List.getElem_cons_zero, List.getElem_cons_succ, Act.put, List.setIfInBounds_toArray, List.set_cons_zero, List.set_cons_succ]
              refine wpAnyH_ready (rs := [7]) (by kernel_rfl) (by simp) (AllReadyH.cons rfl (fun K hK => ?_) AllReadyH.nil)
              go_simp
              obtain ⟨HQ1, HQ2, HQ3⟩ := hfin.out w7 g' cap' hrow7 hgr7
              have hS : (w7.setCell ⟨pw + 1, 0, none⟩ (.slice (some ⟨g', 0, none⟩) (t + 1) cap')).cell? (pc.add u) = some (.int .i64 (y : Nat)) := (World.cell?_setCell_far _ _ _ _ (by rw [block_add]; show pw + 1 ≠ pc.block; have := HPCZ.out; omega)).trans hS
              refine hK.out _ _ hS (fun _ => ?_)
              clear hK K
              try simp only [List.getElem_toArray, List.getElem_cons_zero, List.getElem_cons_succ, Act.put, List.setIfInBounds_toArray, List.set_cons_zero, List.set_cons_succ]
              refine wpAnyH_done (by kernel_rfl) ?_ _
              clear hrow7 hgr7 n0 n1 hS
              go_wp2_with fail
              go_roundw
              case rel => exact ⟨t + 1, cap', _, by omega, by go_num, HQ1, HQ2, HQ3⟩
              case measure => simp [intOf]; omega
            · skip
              go_simp
              have hS := (World.cell?_alloc_lt wr.drew (.cells #[.int .i64 (y : Nat)] 3) (pc.add u) q2l).trans hS
              refine hK.out _ _ hS (fun _ => ?_)
              clear hK K
              try simp only [List.getElem_toArray, List.getElem_cons_zero, List.getElem_cons_succ, Act.put, List.setIfInBounds_toArray, List.set_cons_zero, List.set_cons_succ]
              refine wpAnyH_ready (rs := [0]) (by kernel_rfl) (by simp) (AllReadyH.cons rfl (fun K hK => ?_) AllReadyH.nil)
              go_simp
              refine hK.out _ _ hS (fun _ => ?_)
              clear hK K
              try simp only [List.getElem_toArray, List.getElem_cons_zero, List.getElem_cons_succ, Act.put, List.setIfInBounds_toArray, List.set_cons_zero, List.set_cons_succ]
              refine wpAnyH_ready (rs := [6]) (by kernel_rfl) (by simp) (AllReadyH.cons rfl (fun K hK => ?_) AllReadyH.nil)
              refine step_append_lies _ rfl (.tmp 97) (.tmp 102) 41 rfl (pw + 1) 3 i4 (.int .i64 0) 1 8 Try.underlying41 hi4 hz0 hz1 hz2 rfl (by decide) (.slice Bz t cz) t (zs (renF p F0 t)) (by simp [Act.eval]) HFA.out ⟨wr.heap.size, 0, none⟩ 1 1 [.int .i64 (y : Nat)] (by simp [Act.eval]) rfl (by intro j u' hj; rw [← hj, add_off]; exact (show (wr.alloc (.cells #[.int .i64 (y : Nat)] 3)).cell? ⟨wr.heap.size, j, none⟩ = _ from (by rw [World.cell?_alloc_at _ _ _ _ rfl]; simp))) (by simp [Value.oneCell']) (by omega) (by simp [maxLen]; omega) (by omega) (by simp only [World.size_alloc, World.size_drew]; omega) (wr.heap.size + 1) (by simp only [World.size_alloc, World.size_drew]) ?_
              intro g' cap' w7 hrow7 hgr7 hor7 hlt7
              have hS := HCY.out w7 (HLO.out w7 hgr7)
              have n0 := cell_of ((HLO.out w7 hgr7 (pw + 1) (Nat.le_refl _)).trans HPZZ.out) 0
              have n1 := free_of ((HLO.out w7 hgr7 (pw + 1) (Nat.le_refl _)).trans HPZZ.out) 0
              refine hK.out _ _ hS (fun _ => ?_)
              clear hK K
              try simp only [List.getElem_toArray, List.getElem_cons_zero, List.getElem_cons_succ, Act.put, List.setIfInBounds_toArray, List.set_cons_zero, List.set_cons_succ]
              refine wpAnyH_ready (rs := [7]) (by kernel_rfl) (by simp) (AllReadyH.cons rfl (fun K hK => ?_) AllReadyH.nil)
              go_simp
              obtain ⟨HQ1, HQ2, HQ3⟩ := hfin.out w7 g' cap' hrow7 hgr7
              have hS : (w7.setCell ⟨pw + 1, 0, none⟩ (.slice (some ⟨g', 0, none⟩) (t + 1) cap')).cell? (pc.add u) = some (.int .i64 (y : Nat)) := (World.cell?_setCell_far _ _ _ _ (by rw [block_add]; show pw + 1 ≠ pc.block; have := HPCZ.out; omega)).trans hS
              refine hK.out _ _ hS (fun _ => ?_)
              clear hK K
              try simp only [List.getElem_toArray, List.getElem_cons_zero, List.getElem_cons_succ, Act.put, List.setIfInBounds_toArray, List.set_cons_zero, List.set_cons_succ]
              refine wpAnyH_done (by kernel_rfl) ?_ _
              clear hrow7 hgr7 n0 n1 hS
              go_wp2_with fail
              go_roundw
              case rel => exact ⟨t + 1, cap', _, by omega, by go_num, HQ1, HQ2, HQ3⟩
              case measure => simp [intOf]; omega
          · obtain rfl : t = lf := by omega
            have t2 : decide ((t : Int) < (t : Int)) = false := by simp
            have hall : renF p F0 t = F0.map (renZ p) := by unfold renF; rw [← HLF.out, List.take_length]
            have hrow := hRZ.out
            rw [hall] at hrow
            have HSO := Lib.hid (sortI_any (pw + 1) t (.slice Bz t cz) (F0.map (renZ p)) wr hrow (by omega))
            have hnz : (Value.slice Bz t cz).ownBlock ≠ some (pw + 1) := own_ne8 hRZ.out hPZ.out (by decide)
            have HGE2 : Hid (∀ q, (Value.slice Bz t cz).ownBlock = some q → pw + 1 < q) := fun q hq => by
              have h1 := (hRZ.out.lt q hq).1
              rcases Nat.lt_or_eq_of_le h1 with h3 | h3
              · exact h3
              · exact absurd (by rw [hq, h3]) hnz
            have m0 := cell_of hPZ.out 0
            have HZL := Lib.hid (lt_of_block hPZ.out)
            have HPZZ := Lib.hid hPZ.out
            have HBZZ := Lib.hid hBZ.out
            clear hall hrow hnz hPZ hRZ hBZ hBX
            go_wp2_with fail
            refine HSO.out.mono ?_
            rintro e w8 ⟨rfl, hrow8, hg8⟩
            have hkeep : ∀ b, b ≤ pw + 1 → w8.heap[b]? = wr.heap[b]? := fun b hb => hg8.block b (by have := HZL.out; omega) (fun e => by have := HGE2.out b e.symm; omega)
            have HB8 : Hid (Below (pw + 1) X3 w8) := HBZZ.out.grown hg8 (by have := HZL.out; omega) (fun q e => by have := HGE2.out q e; omega)
            have hB8 : Below X3.heap.size X3 w8 := by rw [HS3.out]; exact HB8.out
            have HB68 := Lib.hid (next_below HB7.out hB8)
            have HZR := Lib.hid (owns_rd hrow8)
            have c1 : w8.cell? ⟨pw, 1, none⟩ = some (.slice BW lg cW) := by
              rw [hB8.cell (by show pw < _; rw [HS3.out]; omega)]
              exact cell_of HPW.out 1
            have c2 : w8.cell? ⟨pw + 1, 0, none⟩ = some (.slice Bz t cz) := cell_of ((hkeep (pw + 1) (Nat.le_refl _)).trans HPZZ.out) 0
            have HCN := Lib.hid (containsFr_any A6 BW Bz c6 l6 lg cW t cz pw (pw + 1) (fragsF Nn F VN) Wn (srtZ (F0.map (renZ p))) w8 (R6.out.below HB68.out) HL6.out (by omega) HSM2.out.2 (HW3.out.below hB8) HZR.out HWL.out (by rw [srtZ_length, List.length_map]; exact HLF.out.symm) (by omega) (by omega) c1 c2 (by rw [HWN.out]; exact HIN.out))
            clear hrow8 hg8 hkeep hB8 c1 c2 m0 HSO
            go_wp2_with fail
            refine HCN.out.mono ?_
            rintro e w9 ⟨rfl, hb9⟩
            have HB69 := Lib.hid (next_below HB68.out hb9)
            clear hb9 HCN
            go_wp2_with fail
            go_roundw
            case rel => exact ⟨i + 1, by omega, by go_num, HB69⟩
            case measure => simp [intOf]; omega
      · obtain rfl : i = l6 := by omega
        have t1 : decide ((i : Int) < (i : Int)) = false := by simp
        go_wp2_with fail
        refine (awake_any wr).mono ?_
        rintro e w9 ⟨rfl, hb⟩
        have HB9 := Lib.hid (next_below HB6.out (next_below hbel.out hb))
        clear hb
        go_wp2_with fail
        go_ret
        exact ⟨rfl, HB.out.trans (HB9.out.mono (Nat.le_of_lt HXS.out))⟩
set_option maxHeartbeats 16000000 in
theorem names_no (A B C : Option Addr) (c d f n m k : Nat) (N : Int) (E : List (Int × Int)) (xs : List Int) (w : World) (hE : RdP w A E) (hC : RdZ w C xs) (hn : n = E.length) (hk : k = xs.length) (hkb : k ≤ 9223372036854775807) (hx : ¬ (rightG N E = true ∧ rightP xs = true ∧ (xs.length : Int) = N)) :
    Calls Try.prog 8 #[.agg #[.int .i64 N, .slice A n c], .slice B m d, .slice C k f] w fun e w' => e = .returned (.bool true) ∧ Below w.heap.size w w' := by
  obtain ⟨X, hX⟩ : ∃ X, X = w.alloc (.cells #[.int .i64 N, .slice A n c] 24) := ⟨_, rfl⟩
  have hb : Below w.heap.size w X := by rw [hX]; exact (Below.refl _ _).alloc (Nat.le_refl _) _
  have hXS : w.heap.size < X.heap.size := by rw [hX]; simp
  obtain ⟨er, her⟩ : ∃ er : Int, (if rightG N E then (30 : Int) else 20) = er := ⟨_, rfl⟩
  have hne : (er != 0) = true := by rw [← her]; cases rightG N E <;> rfl
  have HA := apply_noL A C c f n k N E xs X (hE.below hb) (hC.below hb) hn hk hkb hx
  rw [her] at HA
  have HA := Lib.hid HA
  have HX := Lib.hid hX
  have HB := Lib.hid hb
  have HXS := Lib.hid hXS
  clear hE hC hn hk hx hX hb hXS her
  go_enter Try.func8, Try.ntmps8
  go_wp2_with fail
  rw [← HX.out]
  refine HA.out.mono ?_
  rintro e w1 ⟨rfl, hb1⟩
  have HB1 := Lib.hid hb1
  clear hb1 HA
  go_wp2_with fail
  refine (awake_any _).mono ?_
  rintro e w3 ⟨rfl, hb3⟩
  go_wp2_with fail
  go_ret
  exact ⟨rfl, HB.out.trans ((next_below HB1.out (next_below ((Below.refl _ _).alloc (Nat.le_refl _) _) hb3)).mono (Nat.le_of_lt HXS.out))⟩
theorem names_walk (v0 v1 v2 : Value) (w : World) (h0 : OkGraph w v0) (h1 : OkBools w v1) (h2 : OkInts w v2) : Calls Try.prog 8 #[v0, v1, v2] w fun e w' => e = .returned (.bool true) ∧ Below w.heap.size w w' := by
  obtain ⟨N, A, c, E, rfl, _, _, hr, _, _, _⟩ := h0
  obtain ⟨B, d, bs, rfl, hb, _, _⟩ := h1
  obtain ⟨C, f, xs, rfl, _, hs, hl, hm, _⟩ := h2
  by_cases hx : rightG N E = true ∧ rightP xs = true ∧ (xs.length : Int) = N
  · obtain ⟨a1, a2, a3⟩ := hx
    obtain ⟨p, rfl, hp, _⟩ := rightP_iff.1 a2
    rw [iz_length] at a3
    subst a3
    rw [iz_length]
    exact names_ok A B C c d f E.length bs.length p.length E bs p w hr hb hs rfl rfl a1 hp
  · exact names_no A B C c d f E.length bs.length xs.length N E xs w hr hs rfl rfl (by omega) hx
end
end Go.Proofs.Ytlkfpphahfendaa
