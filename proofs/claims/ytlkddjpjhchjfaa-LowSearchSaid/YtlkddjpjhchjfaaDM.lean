/- The statements' own small functions of layer 5: right, edge, without a vertex' edges. -/
import Derived.Test.YtlkddjpjhchjfaaD6
import Derived.Test.YtlkddjpjhchjfaaBK
import Derived.Test.YtlkddjpjhchjfaaW29
import Derived.Deep.AppendLies
import Derived.Laws.Rows
import Derived.Laws.ResultCell
namespace Go.Proofs.Ytlkddjpjhchjfaa
set_option maxRecDepth 100000
open Go.RowKit
attribute [local go_sem ↓] min_run

/-- A graph that is looked at here. -/
def right24 (N : Int) (E : List (Int × Int)) : Bool := rightG N E && decide (N ≤ 24)
theorem right24_any (A : Option Addr) (c n : Nat) (N : Int) (E : List (Int × Int)) (w : World) (hr : RdP w A E) (hn : n = E.length) :
    Calls Try.prog 27 #[.agg #[.int .i64 N, .slice A n c]] w fun e w' => e = .returned (.bool (right24 N E)) ∧ Below w.heap.size w w' := by
  obtain ⟨X, hX⟩ : ∃ X, X = w.alloc (.cells #[.int .i64 N, .slice A n c] 24) := ⟨_, rfl⟩
  have hb : Below w.heap.size w X := by rw [hX]; exact (Below.refl _ _).alloc (Nat.le_refl _) _
  have hXS : w.heap.size < X.heap.size := by rw [hX]; simp
  obtain ⟨j0, j1, _, _⟩ := cells_two (w := X) (by rw [hX]; exact heap_alloc_new w _)
  have HJ : Hid (∀ w', Below X.heap.size X w' → w'.cell? ⟨w.heap.size, 0, none⟩ = some (.int .i64 N) ∧ w'.cell? ⟨w.heap.size, 1, none⟩ = some (.slice A n c)) := fun w' hb =>
    ⟨by rw [hb.cell (by show w.heap.size < _; omega)]; exact j0, by rw [hb.cell (by show w.heap.size < _; omega)]; exact j1⟩
  have HR := right_any A c n N E X (hr.below hb) hn
  obtain ⟨p, hp⟩ : ∃ p, rightG N E = p := ⟨_, rfl⟩
  unfold right24
  rw [hp] at HR ⊢
  have HR := Lib.hid HR
  have HX := Lib.hid hX
  have HB := Lib.hid hb
  clear hr hn hX hb hp
  cases h30 : decide (N ≤ 24)
  all_goals
    have h31 : decide (N ≤ 24) = decide (N ≤ 24) := rfl
    clear h31
    go_enter Try.func27, Try.ntmps27
    go_wp2_with fail
    rw [← HX.out]
    refine HR.out.mono ?_
    rintro e w1 ⟨rfl, hb1⟩
    have HB1 := Lib.hid hb1
    clear hb1
    obtain ⟨k0, k1⟩ := HJ.out w1 HB1.out
    cases p
    all_goals
      go_wp2_with fail
      go_ret
      exact ⟨rfl, HB.out.trans (HB1.out.mono (Nat.le_of_lt hXS))⟩
theorem max_run (ats : Array TypeId) (ty : TypeId) (a b : Int) (w : World) : (Builtin.max_ ats ty #[.int .i64 a, .int .i64 b]).run Try.prog w = .ok (.int .i64 (max a b)) w := by
  show Result.ok (Value.int .i64 (if a < b then b else a)) w = _
  by_cases h : a < b
  · rw [if_pos h, show max a b = b by omega]
  · rw [if_neg h, show max a b = a by omega]
attribute [local go_sem ↓] max_run
set_option maxHeartbeats 4000000 in
theorem edge_any (a b : Int) (w : World) : Calls Try.prog 33 #[.int .i64 a, .int .i64 b] w fun e w' => e = .returned (.agg #[.int .i64 (min a b), .int .i64 (max a b)]) ∧ Below w.heap.size w w' := by
  obtain ⟨m, hm⟩ : ∃ m, min a b = m := ⟨_, rfl⟩
  obtain ⟨M, hM⟩ : ∃ M, max a b = M := ⟨_, rfl⟩
  rw [hm, hM]
  have HB : Hid (Below w.heap.size w (w.alloc (.cells #[.int .i64 m, .int .i64 M] 51))) := (Below.refl _ _).alloc (Nat.le_refl _) _
  go_enter Try.func33, Try.ntmps33
  go_wp2_with fail
  refine bodyPost_ret (results_cell_row rfl _ _ w.heap.size 51 #[.int .i64 m, .int .i64 M] (0, 0) _ rfl (heap_alloc_new w _) Try.underlying51 rfl (by kernel_rfl)) rfl ?_
  exact ⟨rfl, HB.out⟩
set_option maxHeartbeats 4000000 in
theorem clos_any (a b v : Int) (pv : Nat) (w : World) (hc : w.cell? ⟨pv, 0, none⟩ = some (.int .i64 v)) : Calls Try.prog 31 #[.agg #[.int .i64 a, .int .i64 b], .pointer (some ⟨pv, 0, none⟩)] w fun e w' => e = .returned (.bool (a == v || b == v)) ∧ Below w.heap.size w w' := by
  have hb : Below w.heap.size w (w.alloc (.cells #[.int .i64 a, .int .i64 b] 51)) := (Below.refl _ _).alloc (Nat.le_refl _) _
  have hc2 : (w.alloc (.cells #[.int .i64 a, .int .i64 b] 51)).cell? ⟨pv, 0, none⟩ = some (.int .i64 v) := by rw [hb.cell (World.block_lt_of_cell? _ _ hc)]; exact hc
  have HB := Lib.hid hb
  clear hb hc
  cases h1 : (a == v) <;> cases h2 : (b == v)
  all_goals
    go_enter Try.func31, Try.ntmps31
    go_wp2_with fail
    go_ret
    exact ⟨rfl, HB.out⟩
theorem off_step {E : List (Int × Int)} {k v : Nat} {e : Int × Int} (he : E[k]? = some e) : offE v (E.take (k + 1)) = offE v (E.take k) ++ (if (e.1 == (v : Int) || e.2 == (v : Int)) = true then [] else [e]) := by
  unfold offE
  rw [List.take_add_one, he, Option.toList_some, List.filter_append]
  congr 1
  cases h : (e.1 == (v : Int) || e.2 == (v : Int))
  · rw [List.filter_cons_of_pos (by rw [h]; rfl)]
    rfl
  · rw [List.filter_cons_of_neg (by rw [h]; simp)]
    rfl
theorem off_le (E : List (Int × Int)) (v : Nat) : (offE v E).length ≤ E.length := List.length_filter_le _ _
theorem pinfoM : (Try.prog.info? 51).map (fun i => (i.zero, i.size, i.bytes)) = some (some (.agg #[.int .i64 0, .int .i64 0]), 2, 16) := by kernel_rfl
theorem pcells_oneM (S : List (Int × Int)) (e : Int × Int) : pcells (S ++ [e]) = pcells S ++ [.int .i64 e.1, .int .i64 e.2] := by simp [pcells, zv]
/-- What lies while edges are gone through: what is kept so far. -/
structure WI (W3 : World) (hb N v k : Nat) (E : List (Int × Int)) (V : Value) (w : World) : Prop where
  box : w.heap[hb]? = some (.cells #[.int .i64 (N : Nat), V] 24 (0, 0))
  row : w.ownsRow (hb + 1) 51 2 V (offE v (E.take k)).length (pcells (offE v (E.take k)))
  bel : Below hb W3 w
theorem WI.below {W3 w w' : World} {hb N v k : Nat} {E : List (Int × Int)} {V : Value} (h : WI W3 hb N v k E V w) (hw : Below w.heap.size w w') : WI W3 hb N v k E V w' :=
  ⟨blk_below h.box hw, row_below h.row hw, h.bel.trans (hw.mono (Nat.le_of_lt (lt_of_block h.box)))⟩
set_option maxHeartbeats 32000000 in
theorem without_any (A : Option Addr) (c n N v pv : Nat) (E : List (Int × Int)) (w : World) (hr : RdP w A E) (hn : n = E.length) (hs : n ≤ 1000000) (hc : w.cell? ⟨pv, 0, none⟩ = some (.int .i64 (v : Nat))) :
    Calls Try.prog 30 #[.agg #[.int .i64 (N : Nat), .slice A n c], .func (.func 31) #[] #[.pointer (some ⟨pv, 0, none⟩)]] w fun e w' => ∃ (A' : Option Addr) (c' : Nat), e = .returned (.agg #[.int .i64 (N : Nat), .slice A' (offE v E).length c']) ∧ RdP w' A' (offE v E) ∧ Below w.heap.size w w' := by
  obtain ⟨X, hX⟩ : ∃ X, X = w.alloc (.cells #[.int .i64 (N : Nat), .slice A n c] 24) := ⟨_, rfl⟩
  have hb : Below w.heap.size w X := by rw [hX]; exact (Below.refl _ _).alloc (Nat.le_refl _) _
  obtain ⟨j0, j1, _, _⟩ := cells_two (w := X) (by rw [hX]; exact heap_alloc_new w _)
  have hXs : X.heap.size = w.heap.size + 1 := by rw [hX]; simp
  obtain ⟨X2, hX2⟩ : ∃ X2, X2 = (X.alloc (.cells #[.int .i64 0, .slice none 0 0] 24)) := ⟨_, rfl⟩
  have hb2 : Below X.heap.size X X2 := by rw [hX2]; exact (Below.refl _ _).alloc (Nat.le_refl _) _
  have hX2s : X2.heap.size = w.heap.size + 1 + 1 := by rw [hX2]; simp [hXs]
  obtain ⟨W3, hW3⟩ : ∃ W3, W3 = (X2.alloc (.cells #[.int .i64 (N : Nat), .slice none 0 0] 24)) := ⟨_, rfl⟩
  have hb3 : Below X2.heap.size X2 W3 := by rw [hW3]; exact (Below.refl _ _).alloc (Nat.le_refl _) _
  have hbX3 : Below X.heap.size X W3 := next_below hb2 hb3
  have hb03 : Below w.heap.size w W3 := next_below hb hbX3
  have HJ : Hid (∀ w', Below (w.heap.size + 1 + 1) W3 w' → w'.cell? ⟨w.heap.size, 1, none⟩ = some (.slice A n c) ∧ w'.cell? ⟨pv, 0, none⟩ = some (.int .i64 (v : Nat)) ∧ RdP w' A E ∧ w'.heap[w.heap.size + 1]? = some (.cells #[.int .i64 0, .slice none 0 0] 24 (0, 0)) ∧ Below w.heap.size w w') := fun w' hw => by
    have hlt := World.block_lt_of_cell? _ _ hc
    have hw2 : Below w.heap.size w w' := hb03.trans (hw.mono (by omega))
    refine ⟨?_, ?_, ?_, ?_, hw2⟩
    · rw [hw.cell (by show w.heap.size < _; omega), hbX3.cell (by show w.heap.size < _; omega)]; exact j1
    · rw [hw2.cell hlt]; exact hc
    · intro q e hq
      obtain ⟨ad, e1, hl, h0, h1⟩ := hr q e hq
      exact ⟨ad, e1, Nat.lt_of_lt_of_le hl hw2.size, by rw [hw2.cell (by rw [block_add]; exact hl)]; exact h0, by rw [hw2.cell (by show (ad.add (q * 2)).block < _; rw [block_add]; exact hl)]; exact h1⟩
    · rw [hw.block _ (by omega), hb3.block _ (by omega), hX2, ← hXs]
      exact heap_alloc_new X _
  have HW0 : Hid (WI W3 (w.heap.size + 1 + 1) N v 0 E (.slice none 0 0) W3) := ⟨by rw [hW3, ← hX2s]; exact heap_alloc_new X2 _, World.ownsRow_nil _ _ _ _, Below.refl _ _⟩
  have HWE : Hid (W3 = (((w.alloc (.cells #[.int .i64 (N : Nat), .slice A n c] 24)).alloc (.cells #[.int .i64 0, .slice none 0 0] 24)).alloc (.cells #[.int .i64 (N : Nat), .slice none 0 0] 24))) := by show _ = _; rw [hW3, hX2, hX]
  have HN := Lib.hid hn
  obtain ⟨i1, hi1, hy0, hy1, hy2⟩ := info_partsI pinfoM
  clear hr hn hc hX hb hX2 hb2 hW3 hb3 hbX3 hb03 hXs hX2s j0 j1
  go_enter Try.func30, Try.ntmps30
  go_upto_region 2 with fail
  rw [← HWE.out]
  obtain ⟨j1, _⟩ := HJ.out W3 HW0.out.bel
  go_wp2_with fail
  clear j1
  go_loopw [14] (fun s14 wr => ∃ (k : Nat) (V : Value), k ≤ n ∧ s14 = .int .i64 k ∧ Hid (WI W3 (w.heap.size + 1 + 1) N v k E V wr)) (fun s14 _ => n - (intOf s14).toNat)
  case atStart => exact ⟨0, _, Nat.zero_le _, rfl, HW0⟩
  case round =>
    clear HW0
    obtain ⟨k, V, hk, rfl, hI⟩ := hrel
    by_cases h1 : k < n
    · have t1 : decide ((k : Int) < (n : Int)) = true := by simp; omega
      have hK0 : (0 : Int) ≤ (k : Int) := by omega
      have hK1 : (k : Int) < (n : Nat) := by omega
      obtain ⟨e, he⟩ : ∃ e, E[k]? = some e := ⟨_, List.getElem?_eq_getElem (by rw [← HN.out]; exact h1)⟩
      obtain ⟨_, _, hrd, _, _⟩ := HJ.out wr hI.out.bel
      obtain ⟨ad, rfl, _, p0, p1⟩ := hrd k e he
      have hst := off_step (v := v) he
      obtain ⟨x, y⟩ := e
      simp only at p0 p1 hst
      have hIY := hI.out.below ((Below.refl wr.heap.size wr).alloc (Nat.le_refl _) (.cells #[.int .i64 x, .int .i64 y] 51))
      have hEB : (wr.alloc (.cells #[.int .i64 x, .int .i64 y] 51)).heap[wr.heap.size]? = some (.cells #[.int .i64 x, .int .i64 y] 51 (0, 0)) := heap_alloc_new wr _
      have hVpe : V.ownBlock ≠ some wr.heap.size := fun e => by
        have := (hI.out.row.lt _ e).2
        omega
      have hle : (offE v (E.take k)).length ≤ 1000000 := by
        have := off_le (E.take k) v
        rw [List.length_take] at this
        omega
      clear he hrd hI
      go_upto_region 5 with fail
      obtain ⟨pe, hpe⟩ : ∃ pe, wr.heap.size = pe := ⟨_, rfl⟩
      generalize wr.alloc (.cells #[.int .i64 x, .int .i64 y] 51) = Y at *
      rw [hpe] at hEB hVpe ⊢
      clear p0 p1 hpe
      obtain ⟨r0, r1, _, _⟩ := cells_two hEB
      obtain ⟨_, hpv, _, _, _⟩ := HJ.out Y hIY.bel
      have HCL := Lib.hid (clos_any x y (v : Int) pv Y hpv)
      obtain ⟨bb, hbb⟩ : ∃ bb, (x == (v : Int) || y == (v : Int)) = bb := ⟨_, rfl⟩
      rw [hbb] at HCL hst
      have HIY := Lib.hid hIY
      have HEB := Lib.hid hEB
      clear hpv hbb hIY hEB
      go_wp2_with fail
      refine HCL.out.mono ?_
      rintro e Y2 ⟨rfl, hb2⟩
      have HI2 := Lib.hid (HIY.out.below hb2)
      have HE2 := Lib.hid (blk_below HEB.out hb2)
      clear hb2 r0 r1 HCL HIY HEB
      cases bb with
      | true =>
        rw [if_pos rfl, List.append_nil] at hst
        have HST := Lib.hid hst
        clear hst
        go_wp2_with fail
        go_roundw
        case rel => exact ⟨k + 1, V, by omega, by go_num, ⟨HI2.out.box, by rw [HST.out]; exact HI2.out.row, HI2.out.bel⟩⟩
        case measure => simp [intOf]; omega
      | false =>
        rw [if_neg (by simp)] at hst
        have HST := Lib.hid hst
        obtain ⟨r0, r1, _, _⟩ := cells_two HE2.out
        obtain ⟨g0, g1, g2, g3⟩ := cells_two HI2.out.box
        have HFA := Lib.hid (HI2.out.row.alloc (.cells #[.int .i64 x, .int .i64 y] 51))
        have HLT : Hid (∀ (i : Nat) (u : Value), [Value.int .i64 x, .int .i64 y][i]? = some u → (Y2.alloc (.cells #[.int .i64 x, .int .i64 y] 51)).cell? ((⟨Y2.heap.size, 0, none⟩ : Addr).add i) = some u) := fun i u hi => by
          rw [← hi, add_off, World.cell?_alloc_at _ _ _ _ rfl]
          simp
        have hbl := lt_of_block HI2.out.box
        have hvb : V.ownBlock ≠ some (w.heap.size + 1 + 1) := fun e => by have := (HI2.out.row.lt _ e).1; omega
        obtain ⟨lo, hlo⟩ : ∃ lo, (offE v (E.take k)).length = lo := ⟨_, rfl⟩
        rw [hlo] at HFA hle
        have HLO := Lib.hid hlo
        have HFIN : Hid (∀ (w7 : World) (g7 c7 : Nat), w7.ownsRow (w.heap.size + 1 + 1 + 1) 51 2 (.slice (some ⟨g7, 0, none⟩) (lo + 1) c7) (lo + 1) (pcells (offE v (E.take k)) ++ [.int .i64 x, .int .i64 y]) → (Y2.alloc (.cells #[.int .i64 x, .int .i64 y] 51)).grownBy w7 V.ownBlock →
            w7.frozen? ⟨w.heap.size + 1 + 1, 1, none⟩ = false ∧ w7.cell? ⟨w.heap.size + 1 + 1, 1, none⟩ = some V ∧ WI W3 (w.heap.size + 1 + 1) N v (k + 1) E (.slice (some ⟨g7, 0, none⟩) (lo + 1) c7) (w7.setCell ⟨w.heap.size + 1 + 1, 1, none⟩ (.slice (some ⟨g7, 0, none⟩) (lo + 1) c7))) := by
          intro w7 g7 c7 hr7 hg7
          have hb7 : w7.heap[w.heap.size + 1 + 1]? = some (.cells #[.int .i64 (N : Nat), V] 24 (0, 0)) := by
            rw [hg7.block _ (by simp; omega) (fun e => hvb e.symm)]
            exact blk_below HI2.out.box ((Below.refl _ _).alloc (Nat.le_refl _) _)
          have hgl := hr7.lt g7 rfl
          refine ⟨free_of hb7 _, by rw [cell_of hb7]; rfl, ?_, ?_, ?_⟩
          · rw [Go.Joins.block_setCell hb7]
            rfl
          · rw [HST.out, List.length_append, HLO.out, pcells_oneM]
            exact row_far hr7 (p := ⟨w.heap.size + 1 + 1, 1, none⟩) (by show g7 ≠ w.heap.size + 1 + 1; omega) _
          · have h8 : Below (w.heap.size + 1 + 1) Y2 w7 := (((Below.refl Y2.heap.size Y2).alloc (Nat.le_refl _) _).mono (by omega)).grown hg7 (by simp; omega) (fun q e => by have := (HI2.out.row.lt q e).1; omega)
            exact (HI2.out.bel.trans h8).setCell (by show w.heap.size + 1 + 1 ≤ w.heap.size + 1 + 1; omega) _
        have hsz : w.heap.size + 1 + 1 + 1 ≤ Y2.heap.size := by omega
        clear hst hlo hvb
        go_wp2_with (at_builtin; refine wpList_append_lies _ rfl (.tmp 23) (.tmp 25) 22 rfl (w.heap.size + 1 + 1 + 1) 51 i1 (.agg #[.int .i64 0, .int .i64 0]) 2 16 Try.underlying22 hi1 hy0 hy1 hy2 rfl (by decide) _ lo (pcells (offE v (E.take k))) rfl HFA.out ⟨Y2.heap.size, 0, none⟩ 1 1 [.int .i64 x, .int .i64 y] (by simp [Act.eval]) rfl HLT.out (by simp [Value.oneCell']) (by omega) (by simp [maxLen]; omega) (by omega) (by simp; omega) (Y2.heap.size + 1) (by simp) ?_; intro g7 c7 w7 hr7 hg7 ho7 hlt7; obtain ⟨hfz, hcz, hWI⟩ := HFIN.out w7 g7 c7 hr7 hg7; have HWI := Lib.hid hWI; clear hr7 hg7 ho7 hlt7 hWI)
        go_roundw
        case rel => exact ⟨k + 1, _, by omega, by go_num, HWI⟩
        case measure => simp [intOf]; omega
    · obtain rfl : n = k := by omega
      have t1 : decide ((n : Int) < (n : Int)) = false := by simp
      obtain ⟨_, _, _, hres, hbel⟩ := HJ.out wr hI.out.bel
      obtain ⟨g0, g1, _, _⟩ := cells_two hI.out.box
      obtain ⟨u0, u1, u2, u3⟩ := cells_two hres
      have HIF := Lib.hid hI.out
      have HBE := Lib.hid hbel
      have HRES := Lib.hid hres
      have hrow := hI.out.row
      rw [show E.take n = E by rw [HN.out]; exact List.take_length] at hrow
      obtain ⟨A', c', rfl, hrd, _⟩ := own_rdP hrow
      have HRD := Lib.hid hrd
      clear hI hbel hres hrow hrd
      go_wp2_with fail
      have hb1 : (wr.setCell ⟨w.heap.size + 1, 0, none⟩ (.int .i64 (N : Nat))).heap[w.heap.size + 1]? = some (.cells #[.int .i64 (N : Nat), .slice none 0 0] 24 (0, 0)) := by rw [Go.Joins.block_setCell HRES.out]; rfl
      have hb2 : ((wr.setCell ⟨w.heap.size + 1, 0, none⟩ (.int .i64 (N : Nat))).setCell ⟨w.heap.size + 1, 1, none⟩ (.slice A' (offE v E).length c')).heap[w.heap.size + 1]? = some (.cells #[.int .i64 (N : Nat), .slice A' (offE v E).length c'] 24 (0, 0)) := by rw [Go.Joins.block_setCell hb1]; rfl
      refine bodyPost_ret (results_cell_row rfl _ _ (w.heap.size + 1) 24 #[.int .i64 (N : Nat), .slice A' (offE v E).length c'] (0, 0) _ rfl hb2 Try.underlying24 rfl (by kernel_rfl)) rfl ?_
      refine ⟨A', c', rfl, ?_, (HBE.out.setCell (p := ⟨w.heap.size + 1, 0, none⟩) (by show w.heap.size ≤ w.heap.size + 1; omega) _).setCell (p := ⟨w.heap.size + 1, 1, none⟩) (by show w.heap.size ≤ w.heap.size + 1; omega) _⟩
      have hrow := HIF.out.row
      rw [show E.take n = E by rw [HN.out]; exact List.take_length] at hrow
      have hbl : A' = none ∨ ∃ g, A' = some ⟨g, 0, none⟩ ∧ w.heap.size + 1 + 1 + 1 ≤ g := by
        rcases Joins.ownsRow_forms hrow with ⟨e, _⟩ | ⟨g, cap, e⟩
        · injection e with e _ _
          exact .inl e
        · injection e with e1 e2 e3
          subst e1
          exact .inr ⟨g, rfl, (hrow.lt g rfl).1⟩
      have hfar : ∀ g, A' = some ⟨g, 0, none⟩ → g ≠ w.heap.size + 1 := fun g e => by
        rcases hbl with h | ⟨g', h, h2⟩
        · rw [h] at e; cases e
        · rw [h] at e
          injection e with e
          injection e with e
          omega
      rcases hbl with rfl | ⟨g, rfl, hg2⟩
      · intro q e hq
        obtain ⟨ad, e1, _⟩ := HRD.out q e hq
        cases e1
      · have h1 := row_far (row_far hrow (p := ⟨w.heap.size + 1, 0, none⟩) (hfar g rfl) (.int .i64 (N : Nat))) (p := ⟨w.heap.size + 1, 1, none⟩) (hfar g rfl) (.slice (some ⟨g, 0, none⟩) (offE v E).length c')
        obtain ⟨A3, c3, e3, h3, _⟩ := own_rdP h1
        injection e3 with e3 _ _
        rw [← e3] at h3
        exact h3
end Go.Proofs.Ytlkddjpjhchjfaa
