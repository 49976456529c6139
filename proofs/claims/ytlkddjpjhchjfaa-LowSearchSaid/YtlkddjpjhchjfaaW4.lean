/- Who is beside whom. -/
import Derived.Test.YtlkddjpjhchjfaaW3
import Derived.Deep.RegionLaw
namespace Go.Proofs.Ytlkddjpjhchjfaa
set_option maxRecDepth 100000
open Go.RowKit

def other (v : Int) (e : Int × Int) : Option Int := if e.1 = v then some e.2 else if e.2 = v then some e.1 else none
/-- Those beside a vertex, as the edges come. -/
def bes (E : List (Int × Int)) (v : Int) : List Int := E.filterMap (other v)
def tabG (N : Nat) (E : List (Int × Int)) : List (List Int) := (List.range N).map fun (v : Nat) => bes E v
theorem tabG_length (N : Nat) (E : List (Int × Int)) : (tabG N E).length = N := by simp [tabG]
theorem tabG_get {N : Nat} {E : List (Int × Int)} {v : Nat} (h : v < N) : (tabG N E)[v]? = some (bes E v) := by simp [tabG, h]
theorem tabG_nil (N : Nat) : tabG N [] = List.replicate N [] := by
  apply List.ext_getElem?
  intro i
  by_cases h : i < N
  · rw [tabG_get h]; simp [bes, h]
  · rw [List.getElem?_eq_none (by rw [tabG_length]; omega), List.getElem?_eq_none (by simp; omega)]
theorem bes_snoc (E : List (Int × Int)) (e : Int × Int) (v : Int) : bes (E ++ [e]) v = bes E v ++ (match other v e with | some x => [x] | none => []) := by
  simp only [bes, List.filterMap_append]
  congr 1
  simp only [List.filterMap_cons, List.filterMap_nil]
  cases other v e <;> rfl
/-- Behind one more edge two rows are longer. -/
theorem tabG_snoc {N a b : Nat} {E : List (Int × Int)} (ha : a < N) (hb : b < N) (hab : a ≠ b) :
    tabG N (E ++ [((a : Int), (b : Int))]) = ((tabG N E).set a (bes E a ++ [(b : Int)])).set b (bes E b ++ [(a : Int)]) := by
  apply List.ext_getElem?
  intro i
  by_cases h : i < N
  · rw [tabG_get h, bes_snoc]
    by_cases h1 : i = b
    · subst h1
      rw [List.getElem?_set_self (by simp [tabG_length, h])]
      have : other (i : Int) ((a : Int), (i : Int)) = some (a : Int) := by unfold other; rw [if_neg (by simp; omega), if_pos rfl]
      rw [this]
    · rw [List.getElem?_set_ne (fun e => h1 e.symm)]
      by_cases h2 : i = a
      · subst h2
        rw [List.getElem?_set_self (by rw [tabG_length]; exact h)]
        have : other (i : Int) ((i : Int), (b : Int)) = some (b : Int) := by unfold other; rw [if_pos rfl]
        rw [this]
      · rw [List.getElem?_set_ne (fun e => h2 e.symm), tabG_get h]
        have : other (i : Int) ((a : Int), (b : Int)) = none := by unfold other; rw [if_neg (by simp; omega), if_neg (by simp; omega)]
        rw [this]
        simp
  · rw [List.getElem?_eq_none (by rw [tabG_length]; omega), List.getElem?_eq_none (by simp [tabG_length]; omega)]

theorem own_ne {w : World} {base size n g : Nat} {e e' : TypeId} {v : Value} {xs : List Value} {cs : Array Value} {f : Nat × Nat} (h : w.ownsRow base e size v n xs) (hg : w.heap[g]? = some (.cells cs e' f)) (hne : e ≠ e') : v.ownBlock ≠ some g := by
  obtain ⟨_, h0 | ⟨g', cap, cur, ev, _, h2, _⟩⟩ := h
  · rw [h0.1]; simp [Value.ownBlock]
  · rw [ev]
    intro e1
    have e2 : g' = g := by simpa [Value.ownBlock] using e1
    subst e2
    rw [h2] at hg
    injection hg with hg
    injection hg with _ h3 _
    exact hne h3

set_option maxHeartbeats 8000000 in
theorem beside_any (A : Option Addr) (c n N : Nat) (E : List (Int × Int)) (w : World) (hr : RdP w A E) (hn : n = E.length) (hg : rightG (N : Nat) E = true) :
    Calls Try.prog 29 #[.agg #[.int .i64 (N : Nat), .slice A n c]] w fun e w' => ∃ (B : Nat) (us : List Value), e = .returned (.slice (some ⟨B, 0, none⟩) N N) ∧ Rows w' w.heap.size B us (tabG N E) ∧ w.heap.size ≤ B ∧ Below w.heap.size w w' := by
  obtain ⟨i0, hi0, hz0, hz1, hz2⟩ := info_partsI i64info
  obtain ⟨i1, hj0, hk0, hk1, hk2⟩ := info_partsI rowinfo
  obtain ⟨_, hN, hE6⟩ := rightG_bounds hg
  have hN2 : N ≤ 200 := by omega
  have hmk : ∀ w' : World, (Instr.makeSlice 48 (.int .i64 N) (.int .i64 N)).run Try.prog w' = .ok (.slice (some ⟨w'.heap.size, 0, none⟩) N N) (w'.alloc (.cells (List.replicate N (Value.slice none 0 0)).toArray 35)) := by
    intro w'
    have hr := run_make (P := Try.prog) w' 48 35 i1 (.slice none 0 0) Try.underlying48 hj0 hk0 .i64 .i64 N N (by omega) (by omega) (by rw [hk2]; omega) (by omega)
    rw [hk1, Nat.mul_one] at hr
    rw [hr]
    congr 3
    apply Array.ext'
    show (madeCells #[Value.slice none 0 0] N).toList = _
    rw [toList_madeCells_one]
  have HR := Lib.hid (hr.below ((Below.refl _ _).alloc (Nat.le_refl _) (.cells #[.int .i64 (N : Nat), .slice A n c] 24)))
  have HB := Lib.hid ((Below.refl w.heap.size w).alloc (Nat.le_refl _) (.cells #[.int .i64 (N : Nat), .slice A n c] 24))
  have HN := Lib.hid hn
  have HG := Lib.hid hg
  obtain ⟨W, hW⟩ : ∃ W, W = w.alloc (.cells #[.int .i64 (N : Nat), .slice A n c] 24) := ⟨_, rfl⟩
  rw [← hW] at HR HB
  have HWS : Hid (w.heap.size < W.heap.size) := by show _ < _; rw [hW]; simp
  obtain ⟨j0, j1, _, _⟩ := cells_two (w := W) (by rw [hW]; exact heap_alloc_new w _)
  have HW := Lib.hid hW
  have hn6 : n ≤ 594 := by omega
  clear hW hr hn hg hN hE6 hj0 hk0 hk1 hk2
  go_enter Try.func29, Try.ntmps29
  go_wp2_with fail
  rw [← HW.out]
  refine (right_any A c n (N : Nat) E W HR.out HN.out).mono ?_
  rintro e w1 ⟨rfl, hb1⟩
  rw [HG.out]
  have c0 : w1.cell? ⟨w.heap.size, 0, none⟩ = some (.int .i64 (N : Nat)) := by rw [(old_cells hb1).1 _ _ HWS.out]; exact j0
  have c1 : w1.cell? ⟨w.heap.size, 1, none⟩ = some (.slice A n c) := by rw [(old_cells hb1).1 _ _ HWS.out]; exact j1
  have HB1 := Lib.hid hb1
  have HR1 := Lib.hid (HR.out.below hb1)
  have hlt1 : w.heap.size < w1.heap.size := Nat.lt_of_lt_of_le HWS.out hb1.size
  have hrow : Rows (w1.alloc (.cells (Array.replicate N (Value.slice none 0 0)) 35)) w1.heap.size w1.heap.size (List.replicate N (.slice none 0 0)) (tabG N (E.take 0)) := by
    rw [List.take_zero, tabG_nil]
    refine Rows.made ?_ _
    rw [heap_alloc_new]
    simp
  have hbw : Below w1.heap.size w1 (w1.alloc (.cells (Array.replicate N (Value.slice none 0 0)) 35)) := (Below.refl _ _).alloc (Nat.le_refl _) _
  have HRO := Lib.hid hrow
  have HBW := Lib.hid hbw
  clear hb1 HR j0 j1 hrow hbw
  go_wp2_with fail
  clear hmk
  go_loopw [15] (fun s wr => ∃ k : Nat, k ≤ n ∧ s = .int .i64 k ∧ Hid (∃ us, Rows wr w1.heap.size w1.heap.size us (tabG N (E.take k))) ∧ Hid (Below w1.heap.size w1 wr)) (fun s _ => n - (intOf s).toNat)
  case atStart => exact ⟨0, Nat.zero_le _, rfl, ⟨_, HRO.out⟩, HBW⟩
  case round =>
    obtain ⟨k, hk, rfl, hus, hbel⟩ := hrel
    by_cases hlt : k < n
    · obtain ⟨e, he⟩ : ∃ e, E[k]? = some e := ⟨_, List.getElem?_eq_getElem (by rw [← HN.out]; exact hlt)⟩
      obtain ⟨b1, b2, b3⟩ := rightG_edge HG.out he
      obtain ⟨ad, rfl, hal, p1, p2⟩ := (HR1.out.below hbel.out) k e he
      obtain ⟨e0, e1⟩ := e
      simp only [] at b1 b2 b3 p1 p2
      obtain ⟨a, rfl⟩ := Int.eq_ofNat_of_zero_le b1
      obtain ⟨b, rfl⟩ := Int.eq_ofNat_of_zero_le (show 0 ≤ e1 by omega)
      obtain ⟨us, hR⟩ := hus.out
      have hI0 : (0 : Int) ≤ (k : Int) := by omega
      have hI1 : (k : Int) < (n : Nat) := by omega
      have hA0 : (0 : Int) ≤ (a : Int) := by omega
      have hA1 : (a : Int) < (N : Nat) := by omega
      have hB0 : (0 : Int) ≤ (b : Int) := by omega
      have hB1 : (b : Int) < (N : Nat) := by omega
      have haN : a < N := by omega
      have hbN : b < N := by omega
      have hab : a ≠ b := by omega
      have hwlt : w1.heap.size < wr.heap.size := lt_of_block hR.1
      have hxl : ∀ v : Int, (bes (E.take k) v).length ≤ 594 := fun v => Nat.le_trans (List.length_filterMap_le _ _) (by rw [List.length_take]; omega)
      have HXL := Lib.hid hxl
      clear hxl b1 b2 b3 hus
      have hEB : (wr.alloc (.cells #[.int .i64 (a : Int), .int .i64 (b : Int)] 51)).heap[wr.heap.size]? = some (.cells #[.int .i64 (a : Int), .int .i64 (b : Int)] 51 (0, 0)) := heap_alloc_new wr _
      have hRX : Rows (wr.alloc (.cells #[.int .i64 (a : Int), .int .i64 (b : Int)] 51)) w1.heap.size w1.heap.size us (tabG N (E.take k)) := hR.below ((Below.refl _ _).alloc (Nat.le_refl _) _)
      have hBX : Below w1.heap.size w1 (wr.alloc (.cells #[.int .i64 (a : Int), .int .i64 (b : Int)] 51)) := hbel.out.alloc hbel.out.size _
      have hXz : (wr.alloc (.cells #[.int .i64 (a : Int), .int .i64 (b : Int)] 51)).heap.size = wr.heap.size + 1 := by simp
      clear hR
      go_upto_region 7 with fail
      clear p1 p2
      generalize wr.alloc (.cells #[.int .i64 (a : Int), .int .i64 (b : Int)] 51) = X at *
      go_cut [15] from 15 to 45 (fun s15 wx => s15 = .int .i64 k ∧ ∃ us2, Rows wx w1.heap.size w1.heap.size us2 ((tabG N (E.take k)).set a (bes (E.take k) a ++ [(b : Int)])) ∧ wx.heap[wr.heap.size]? = some (.cells #[.int .i64 (a : Int), .int .i64 (b : Int)] 51 (0, 0)) ∧ Below w1.heap.size w1 wx)
      case first =>
        have hul : us.length = N := by rw [hRX.2.1]; simp [tabG_length]
        obtain ⟨u, hu⟩ : ∃ u, us[a]? = some u := ⟨_, List.getElem?_eq_getElem (by omega)⟩
        have r2 : X.cell? ⟨w1.heap.size, a, none⟩ = some u := by rw [cell_of hRX.1]; simp [hu]
        have hou := (hRX.2.2.1 a u _ hu (tabG_get (E := E.take k) haN)).1
        have hbu := (hRX.2.2.1 a u _ hu (tabG_get (E := E.take k) haN)).2
        have hue := own_ne hou hEB (by decide)
        have hBl : w1.heap.size < X.heap.size := lt_of_block hRX.1
        have hEl : wr.heap.size < X.heap.size := lt_of_block hEB
        have hxla : (bes (E.take k) a).length ≤ 594 := HXL.out _
        have hta := (tabG_get (E := E.take k) haN)
        generalize hxa : bes (E.take k) a = xa at hou hxla hta
        have HXA := Lib.hid hxa
        have HOW := Lib.hid (World.ownsRow.alloc (World.ownsRow.drew hou) (.cells #[.int .i64 (b : Int)] 3))
        have hXA : Below X.heap.size X (X.drew.alloc (.cells #[.int .i64 (b : Int)] 3)) := (Below.refl _ _).drew.alloc (by simp only [World.size_drew]; omega) _
        have hNB : Hid (∀ (w' : World), (X.drew.alloc (.cells #[.int .i64 (b : Int)] 3)).grownBy w' u.ownBlock → w'.cell? ⟨w1.heap.size, a, none⟩ = some u ∧ w'.frozen? ⟨w1.heap.size, a, none⟩ = false ∧ w'.cell? ⟨wr.heap.size, 0, none⟩ = some (.int .i64 (a : Int)) ∧ w'.cell? ⟨wr.heap.size, 1, none⟩ = some (.int .i64 (b : Int)) ∧ wr.heap.size + 1 ≤ w'.heap.size ∧ Below w1.heap.size w1 w' ∧ w'.heap[wr.heap.size]? = some (.cells #[.int .i64 (a : Int), .int .i64 (b : Int)] 51 (0, 0))) := by
          intro w' hg
          have hh : w'.heap[w1.heap.size]? = some (.cells us.toArray 35 (0, 0)) := by
            rw [hg.block _ (by simp only [World.size_alloc, World.size_drew]; omega) (fun e => hbu e.symm)]
            exact blk_below hRX.1 hXA
          have he : w'.heap[wr.heap.size]? = some (.cells #[.int .i64 (a : Int), .int .i64 (b : Int)] 51 (0, 0)) := by
            rw [hg.block _ (by simp only [World.size_alloc, World.size_drew]; omega) (fun e => hue e.symm)]
            exact blk_below hEB hXA
          obtain ⟨e1, e2, _, _⟩ := cells_two he
          have hz := hg.size
          simp only [World.size_alloc, World.size_drew] at hz
          exact ⟨by rw [cell_of hh]; simp [hu], free_of hh a, e1, e2, by omega, (next_below hBX hXA).grown hg (by simp only [World.size_alloc, World.size_drew]; omega) (fun g e => (hou.lt g e).1), he⟩
        have hfin : Hid (∀ (w7 : World) (g' cap' : Nat), w7.ownsRow w1.heap.size 3 1 (.slice (some ⟨g', 0, none⟩) (xa.length + 1) cap') (xa.length + 1) (zs xa ++ [.int .i64 (b : Int)]) → (X.drew.alloc (.cells #[.int .i64 (b : Int)] 3)).grownBy w7 u.ownBlock → (u.ownBlock = some g' ∨ g' = X.heap.size + 1) →
            Rows (w7.setCell ⟨w1.heap.size, a, none⟩ (.slice (some ⟨g', 0, none⟩) (xa.length + 1) cap')) w1.heap.size w1.heap.size (us.set a (.slice (some ⟨g', 0, none⟩) (xa.length + 1) cap')) ((tabG N (E.take k)).set a (xa ++ [(b : Int)])) ∧
            (w7.setCell ⟨w1.heap.size, a, none⟩ (.slice (some ⟨g', 0, none⟩) (xa.length + 1) cap')).heap[wr.heap.size]? = some (.cells #[.int .i64 (a : Int), .int .i64 (b : Int)] 51 (0, 0)) ∧
            Below w1.heap.size w1 (w7.setCell ⟨w1.heap.size, a, none⟩ (.slice (some ⟨g', 0, none⟩) (xa.length + 1) cap'))) := by
          intro w7 g' cap' ho hg hor
          obtain ⟨_, _, _, _, _, hb7, he7⟩ := hNB w7 hg
          refine ⟨Rows.push hRX hXA hu hta ho hg (by simpa using hor), ?_, hb7.setCell (Nat.le_refl _) _⟩
          rw [Below.heap_setCell _ _ _ _ (by show wr.heap.size ≠ w1.heap.size; have := hwlt; omega)]
          exact he7
        obtain ⟨r0, r1, _, _⟩ := cells_two hEB
        have hElt : wr.heap.size < X.heap.size := hEl
        clear hRX hou hbu hue hEB hBX hXA hta hxa
        refine wp_region_held_drew (S := fun w' => w'.cell? ⟨wr.heap.size, 0, none⟩ = some (.int .i64 (a : Int)) ∧ w'.cell? ⟨wr.heap.size, 1, none⟩ = some (.int .i64 (b : Int))) (by kernel_rfl) ⟨r0, r1⟩ (fun hS => ?_)
        refine wpAnyH_take (i := 0) (v := ?_) rfl (by kernel_rfl) (by kernel_rfl) (by kernel_rfl) (fun _ _ _ h => h) (Or.inl ⟨by rfl, ?_⟩) hS ?_
        rotate_left
        · intro wz hSw; obtain ⟨hz1, hz2⟩ := hSw; go_simp; (try with_reducible rfl)
        try simp only [List.getElem_toArray, List.getElem_cons_zero, List.getElem_cons_succ, Act.put, List.setIfInBounds_toArray, List.set_cons_zero, List.set_cons_succ]
        refine wpAnyH_take (i := 1) (v := ?_) rfl (by kernel_rfl) (by kernel_rfl) (by kernel_rfl) (fun _ _ _ h => h) (Or.inl ⟨by rfl, ?_⟩) hS ?_
        rotate_left
        · intro wz hSw; obtain ⟨hz1, hz2⟩ := hSw; go_simp; (try with_reducible rfl)
        try simp only [List.getElem_toArray, List.getElem_cons_zero, List.getElem_cons_succ, Act.put, List.setIfInBounds_toArray, List.set_cons_zero, List.set_cons_succ]
        refine wpAnyH_take (i := 2) (v := ?_) rfl (by kernel_rfl) (by kernel_rfl) (by kernel_rfl) (fun _ _ _ h => h) (Or.inl ⟨by rfl, ?_⟩) hS ?_
        rotate_left
        · intro wz hSw; obtain ⟨hz1, hz2⟩ := hSw; go_simp; (try with_reducible rfl)
        try simp only [List.getElem_toArray, List.getElem_cons_zero, List.getElem_cons_succ, Act.put, List.setIfInBounds_toArray, List.set_cons_zero, List.set_cons_succ]
        refine wpAnyH_take (i := 3) (v := ?_) rfl (by kernel_rfl) (by kernel_rfl) (by kernel_rfl) (fun _ _ _ h => h) (Or.inl ⟨by rfl, ?_⟩) hS ?_
        rotate_left
        · intro wz hSw; obtain ⟨hz1, hz2⟩ := hSw; go_simp; (try with_reducible rfl)
        try simp only [List.getElem_toArray, List.getElem_cons_zero, List.getElem_cons_succ, Act.put, List.setIfInBounds_toArray, List.set_cons_zero, List.set_cons_succ]
        refine wpAnyH_take (i := 4) (v := ?_) rfl (by kernel_rfl) (by kernel_rfl) (by kernel_rfl) (fun _ _ _ h => h) (Or.inl ⟨by rfl, ?_⟩) hS ?_
        rotate_left
        · intro wz hSw; obtain ⟨hz1, hz2⟩ := hSw; go_simp; (try with_reducible rfl)
        try simp only [List.getElem_toArray, List.getElem_cons_zero, List.getElem_cons_succ, Act.put, List.setIfInBounds_toArray, List.set_cons_zero, List.set_cons_succ]
        refine wpAnyH_take (i := 5) (v := ?_) rfl (by kernel_rfl) (by kernel_rfl) (by kernel_rfl) (fun _ _ _ h => h) (Or.inl ⟨by rfl, ?_⟩) hS ?_
        rotate_left
        · intro wz hSw; obtain ⟨hz1, hz2⟩ := hSw; go_simp; (try with_reducible rfl)
        try simp only [List.getElem_toArray, List.getElem_cons_zero, List.getElem_cons_succ, Act.put, List.setIfInBounds_toArray, List.set_cons_zero, List.set_cons_succ]
        refine wpAnyH_take (i := 6) (v := ?_) rfl (by kernel_rfl) (by kernel_rfl) (by kernel_rfl) (fun _ _ _ h => h) (Or.inl ⟨by rfl, ?_⟩) hS ?_
        rotate_left
        · intro wz hSw; obtain ⟨hz1, hz2⟩ := hSw; go_simp; (try with_reducible rfl)
        try simp only [List.getElem_toArray, List.getElem_cons_zero, List.getElem_cons_succ, Act.put, List.setIfInBounds_toArray, List.set_cons_zero, List.set_cons_succ]
        refine wpAnyH_take (i := 8) (v := ?_) rfl (by kernel_rfl) (by kernel_rfl) (by kernel_rfl) (fun _ _ _ h => h) (Or.inl ⟨by rfl, ?_⟩) hS ?_
        rotate_left
        · intro wz hSw; obtain ⟨hz1, hz2⟩ := hSw; go_simp; (try with_reducible rfl)
        try simp only [List.getElem_toArray, List.getElem_cons_zero, List.getElem_cons_succ, Act.put, List.setIfInBounds_toArray, List.set_cons_zero, List.set_cons_succ]
        refine wpAnyH_take (i := 9) (v := ?_) rfl (by kernel_rfl) (by kernel_rfl) (by kernel_rfl) (fun _ _ _ h => h) (Or.inl ⟨by rfl, ?_⟩) hS ?_
        rotate_left
        · intro wz hSw; obtain ⟨hz1, hz2⟩ := hSw; go_simp; (try with_reducible rfl)
        try simp only [List.getElem_toArray, List.getElem_cons_zero, List.getElem_cons_succ, Act.put, List.setIfInBounds_toArray, List.set_cons_zero, List.set_cons_succ]
        refine wpAnyH_ready (rs := [7, 10]) (by kernel_rfl) (by simp) (AllReadyH.cons rfl (fun K hK => ?_) (AllReadyH.cons rfl (fun K hK => ?_) AllReadyH.nil))
        · skip
          go_simp
          refine hK.out _ _ hS (fun _ => ?_)
          clear hK K
          try simp only [List.getElem_toArray, List.getElem_cons_zero, List.getElem_cons_succ, Act.put, List.setIfInBounds_toArray, List.set_cons_zero, List.set_cons_succ]
          refine wpAnyH_ready (rs := [10]) (by kernel_rfl) (by simp) (AllReadyH.cons rfl (fun K hK => ?_) AllReadyH.nil)
          go_simp
          have hS := (show _ ∧ _ from ⟨(World.cell?_alloc_lt X.drew (.cells #[.int .i64 (b : Int)] 3) _ hElt).trans hS.1, (World.cell?_alloc_lt X.drew (.cells #[.int .i64 (b : Int)] 3) _ hElt).trans hS.2⟩)
          refine hK.out _ _ hS (fun _ => ?_)
          clear hK K
          try simp only [List.getElem_toArray, List.getElem_cons_zero, List.getElem_cons_succ, Act.put, List.setIfInBounds_toArray, List.set_cons_zero, List.set_cons_succ]
          refine wpAnyH_ready (rs := [11]) (by kernel_rfl) (by simp) (AllReadyH.cons rfl (fun K hK => ?_) AllReadyH.nil)
          refine step_append_lies _ rfl (.tmp 26) (.tmp 29) 35 rfl w1.heap.size 3 i0 (.int .i64 0) 1 8 Try.underlying35 hi0 hz0 hz1 hz2 rfl (by decide) u xa.length (zs xa) (by simp [Act.eval, Act.put]) HOW.out ⟨X.heap.size, 0, none⟩ 1 1 [.int .i64 (b : Int)] (by simp [Act.eval, Act.put]) rfl (by intro j u hj; have hj0 : j = 0 := (by have := (List.getElem?_eq_some_iff.1 hj).1; simp at this; omega); subst hj0; rw [← hj, add_off]; exact World.cell?_alloc_at _ _ _ _ rfl) (by simp [Value.oneCell']) (by omega) (by simp [maxLen]; omega) (by omega) (by simp only [World.size_alloc, World.size_drew]; omega) (X.heap.size + 1) (by simp only [World.size_alloc, World.size_drew]) ?_
          intro g' cap' w7 hrow7 hgr7 hor7 hlt7
          obtain ⟨s1, s2, s3, s4, _, _, _⟩ := hNB.out w7 hgr7
          have hS := (show _ ∧ _ from ⟨s3, s4⟩)
          refine hK.out _ _ hS (fun _ => ?_)
          clear hK K
          try simp only [List.getElem_toArray, List.getElem_cons_zero, List.getElem_cons_succ, Act.put, List.setIfInBounds_toArray, List.set_cons_zero, List.set_cons_succ]
          refine wpAnyH_ready (rs := [12]) (by kernel_rfl) (by simp) (AllReadyH.cons rfl (fun K hK => ?_) AllReadyH.nil)
          go_simp
          refine hK.out _ _ hS (fun _ => ?_)
          clear hK K
          try simp only [List.getElem_toArray, List.getElem_cons_zero, List.getElem_cons_succ, Act.put, List.setIfInBounds_toArray, List.set_cons_zero, List.set_cons_succ]
          refine wpAnyH_ready (rs := [13]) (by kernel_rfl) (by simp) (AllReadyH.cons rfl (fun K hK => ?_) AllReadyH.nil)
          go_simp
          obtain ⟨_, fe, _⟩ := hfin.out w7 g' cap' hrow7 hgr7 hor7
          obtain ⟨f0, f1, _, _⟩ := cells_two fe
          have hS := (show _ ∧ _ from ⟨f0, f1⟩)
          refine hK.out _ _ hS (fun _ => ?_)
          clear hK K
          try simp only [List.getElem_toArray, List.getElem_cons_zero, List.getElem_cons_succ, Act.put, List.setIfInBounds_toArray, List.set_cons_zero, List.set_cons_succ]
          refine wpAnyH_done (by kernel_rfl) ?_ _
          go_wp2_with fail
          go_meet
          obtain ⟨f1, f2, f3⟩ := hfin.out w7 g' cap' hrow7 hgr7 hor7
          rw [HXA.out]
          exact ⟨rfl, _, f1, f2, f3⟩
        · skip
          go_simp
          have hS := (show _ ∧ _ from ⟨(World.cell?_alloc_lt X.drew (.cells #[.int .i64 (b : Int)] 3) _ hElt).trans hS.1, (World.cell?_alloc_lt X.drew (.cells #[.int .i64 (b : Int)] 3) _ hElt).trans hS.2⟩)
          refine hK.out _ _ hS (fun _ => ?_)
          clear hK K
          try simp only [List.getElem_toArray, List.getElem_cons_zero, List.getElem_cons_succ, Act.put, List.setIfInBounds_toArray, List.set_cons_zero, List.set_cons_succ]
          refine wpAnyH_ready (rs := [7]) (by kernel_rfl) (by simp) (AllReadyH.cons rfl (fun K hK => ?_) AllReadyH.nil)
          go_simp
          refine hK.out _ _ hS (fun _ => ?_)
          clear hK K
          try simp only [List.getElem_toArray, List.getElem_cons_zero, List.getElem_cons_succ, Act.put, List.setIfInBounds_toArray, List.set_cons_zero, List.set_cons_succ]
          refine wpAnyH_ready (rs := [11]) (by kernel_rfl) (by simp) (AllReadyH.cons rfl (fun K hK => ?_) AllReadyH.nil)
          refine step_append_lies _ rfl (.tmp 26) (.tmp 29) 35 rfl w1.heap.size 3 i0 (.int .i64 0) 1 8 Try.underlying35 hi0 hz0 hz1 hz2 rfl (by decide) u xa.length (zs xa) (by simp [Act.eval, Act.put]) HOW.out ⟨X.heap.size, 0, none⟩ 1 1 [.int .i64 (b : Int)] (by simp [Act.eval, Act.put]) rfl (by intro j u hj; have hj0 : j = 0 := (by have := (List.getElem?_eq_some_iff.1 hj).1; simp at this; omega); subst hj0; rw [← hj, add_off]; exact World.cell?_alloc_at _ _ _ _ rfl) (by simp [Value.oneCell']) (by omega) (by simp [maxLen]; omega) (by omega) (by simp only [World.size_alloc, World.size_drew]; omega) (X.heap.size + 1) (by simp only [World.size_alloc, World.size_drew]) ?_
          intro g' cap' w7 hrow7 hgr7 hor7 hlt7
          obtain ⟨s1, s2, s3, s4, _, _, _⟩ := hNB.out w7 hgr7
          have hS := (show _ ∧ _ from ⟨s3, s4⟩)
          refine hK.out _ _ hS (fun _ => ?_)
          clear hK K
          try simp only [List.getElem_toArray, List.getElem_cons_zero, List.getElem_cons_succ, Act.put, List.setIfInBounds_toArray, List.set_cons_zero, List.set_cons_succ]
          refine wpAnyH_ready (rs := [12]) (by kernel_rfl) (by simp) (AllReadyH.cons rfl (fun K hK => ?_) AllReadyH.nil)
          go_simp
          refine hK.out _ _ hS (fun _ => ?_)
          clear hK K
          try simp only [List.getElem_toArray, List.getElem_cons_zero, List.getElem_cons_succ, Act.put, List.setIfInBounds_toArray, List.set_cons_zero, List.set_cons_succ]
          refine wpAnyH_ready (rs := [13]) (by kernel_rfl) (by simp) (AllReadyH.cons rfl (fun K hK => ?_) AllReadyH.nil)
          go_simp
          obtain ⟨_, fe, _⟩ := hfin.out w7 g' cap' hrow7 hgr7 hor7
          obtain ⟨f0, f1, _, _⟩ := cells_two fe
          have hS := (show _ ∧ _ from ⟨f0, f1⟩)
          refine hK.out _ _ hS (fun _ => ?_)
          clear hK K
          try simp only [List.getElem_toArray, List.getElem_cons_zero, List.getElem_cons_succ, Act.put, List.setIfInBounds_toArray, List.set_cons_zero, List.set_cons_succ]
          refine wpAnyH_done (by kernel_rfl) ?_ _
          go_wp2_with fail
          go_meet
          obtain ⟨f1, f2, f3⟩ := hfin.out w7 g' cap' hrow7 hgr7 hor7
          rw [HXA.out]
          exact ⟨rfl, _, f1, f2, f3⟩
      case rest =>
        obtain ⟨rfl, us2, hR2, hEB, hBX⟩ := hcut
        have hTb2 : ((tabG N (E.take k)).set a (bes (E.take k) a ++ [(b : Int)]))[b]? = some (bes (E.take k) b) := by rw [List.getElem?_set_ne hab]; exact tabG_get hbN
        go_upto_region 8 with fail
        have hul : us2.length = N := by rw [hR2.2.1]; simp [tabG_length]
        obtain ⟨u, hu⟩ : ∃ u, us2[b]? = some u := ⟨_, List.getElem?_eq_getElem (by omega)⟩
        have r2 : wc.cell? ⟨w1.heap.size, b, none⟩ = some u := by rw [cell_of hR2.1]; simp [hu]
        have hou := (hR2.2.2.1 b u _ hu hTb2).1
        have hbu := (hR2.2.2.1 b u _ hu hTb2).2
        have hue := own_ne hou hEB (by decide)
        have hBl : w1.heap.size < wc.heap.size := lt_of_block hR2.1
        have hEl : wr.heap.size < wc.heap.size := lt_of_block hEB
        have hxla : (bes (E.take k) b).length ≤ 594 := HXL.out _
        have hta := hTb2
        generalize hxa : bes (E.take k) b = xa at hou hxla hta
        have HXA := Lib.hid hxa
        have HOW := Lib.hid (World.ownsRow.alloc (World.ownsRow.drew hou) (.cells #[.int .i64 (a : Int)] 3))
        have hXA : Below wc.heap.size wc (wc.drew.alloc (.cells #[.int .i64 (a : Int)] 3)) := (Below.refl _ _).drew.alloc (by simp only [World.size_drew]; omega) _
        have hNB : Hid (∀ (w' : World), (wc.drew.alloc (.cells #[.int .i64 (a : Int)] 3)).grownBy w' u.ownBlock → w'.cell? ⟨w1.heap.size, b, none⟩ = some u ∧ w'.frozen? ⟨w1.heap.size, b, none⟩ = false ∧ w'.cell? ⟨wr.heap.size, 0, none⟩ = some (.int .i64 (a : Int)) ∧ w'.cell? ⟨wr.heap.size, 1, none⟩ = some (.int .i64 (b : Int)) ∧ wr.heap.size + 1 ≤ w'.heap.size ∧ Below w1.heap.size w1 w' ∧ w'.heap[wr.heap.size]? = some (.cells #[.int .i64 (a : Int), .int .i64 (b : Int)] 51 (0, 0))) := by
          intro w' hg
          have hh : w'.heap[w1.heap.size]? = some (.cells us2.toArray 35 (0, 0)) := by
            rw [hg.block _ (by simp only [World.size_alloc, World.size_drew]; omega) (fun e => hbu e.symm)]
            exact blk_below hR2.1 hXA
          have he : w'.heap[wr.heap.size]? = some (.cells #[.int .i64 (a : Int), .int .i64 (b : Int)] 51 (0, 0)) := by
            rw [hg.block _ (by simp only [World.size_alloc, World.size_drew]; omega) (fun e => hue e.symm)]
            exact blk_below hEB hXA
          obtain ⟨e1, e2, _, _⟩ := cells_two he
          have hz := hg.size
          simp only [World.size_alloc, World.size_drew] at hz
          exact ⟨by rw [cell_of hh]; simp [hu], free_of hh b, e1, e2, by omega, (next_below hBX hXA).grown hg (by simp only [World.size_alloc, World.size_drew]; omega) (fun g e => (hou.lt g e).1), he⟩
        have hfin : Hid (∀ (w7 : World) (g' cap' : Nat), w7.ownsRow w1.heap.size 3 1 (.slice (some ⟨g', 0, none⟩) (xa.length + 1) cap') (xa.length + 1) (zs xa ++ [.int .i64 (a : Int)]) → (wc.drew.alloc (.cells #[.int .i64 (a : Int)] 3)).grownBy w7 u.ownBlock → (u.ownBlock = some g' ∨ g' = wc.heap.size + 1) →
            Rows (w7.setCell ⟨w1.heap.size, b, none⟩ (.slice (some ⟨g', 0, none⟩) (xa.length + 1) cap')) w1.heap.size w1.heap.size (us2.set b (.slice (some ⟨g', 0, none⟩) (xa.length + 1) cap')) (((tabG N (E.take k)).set a (bes (E.take k) a ++ [(b : Int)])).set b (xa ++ [(a : Int)])) ∧
            (w7.setCell ⟨w1.heap.size, b, none⟩ (.slice (some ⟨g', 0, none⟩) (xa.length + 1) cap')).heap[wr.heap.size]? = some (.cells #[.int .i64 (a : Int), .int .i64 (b : Int)] 51 (0, 0)) ∧
            Below w1.heap.size w1 (w7.setCell ⟨w1.heap.size, b, none⟩ (.slice (some ⟨g', 0, none⟩) (xa.length + 1) cap'))) := by
          intro w7 g' cap' ho hg hor
          obtain ⟨_, _, _, _, _, hb7, he7⟩ := hNB w7 hg
          refine ⟨Rows.push hR2 hXA hu hta ho hg (by simpa using hor), ?_, hb7.setCell (Nat.le_refl _) _⟩
          rw [Below.heap_setCell _ _ _ _ (by show wr.heap.size ≠ w1.heap.size; have := hwlt; omega)]
          exact he7
        obtain ⟨r0, r1, _, _⟩ := cells_two hEB
        have hElt : wr.heap.size < wc.heap.size := hEl
        clear hR2 hou hbu hue hEB hBX hXA hta hxa
        clear hTb2
        have hT : tabG N (E.take (k + 1)) = ((tabG N (E.take k)).set a (bes (E.take k) a ++ [(b : Int)])).set b (bes (E.take k) b ++ [(a : Int)]) := by
          rw [List.take_add_one, he]
          exact tabG_snoc haN hbN hab
        have HTT := Lib.hid hT
        clear hT
        refine wp_region_held_drew (S := fun w' => w'.cell? ⟨wr.heap.size, 0, none⟩ = some (.int .i64 (a : Int)) ∧ w'.cell? ⟨wr.heap.size, 1, none⟩ = some (.int .i64 (b : Int))) (by kernel_rfl) ⟨r0, r1⟩ (fun hS => ?_)
        refine wpAnyH_take (i := 0) (v := ?_) rfl (by kernel_rfl) (by kernel_rfl) (by kernel_rfl) (fun _ _ _ h => h) (Or.inl ⟨by rfl, ?_⟩) hS ?_
        rotate_left
        · intro wz hSw; obtain ⟨hz1, hz2⟩ := hSw; go_simp; (try with_reducible rfl)
        try simp only [List.getElem_toArray, List.getElem_cons_zero, List.getElem_cons_succ, Act.put, List.setIfInBounds_toArray, List.set_cons_zero, List.set_cons_succ]
        refine wpAnyH_take (i := 1) (v := ?_) rfl (by kernel_rfl) (by kernel_rfl) (by kernel_rfl) (fun _ _ _ h => h) (Or.inl ⟨by rfl, ?_⟩) hS ?_
        rotate_left
        · intro wz hSw; obtain ⟨hz1, hz2⟩ := hSw; go_simp; (try with_reducible rfl)
        try simp only [List.getElem_toArray, List.getElem_cons_zero, List.getElem_cons_succ, Act.put, List.setIfInBounds_toArray, List.set_cons_zero, List.set_cons_succ]
        refine wpAnyH_take (i := 2) (v := ?_) rfl (by kernel_rfl) (by kernel_rfl) (by kernel_rfl) (fun _ _ _ h => h) (Or.inl ⟨by rfl, ?_⟩) hS ?_
        rotate_left
        · intro wz hSw; obtain ⟨hz1, hz2⟩ := hSw; go_simp; (try with_reducible rfl)
        try simp only [List.getElem_toArray, List.getElem_cons_zero, List.getElem_cons_succ, Act.put, List.setIfInBounds_toArray, List.set_cons_zero, List.set_cons_succ]
        refine wpAnyH_take (i := 3) (v := ?_) rfl (by kernel_rfl) (by kernel_rfl) (by kernel_rfl) (fun _ _ _ h => h) (Or.inl ⟨by rfl, ?_⟩) hS ?_
        rotate_left
        · intro wz hSw; obtain ⟨hz1, hz2⟩ := hSw; go_simp; (try with_reducible rfl)
        try simp only [List.getElem_toArray, List.getElem_cons_zero, List.getElem_cons_succ, Act.put, List.setIfInBounds_toArray, List.set_cons_zero, List.set_cons_succ]
        refine wpAnyH_take (i := 4) (v := ?_) rfl (by kernel_rfl) (by kernel_rfl) (by kernel_rfl) (fun _ _ _ h => h) (Or.inl ⟨by rfl, ?_⟩) hS ?_
        rotate_left
        · intro wz hSw; obtain ⟨hz1, hz2⟩ := hSw; go_simp; (try with_reducible rfl)
        try simp only [List.getElem_toArray, List.getElem_cons_zero, List.getElem_cons_succ, Act.put, List.setIfInBounds_toArray, List.set_cons_zero, List.set_cons_succ]
        refine wpAnyH_take (i := 5) (v := ?_) rfl (by kernel_rfl) (by kernel_rfl) (by kernel_rfl) (fun _ _ _ h => h) (Or.inl ⟨by rfl, ?_⟩) hS ?_
        rotate_left
        · intro wz hSw; obtain ⟨hz1, hz2⟩ := hSw; go_simp; (try with_reducible rfl)
        try simp only [List.getElem_toArray, List.getElem_cons_zero, List.getElem_cons_succ, Act.put, List.setIfInBounds_toArray, List.set_cons_zero, List.set_cons_succ]
        refine wpAnyH_take (i := 6) (v := ?_) rfl (by kernel_rfl) (by kernel_rfl) (by kernel_rfl) (fun _ _ _ h => h) (Or.inl ⟨by rfl, ?_⟩) hS ?_
        rotate_left
        · intro wz hSw; obtain ⟨hz1, hz2⟩ := hSw; go_simp; (try with_reducible rfl)
        try simp only [List.getElem_toArray, List.getElem_cons_zero, List.getElem_cons_succ, Act.put, List.setIfInBounds_toArray, List.set_cons_zero, List.set_cons_succ]
        refine wpAnyH_take (i := 8) (v := ?_) rfl (by kernel_rfl) (by kernel_rfl) (by kernel_rfl) (fun _ _ _ h => h) (Or.inl ⟨by rfl, ?_⟩) hS ?_
        rotate_left
        · intro wz hSw; obtain ⟨hz1, hz2⟩ := hSw; go_simp; (try with_reducible rfl)
        try simp only [List.getElem_toArray, List.getElem_cons_zero, List.getElem_cons_succ, Act.put, List.setIfInBounds_toArray, List.set_cons_zero, List.set_cons_succ]
        refine wpAnyH_take (i := 9) (v := ?_) rfl (by kernel_rfl) (by kernel_rfl) (by kernel_rfl) (fun _ _ _ h => h) (Or.inl ⟨by rfl, ?_⟩) hS ?_
        rotate_left
        · intro wz hSw; obtain ⟨hz1, hz2⟩ := hSw; go_simp; (try with_reducible rfl)
        try simp only [List.getElem_toArray, List.getElem_cons_zero, List.getElem_cons_succ, Act.put, List.setIfInBounds_toArray, List.set_cons_zero, List.set_cons_succ]
        refine wpAnyH_ready (rs := [7, 10]) (by kernel_rfl) (by simp) (AllReadyH.cons rfl (fun K hK => ?_) (AllReadyH.cons rfl (fun K hK => ?_) AllReadyH.nil))
        · skip
          go_simp
          refine hK.out _ _ hS (fun _ => ?_)
          clear hK K
          try simp only [List.getElem_toArray, List.getElem_cons_zero, List.getElem_cons_succ, Act.put, List.setIfInBounds_toArray, List.set_cons_zero, List.set_cons_succ]
          refine wpAnyH_ready (rs := [10]) (by kernel_rfl) (by simp) (AllReadyH.cons rfl (fun K hK => ?_) AllReadyH.nil)
          go_simp
          have hS := (show _ ∧ _ from ⟨(World.cell?_alloc_lt wc.drew (.cells #[.int .i64 (a : Int)] 3) _ hElt).trans hS.1, (World.cell?_alloc_lt wc.drew (.cells #[.int .i64 (a : Int)] 3) _ hElt).trans hS.2⟩)
          refine hK.out _ _ hS (fun _ => ?_)
          clear hK K
          try simp only [List.getElem_toArray, List.getElem_cons_zero, List.getElem_cons_succ, Act.put, List.setIfInBounds_toArray, List.set_cons_zero, List.set_cons_succ]
          refine wpAnyH_ready (rs := [11]) (by kernel_rfl) (by simp) (AllReadyH.cons rfl (fun K hK => ?_) AllReadyH.nil)
          refine step_append_lies _ rfl (.tmp 39) (.tmp 42) 35 rfl w1.heap.size 3 i0 (.int .i64 0) 1 8 Try.underlying35 hi0 hz0 hz1 hz2 rfl (by decide) u xa.length (zs xa) (by simp [Act.eval, Act.put]) HOW.out ⟨wc.heap.size, 0, none⟩ 1 1 [.int .i64 (a : Int)] (by simp [Act.eval, Act.put]) rfl (by intro j u hj; have hj0 : j = 0 := (by have := (List.getElem?_eq_some_iff.1 hj).1; simp at this; omega); subst hj0; rw [← hj, add_off]; exact World.cell?_alloc_at _ _ _ _ rfl) (by simp [Value.oneCell']) (by omega) (by simp [maxLen]; omega) (by omega) (by simp only [World.size_alloc, World.size_drew]; omega) (wc.heap.size + 1) (by simp only [World.size_alloc, World.size_drew]) ?_
          intro g' cap' w7 hrow7 hgr7 hor7 hlt7
          obtain ⟨s1, s2, s3, s4, _, _, _⟩ := hNB.out w7 hgr7
          have hS := (show _ ∧ _ from ⟨s3, s4⟩)
          refine hK.out _ _ hS (fun _ => ?_)
          clear hK K
          try simp only [List.getElem_toArray, List.getElem_cons_zero, List.getElem_cons_succ, Act.put, List.setIfInBounds_toArray, List.set_cons_zero, List.set_cons_succ]
          refine wpAnyH_ready (rs := [12]) (by kernel_rfl) (by simp) (AllReadyH.cons rfl (fun K hK => ?_) AllReadyH.nil)
          go_simp
          refine hK.out _ _ hS (fun _ => ?_)
          clear hK K
          try simp only [List.getElem_toArray, List.getElem_cons_zero, List.getElem_cons_succ, Act.put, List.setIfInBounds_toArray, List.set_cons_zero, List.set_cons_succ]
          refine wpAnyH_ready (rs := [13]) (by kernel_rfl) (by simp) (AllReadyH.cons rfl (fun K hK => ?_) AllReadyH.nil)
          go_simp
          obtain ⟨_, fe, _⟩ := hfin.out w7 g' cap' hrow7 hgr7 hor7
          obtain ⟨f0, f1, _, _⟩ := cells_two fe
          have hS := (show _ ∧ _ from ⟨f0, f1⟩)
          refine hK.out _ _ hS (fun _ => ?_)
          clear hK K
          try simp only [List.getElem_toArray, List.getElem_cons_zero, List.getElem_cons_succ, Act.put, List.setIfInBounds_toArray, List.set_cons_zero, List.set_cons_succ]
          refine wpAnyH_done (by kernel_rfl) ?_ _
          go_wp2_with fail
          go_roundw
          case measure => simp [intOf]; omega
          case rel =>
            obtain ⟨f1, f2, f3⟩ := hfin.out w7 g' cap' hrow7 hgr7 hor7
            have hT2 := HTT.out
            rw [HXA.out] at hT2
            rw [← hT2] at f1
            exact ⟨k + 1, by omega, by go_num, Lib.hid ⟨_, f1⟩, Lib.hid f3⟩
        · skip
          go_simp
          have hS := (show _ ∧ _ from ⟨(World.cell?_alloc_lt wc.drew (.cells #[.int .i64 (a : Int)] 3) _ hElt).trans hS.1, (World.cell?_alloc_lt wc.drew (.cells #[.int .i64 (a : Int)] 3) _ hElt).trans hS.2⟩)
          refine hK.out _ _ hS (fun _ => ?_)
          clear hK K
          try simp only [List.getElem_toArray, List.getElem_cons_zero, List.getElem_cons_succ, Act.put, List.setIfInBounds_toArray, List.set_cons_zero, List.set_cons_succ]
          refine wpAnyH_ready (rs := [7]) (by kernel_rfl) (by simp) (AllReadyH.cons rfl (fun K hK => ?_) AllReadyH.nil)
          go_simp
          refine hK.out _ _ hS (fun _ => ?_)
          clear hK K
          try simp only [List.getElem_toArray, List.getElem_cons_zero, List.getElem_cons_succ, Act.put, List.setIfInBounds_toArray, List.set_cons_zero, List.set_cons_succ]
          refine wpAnyH_ready (rs := [11]) (by kernel_rfl) (by simp) (AllReadyH.cons rfl (fun K hK => ?_) AllReadyH.nil)
          refine step_append_lies _ rfl (.tmp 39) (.tmp 42) 35 rfl w1.heap.size 3 i0 (.int .i64 0) 1 8 Try.underlying35 hi0 hz0 hz1 hz2 rfl (by decide) u xa.length (zs xa) (by simp [Act.eval, Act.put]) HOW.out ⟨wc.heap.size, 0, none⟩ 1 1 [.int .i64 (a : Int)] (by simp [Act.eval, Act.put]) rfl (by intro j u hj; have hj0 : j = 0 := (by have := (List.getElem?_eq_some_iff.1 hj).1; simp at this; omega); subst hj0; rw [← hj, add_off]; exact World.cell?_alloc_at _ _ _ _ rfl) (by simp [Value.oneCell']) (by omega) (by simp [maxLen]; omega) (by omega) (by simp only [World.size_alloc, World.size_drew]; omega) (wc.heap.size + 1) (by simp only [World.size_alloc, World.size_drew]) ?_
          intro g' cap' w7 hrow7 hgr7 hor7 hlt7
          obtain ⟨s1, s2, s3, s4, _, _, _⟩ := hNB.out w7 hgr7
          have hS := (show _ ∧ _ from ⟨s3, s4⟩)
          refine hK.out _ _ hS (fun _ => ?_)
          clear hK K
          try simp only [List.getElem_toArray, List.getElem_cons_zero, List.getElem_cons_succ, Act.put, List.setIfInBounds_toArray, List.set_cons_zero, List.set_cons_succ]
          refine wpAnyH_ready (rs := [12]) (by kernel_rfl) (by simp) (AllReadyH.cons rfl (fun K hK => ?_) AllReadyH.nil)
          go_simp
          refine hK.out _ _ hS (fun _ => ?_)
          clear hK K
          try simp only [List.getElem_toArray, List.getElem_cons_zero, List.getElem_cons_succ, Act.put, List.setIfInBounds_toArray, List.set_cons_zero, List.set_cons_succ]
          refine wpAnyH_ready (rs := [13]) (by kernel_rfl) (by simp) (AllReadyH.cons rfl (fun K hK => ?_) AllReadyH.nil)
          go_simp
          obtain ⟨_, fe, _⟩ := hfin.out w7 g' cap' hrow7 hgr7 hor7
          obtain ⟨f0, f1, _, _⟩ := cells_two fe
          have hS := (show _ ∧ _ from ⟨f0, f1⟩)
          refine hK.out _ _ hS (fun _ => ?_)
          clear hK K
          try simp only [List.getElem_toArray, List.getElem_cons_zero, List.getElem_cons_succ, Act.put, List.setIfInBounds_toArray, List.set_cons_zero, List.set_cons_succ]
          refine wpAnyH_done (by kernel_rfl) ?_ _
          go_wp2_with fail
          go_roundw
          case measure => simp [intOf]; omega
          case rel =>
            obtain ⟨f1, f2, f3⟩ := hfin.out w7 g' cap' hrow7 hgr7 hor7
            have hT2 := HTT.out
            rw [HXA.out] at hT2
            rw [← hT2] at f1
            exact ⟨k + 1, by omega, by go_num, Lib.hid ⟨_, f1⟩, Lib.hid f3⟩
    · obtain rfl : k = n := by omega
      go_wp2_with fail
      go_ret
      obtain ⟨us, hR⟩ := hus.out
      rw [List.take_of_length_le (by rw [HN.out]; exact Nat.le_refl _)] at hR
      exact ⟨_, us, rfl, hR.mono (by omega), by omega, HB.out.trans ((HB1.out.trans (hbel.out.mono HB1.out.size)).mono (Nat.le_of_lt HWS.out))⟩
end Go.Proofs.Ytlkddjpjhchjfaa
