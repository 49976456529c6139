/- perm.Apply where all is right (layer 3). -/
import Derived.Test.YtgldlanfbkgfjaaPX
import Derived.Test.YtgldlanfbkgfjaaP6
namespace Go.Proofs.Ytgldlanfbkgfjaa
open Go.RowKit

theorem make_pairs (n : Nat) (hn : n ≤ 1000000) (w : World) : (Instr.makeSlice 23 (.int .i64 n) (.int .i64 n)).run Try.prog w = .ok (.slice (some ⟨w.heap.size, 0, none⟩) n n) (w.alloc (.cells (pcells (List.replicate n (0, 0))).toArray 56)) := by
  obtain ⟨i2, hi2, hx0, hx1, hx2⟩ := info_partsI pairinfo
  have hr := run_make (P := Try.prog) w 23 56 i2 (.agg #[.int .i64 0, .int .i64 0]) Try.underlying23 hi2 hx0 .i64 .i64 n n (by omega) (by omega) (by rw [hx2]; omega) (by omega)
  rw [hx1] at hr
  rw [hr]
  congr 3
  apply Array.ext'
  apply List.ext_getElem?
  intro i
  have hz : ∀ q, (#[Value.int .i64 0, Value.int .i64 0] : Array Value)[q % 2]! = .int .i64 0 := fun q => by
    rcases Nat.mod_two_eq_zero_or_one q with h | h <;> rw [h] <;> rfl
  by_cases hi : i < n * 2
  · have h1 : (madeCells #[Value.int .i64 0, Value.int .i64 0] (n * 2)).toList[i]? = some (.int .i64 0) := by
      rw [Array.getElem?_toList]
      unfold madeCells
      rw [Array.getElem?_map, Array.getElem?_range, if_pos hi]
      show some _ = _
      exact congrArg some (hz i)
    have h2 : (pcells (List.replicate n (0, 0)))[i]? = some (.int .i64 0) := by
      obtain ⟨u, hu⟩ : ∃ u, (pcells (List.replicate n ((0 : Int), (0 : Int))))[i]? = some u := ⟨_, List.getElem?_eq_getElem (by rw [pcells_length, List.length_replicate]; exact hi)⟩
      obtain ⟨q, e, hq, h⟩ := pcells_split hu
      have he : e = (0, 0) := (List.mem_replicate.1 (List.mem_of_getElem? hq)).2
      subst he
      rw [hu]
      rcases h with ⟨_, rfl⟩ | ⟨_, rfl⟩ <;> rfl
    exact h1.trans h2.symm
  · rw [List.getElem?_eq_none (by rw [Array.length_toList, size_madeCells]; omega)]
    show none = (pcells (List.replicate n (0, 0)))[i]?
    rw [List.getElem?_eq_none (by rw [pcells_length, List.length_replicate]; omega)]
theorem RdP.far {w : World} {B : Option Addr} {F : List (Int × Int)} (h : RdP w B F) {a : Addr} (ha : ∀ ad, B = some ad → ad.block ≠ a.block) (u : Value) : RdP (w.setCell a u) B F := fun q e hq => by
  obtain ⟨ad, e0, h1, h2, h3⟩ := h q e hq
  have hne := ha ad e0
  refine ⟨ad, e0, by show ad.block < (w.setCell _ _).heap.size; simp; exact h1, (World.cell?_setCell_far _ _ _ _ (by rw [block_add]; exact fun e => hne e.symm)).trans h2, (World.cell?_setCell_far _ _ _ _ (by show _ ≠ (ad.add (q * 2)).block; rw [block_add]; exact fun e => hne e.symm)).trans h3⟩
/-- A row of pairs in a block. -/
def RowP (w : World) (B : Nat) (F : List (Int × Int)) : Prop := w.heap[B]? = some (.cells (pcells F).toArray 56 (0, 0))
theorem RowP.rd {w : World} {B : Nat} {F : List (Int × Int)} (h : RowP w B F) : RdP w (some ⟨B, 0, none⟩) F := fun q e hq => by
  obtain ⟨h0, h1⟩ := pcells_at F q e hq
  refine ⟨_, rfl, lt_of_block h, ?_, ?_⟩
  · rw [add_off, cell_of h]; simpa [zv] using h0
  · rw [add_off]; rw [cell_of h]; simpa [zv] using h1
theorem pcells_set : ∀ (F : List (Int × Int)) (k : Nat) (e : Int × Int), k < F.length → ((pcells F).set (k * 2) (.int .i64 e.1)).set (k * 2 + 1) (.int .i64 e.2) = pcells (F.set k e)
  | x :: F, 0, e, _ => rfl
  | x :: F, k + 1, e, h => by
    have ih := pcells_set F k e (by simpa using h)
    rw [show (k + 1) * 2 = k * 2 + 2 by omega]
    show zv x.1 :: zv x.2 :: ((pcells F).set (k * 2) _).set (k * 2 + 1) _ = zv x.1 :: zv x.2 :: pcells (F.set k e)
    rw [ih]
theorem RowP.set {w : World} {B k : Nat} {F : List (Int × Int)} (h : RowP w B F) (hk : k < F.length) (e : Int × Int) : RowP ((w.setCell ⟨B, k * 2, none⟩ (.int .i64 e.1)).setCell ⟨B, k * 2 + 1, none⟩ (.int .i64 e.2)) B (F.set k e) := by
  show _ = _
  rw [Go.Joins.block_setCell (Go.Joins.block_setCell h _), ← pcells_set F k e hk]
  simp
def fillP (E : List (Int × Int)) (f : Int × Int → Int × Int) (k : Nat) : List (Int × Int) := (List.range E.length).map fun i => if i < k then f (E.getD i (0, 0)) else (0, 0)
theorem fillP_length (E : List (Int × Int)) (f : Int × Int → Int × Int) (k : Nat) : (fillP E f k).length = E.length := by simp [fillP]
theorem fillP_zero (E : List (Int × Int)) (f : Int × Int → Int × Int) : fillP E f 0 = List.replicate E.length (0, 0) := by
  apply List.ext_getElem?
  intro i
  by_cases hi : i < E.length
  · simp [fillP, hi]
  · rw [List.getElem?_eq_none (by rw [fillP_length]; omega), List.getElem?_eq_none (by rw [List.length_replicate]; omega)]
theorem fillP_step {E : List (Int × Int)} (f : Int × Int → Int × Int) {k : Nat} {e : Int × Int} (he : E[k]? = some e) : (fillP E f k).set k (f e) = fillP E f (k + 1) := by
  have hk := (List.getElem?_eq_some_iff.1 he).1
  apply List.ext_getElem?
  intro i
  by_cases hi : i < E.length
  · by_cases e1 : i = k
    · subst e1
      rw [List.getElem?_set_self (by rw [fillP_length]; exact hk)]
      obtain ⟨_, e2⟩ := List.getElem?_eq_some_iff.1 he
      simp [fillP, hi, e2]
    · rw [List.getElem?_set_ne (fun e2 => e1 e2.symm)]
      have h1 : (i < k + 1) ↔ i < k := by omega
      simp [fillP, hi, h1]
  · rw [List.getElem?_eq_none (by rw [List.length_set, fillP_length]; omega), List.getElem?_eq_none (by rw [fillP_length]; omega)]
theorem fillP_all (E : List (Int × Int)) (f : Int × Int → Int × Int) : fillP E f E.length = E.map f := by
  apply List.ext_getElem?
  intro i
  by_cases hi : i < E.length
  · simp [fillP, hi, List.getD]
  · rw [List.getElem?_eq_none (by rw [fillP_length]; omega), List.getElem?_eq_none (by simp; omega)]
/-- Where an edge is taken. -/
def edP (p : List Nat) (e : Int × Int) : Int × Int := (((gn p e.1.toNat : Nat) : Int), ((gn p e.2.toNat : Nat) : Int))
theorem nrm_two {a b c d : Nat} (h : nrm ((a : Int), (b : Int)) = nrm ((c : Int), (d : Int))) : (a = c ∧ b = d) ∨ (a = d ∧ b = c) := by
  unfold nrm at h
  by_cases c1 : (b : Int) < a <;> by_cases c2 : (d : Int) < c <;> simp only [c1, c2, if_true, if_false, Prod.mk.injEq] at h <;> omega
theorem edges_of {n : Nat} {p : List Nat} {E : List (Int × Int)} (hp : Perm n p) (hg : rightG (n : Nat) E = true) : Edges n (E.map (edP p)) := by
  obtain ⟨h1, h2, h3⟩ := rightG_bounds hg
  have hE : ∀ e ∈ E, 0 ≤ e.1 ∧ e.1 < e.2 ∧ e.2 < n := fun e he => by
    obtain ⟨k, hk⟩ := List.getElem?_of_mem he
    exact rightG_edge hg hk
  refine ⟨by rw [List.length_map]; exact h3, by omega, fun f hf => ?_, ?_⟩
  · obtain ⟨e, he, rfl⟩ := List.mem_map.1 hf
    obtain ⟨a1, a2, a3⟩ := hE e he
    have l1 := hp.gn_lt (i := e.1.toNat) (by omega)
    have l2 := hp.gn_lt (i := e.2.toNat) (by omega)
    refine ⟨⟨by unfold edP; simp, by unfold edP; simp; omega⟩, ⟨by unfold edP; simp, by unfold edP; simp; omega⟩, fun h => ?_⟩
    unfold edP at h
    have := hp.inj (i := e.1.toNat) (j := e.2.toNat) (by omega) (by omega) (by simp only at h; omega)
    omega
  · have ho := rightG_ord hg
    rw [List.map_map, List.Nodup, List.pairwise_map, List.pairwise_iff_getElem]
    intro i j hi hj hij h
    obtain ⟨a1, a2, a3⟩ := hE _ (List.getElem_mem hi)
    obtain ⟨b1, b2, b3⟩ := hE _ (List.getElem_mem hj)
    have hlt := ho i j hij hj
    have e1 : E.getD i (0, 0) = E[i] := by simp [List.getD, hi]
    have e2 : E.getD j (0, 0) = E[j] := by simp [List.getD, hj]
    rw [e1, e2] at hlt
    generalize E[i] = e at *
    generalize E[j] = f at *
    have inj := fun (u v : Nat) hu hv => hp.inj (i := u) (j := v) hu hv
    have key : (e.1 = f.1 ∧ e.2 = f.2) ∨ (e.1 = f.2 ∧ e.2 = f.1) := by
      have i11 := inj e.1.toNat f.1.toNat (by omega) (by omega)
      have i12 := inj e.1.toNat f.2.toNat (by omega) (by omega)
      have i21 := inj e.2.toNat f.1.toNat (by omega) (by omega)
      have i22 := inj e.2.toNat f.2.toNat (by omega) (by omega)
      rcases nrm_two (show nrm (edP p e) = nrm (edP p f) from h) with ⟨h4, h5⟩ | ⟨h4, h5⟩
      · have := i11 h4; have := i22 h5; left; omega
      · have := i12 h4; have := i21 h5; right; omega
    rcases key with ⟨k1, k2⟩ | ⟨k1, k2⟩
    · have : e = f := Prod.ext k1 k2
      subst this
      have h6 := cmpP_lt e e
      unfold Go.Proofs.ltOf at h6
      rw [decide_eq_true hlt] at h6
      have := of_decide_eq_true h6.symm
      omega
    · omega

set_option maxRecDepth 100000 in
set_option maxHeartbeats 8000000 in
theorem apply_yes (A0 A1 : Option Addr) (c d m n : Nat) (E : List (Int × Int)) (p : List Nat) (w : World) (hr : RdP w A0 E) (hs : RdZ w A1 (iz p)) (hm : m = E.length) (hg : rightG (n : Nat) E = true) (hp : Perm n p) :
    Calls Try.prog 28 #[.agg #[.int .i64 (n : Nat), .slice A0 m c], .slice A1 n d] w fun e w' => ∃ (B : Option Addr) (c' : Nat) (F : List (Int × Int)), e = .returned (.tuple #[.agg #[.int .i64 (n : Nat), .slice B m c'], .int .i64 0]) ∧ F.Perm ((E.map (edP p)).map nrm) ∧ rightG (n : Nat) F = true ∧ RdP w' B F ∧ (∀ ad, B = some ad → w.heap.size ≤ ad.block) ∧ Below w.heap.size w w' := by
  obtain ⟨hn0, hn200, hm594⟩ := rightG_bounds hg
  have hn : n ≤ 200 := by omega
  obtain ⟨W, hW⟩ : ∃ W, W = (w.alloc (.cells #[.int .i64 (n : Nat), .slice A0 m c] 25)).alloc (.cells #[.int .i64 0, .slice none 0 0] 25) := ⟨_, rfl⟩
  have hbW : Below w.heap.size w W := by rw [hW]; exact ((Below.refl _ _).alloc (Nat.le_refl _) _).alloc (by simp) _
  have hWS : W.heap.size = w.heap.size + 2 := by rw [hW]; simp
  have HW0 : Hid (W.heap[w.heap.size]? = some (.cells #[.int .i64 (n : Nat), .slice A0 m c] 25 (0, 0))) := by
    show _ = _
    rw [hW, heap_alloc_old _ _ (by simp)]
    exact heap_alloc_new w _
  have HW1 : Hid (W.heap[w.heap.size + 1]? = some (.cells #[.int .i64 0, .slice none 0 0] 25 (0, 0))) := by
    show _ = _
    rw [hW]
    have h1 := heap_alloc_new (w.alloc (.cells #[.int .i64 (n : Nat), .slice A0 m c] 25)) (.cells #[.int .i64 0, .slice none 0 0] 25)
    simpa using h1
  obtain ⟨j0, j1, _, _⟩ := cells_two (w := W) HW0.out
  have HRG := Lib.hid (right_any A0 c m (n : Nat) E W (hr.below hbW) hm)
  have HRP := Lib.hid (perm_right hp hn)
  have HA := Lib.hid (hr.below hbW)
  have HB := Lib.hid (hs.below hbW)
  have HP := Lib.hid hp
  have HM := Lib.hid hm
  have HG := Lib.hid hg
  have HED := Lib.hid (edges_of hp hg)
  have HW := Lib.hid hW
  have HBW := Lib.hid hbW
  have HWS := Lib.hid hWS
  have hm2 : m ≤ 594 := by omega
  have hmk := fun w' => make_pairs m (by omega) w'
  have g1 : ((n : Int) != (n : Int)) = false := by simp
  clear hr hs hm hg hp hW hbW hWS
  go_enter Try.func28, Try.ntmps28
  go_wp2_with fail
  rw [← HW.out]
  refine HRG.out.mono ?_
  rintro e w1 ⟨rfl, hb1⟩
  rw [HG.out]
  have HB1 := Lib.hid hb1
  obtain ⟨k0, k1, _, _⟩ := cells_two (w := w1) (blk_below HW0.out hb1)
  clear hb1 j0 j1 hmk
  go_wp2_with fail
  refine (rightP_any A1 d n (iz p) w1 (HB.out.below HB1.out) (izl HP.out) (by omega)).mono ?_
  rintro e w2 ⟨rfl, hb2⟩
  rw [HRP.out]
  have HB2 := Lib.hid (next_below HB1.out hb2)
  obtain ⟨k0, k1, _, _⟩ := cells_two (w := w2) (blk_below HW0.out HB2.out)
  obtain ⟨w3, hw3⟩ : ∃ w3, w3 = w2.alloc (.cells (pcells (List.replicate m (0, 0))).toArray 56) := ⟨_, rfl⟩
  have hb3 : Below w2.heap.size w2 w3 := by rw [hw3]; exact (Below.refl _ _).alloc (Nat.le_refl _) _
  have hmk : (Instr.makeSlice 23 (.int .i64 m) (.int .i64 m)).run Try.prog w2 = .ok (.slice (some ⟨w2.heap.size, 0, none⟩) m m) w3 := by rw [hw3]; exact make_pairs m (by omega) w2
  have HB3 := Lib.hid (next_below HB2.out hb3)
  have HR0 : Hid (RowP w3 w2.heap.size (fillP E (edP p) 0)) := by
    show _ = _
    rw [fillP_zero, ← HM.out, hw3]
    exact heap_alloc_new w2 _
  have hws3 : w2.heap.size < w3.heap.size := by rw [hw3]; simp
  have HL0 := Lib.hid (Below.refl w2.heap.size w3)
  obtain ⟨l0, l1, _, _⟩ := cells_two (w := w3) (blk_below HW0.out HB3.out)
  clear hb2 hb3 hw3
  go_wp2_with fail
  clear hmk k0 k1 l0 l1
  go_loopw [31] (fun s wr => ∃ k : Nat, k ≤ m ∧ s = .int .i64 k ∧ Hid (RowP wr w2.heap.size (fillP E (edP p) k)) ∧ Hid (Below w2.heap.size w3 wr)) (fun s _ => m - (intOf s).toNat)
  case atStart => exact ⟨0, Nat.zero_le _, rfl, HR0, HL0⟩
  case round =>
    obtain ⟨k, hk, rfl, hR, hb⟩ := hrel
    by_cases h1 : k < m
    · have t1 : decide ((k : Int) < (m : Int)) = true := by simp; omega
      have hk0 : (0 : Int) ≤ (k : Int) := by omega
      have hk1 : (k : Int) < (m : Nat) := by omega
      obtain ⟨e, he⟩ : ∃ e, E[k]? = some e := ⟨_, List.getElem?_eq_getElem (by rw [← HM.out]; exact h1)⟩
      obtain ⟨e1, e2, e3⟩ := rightG_edge HG.out he
      have hstep := fillP_step (edP p) he
      have hfl : k < (fillP E (edP p) k).length := by rw [fillP_length, ← HM.out]; exact h1
      obtain ⟨a, ha⟩ := Int.eq_ofNat_of_zero_le e1
      obtain ⟨b, hbb⟩ := Int.eq_ofNat_of_zero_le (show 0 ≤ e.2 by omega)
      obtain ⟨ea, eb⟩ := e
      simp only at ha hbb e1 e2 e3
      subst ha; subst hbb
      have hBE := HB3.out.trans (hb.out.mono HB2.out.size)
      have hBE' := next_below HBW.out hBE
      obtain ⟨adE, rfl, _, c0, c1⟩ := (HA.out.below hBE) k _ he
      obtain ⟨x, hx⟩ : ∃ x, x = gn p a := ⟨_, rfl⟩
      obtain ⟨y, hy⟩ : ∃ y, y = gn p b := ⟨_, rfl⟩
      have hfe : edP p ((a : Int), (b : Int)) = ((x : Int), (y : Int)) := by rw [hx, hy]; simp [edP]
      rw [hfe] at hstep
      obtain ⟨Wb, hWb⟩ : ∃ Wb, Wb = wr.alloc (.cells #[.int .i64 ((a : Nat) : Int), .int .i64 ((b : Nat) : Int)] 56) := ⟨_, rfl⟩
      have hbb : Below wr.heap.size wr Wb := by rw [hWb]; exact (Below.refl _ _).alloc (Nat.le_refl _) _
      have hBB := next_below hBE hbb
      obtain ⟨m0, m1, _, _⟩ := cells_two (w := Wb) (by rw [hWb]; exact heap_alloc_new wr _)
      obtain ⟨ad, rfl, hadl, _⟩ := HB.out a _ (iz_at (by rw [HP.out.len]; omega))
      obtain ⟨ad2, ead2, _, c2⟩ := (HB.out.below hBB) a _ (iz_at (by rw [HP.out.len]; omega))
      injection ead2 with ead2
      subst ead2
      obtain ⟨ad', ead, _, c3⟩ := (HB.out.below hBB) b _ (iz_at (by rw [HP.out.len]; omega))
      injection ead with ead
      subst ead
      rw [← hx] at c2
      rw [← hy] at c3
      have HSB : Hid (Wb.cell? ⟨wr.heap.size, 0, none⟩ = some (.int .i64 ((a : Nat) : Int)) ∧ Wb.cell? ⟨wr.heap.size, 1, none⟩ = some (.int .i64 ((b : Nat) : Int)) ∧ Wb.cell? (ad.add a) = some (.int .i64 ((x : Nat) : Int)) ∧ Wb.cell? (ad.add b) = some (.int .i64 ((y : Nat) : Int))) := ⟨m0, m1, c2, c3⟩
      have hRB := blk_below (show wr.heap[w2.heap.size]? = _ from hR.out) hbb
      obtain ⟨z0, hz0⟩ : ∃ z, (pcells (fillP E (edP p) k))[k * 2]? = some z := ⟨_, List.getElem?_eq_getElem (by rw [pcells_length]; omega)⟩
      obtain ⟨z1, hz1⟩ : ∃ z, (pcells (fillP E (edP p) k))[k * 2 + 1]? = some z := ⟨_, List.getElem?_eq_getElem (by rw [pcells_length]; omega)⟩
      have HFB : Hid (Wb.cell? ⟨w2.heap.size, k * 2, none⟩ = some z0 ∧ Wb.frozen? ⟨w2.heap.size, k * 2, none⟩ = false ∧ Wb.cell? ⟨w2.heap.size, k * 2 + 1, none⟩ = some z1 ∧ Wb.frozen? ⟨w2.heap.size, k * 2 + 1, none⟩ = false) :=
        ⟨by rw [cell_of hRB]; simpa using hz0, free_of hRB _, by rw [cell_of hRB]; simpa using hz1, free_of hRB _⟩
      have hRW : RowP Wb w2.heap.size (fillP E (edP p) k) := hRB
      have hset := hRW.set hfl ((x : Int), (y : Int))
      rw [hstep] at hset
      have HSET := Lib.hid hset
      have hsw := hb.out.size
      have HAD : Hid (ad.block < w2.heap.size) := Nat.lt_of_lt_of_le hadl HB2.out.size
      have HBF : Hid (Below w2.heap.size w3 ((Wb.setCell ⟨w2.heap.size, k * 2, none⟩ (.int .i64 ((x : Nat) : Int))).setCell ⟨w2.heap.size, k * 2 + 1, none⟩ (.int .i64 ((y : Nat) : Int)))) :=
        (((hb.out.trans (hbb.mono (by omega))).setCell (p := ⟨w2.heap.size, k * 2, none⟩) (Nat.le_refl _) _).setCell (p := ⟨w2.heap.size, k * 2 + 1, none⟩) (Nat.le_refl _) _)
      have HWB := Lib.hid hWb
      have ha0 : (0 : Int) ≤ (a : Int) := by omega
      have ha1 : (a : Int) < (n : Nat) := by omega
      have hb0 : (0 : Int) ≤ (b : Int) := by omega
      have hb1 : (b : Int) < (n : Nat) := by omega
      clear hadl hx hy hfe hstep hWb hbb hBB m0 m1 c2 c3 hRB hz0 hz1 hRW hset he e1 e2 hfl hBE hBE'
      go_wp2_with fail
      rw [← HWB.out]
      refine wp_region_held_drew (S := fun wz => wz.cell? ⟨wr.heap.size, 0, none⟩ = some (.int .i64 ((a : Nat) : Int)) ∧ wz.cell? ⟨wr.heap.size, 1, none⟩ = some (.int .i64 ((b : Nat) : Int)) ∧ wz.cell? (ad.add a) = some (.int .i64 ((x : Nat) : Int)) ∧ wz.cell? (ad.add b) = some (.int .i64 ((y : Nat) : Int))) (by kernel_rfl) ⟨HSB.out.1, HSB.out.2.1, HSB.out.2.2.1, HSB.out.2.2.2⟩ (fun hS => ?_)
      refine wpAnyH_take (i := 0) (v := ?_) rfl (by kernel_rfl) (by kernel_rfl) (by kernel_rfl) (fun _ _ _ h => h) (Or.inl ⟨by rfl, ?_⟩) hS ?_
      rotate_left
      · intro wz hSw; (try dsimp only at hSw); go_simp; (try with_reducible rfl)
      try simp only [List.getElem_toArray, List.getElem_cons_zero, List.getElem_cons_succ, Act.put, List.setIfInBounds_toArray, List.set_cons_zero, List.set_cons_succ]
      refine wpAnyH_take (i := 1) (v := ?_) rfl (by kernel_rfl) (by kernel_rfl) (by kernel_rfl) (fun _ _ _ h => h) (Or.inl ⟨by rfl, ?_⟩) hS ?_
      rotate_left
      · intro wz hSw; (try dsimp only at hSw); go_simp; (try with_reducible rfl)
      try simp only [List.getElem_toArray, List.getElem_cons_zero, List.getElem_cons_succ, Act.put, List.setIfInBounds_toArray, List.set_cons_zero, List.set_cons_succ]
      refine wpAnyH_take (i := 2) (v := ?_) rfl (by kernel_rfl) (by kernel_rfl) (by kernel_rfl) (fun _ _ _ h => h) (Or.inl ⟨by rfl, ?_⟩) hS ?_
      rotate_left
      · intro wz hSw; (try dsimp only at hSw); go_simp; (try with_reducible rfl)
      try simp only [List.getElem_toArray, List.getElem_cons_zero, List.getElem_cons_succ, Act.put, List.setIfInBounds_toArray, List.set_cons_zero, List.set_cons_succ]
      refine wpAnyH_take (i := 3) (v := ?_) rfl (by kernel_rfl) (by kernel_rfl) (by kernel_rfl) (fun _ _ _ h => h) (Or.inl ⟨by rfl, ?_⟩) hS ?_
      rotate_left
      · intro wz hSw; (try dsimp only at hSw); go_simp; (try with_reducible rfl)
      try simp only [List.getElem_toArray, List.getElem_cons_zero, List.getElem_cons_succ, Act.put, List.setIfInBounds_toArray, List.set_cons_zero, List.set_cons_succ]
      refine wpAnyH_take (i := 4) (v := ?_) rfl (by kernel_rfl) (by kernel_rfl) (by kernel_rfl) (fun _ _ _ h => h) (Or.inl ⟨by rfl, ?_⟩) hS ?_
      rotate_left
      · intro wz hSw; (try dsimp only at hSw); obtain ⟨q1, q2, q3, q4⟩ := hSw; go_simp; (try with_reducible rfl)
      try simp only [List.getElem_toArray, List.getElem_cons_zero, List.getElem_cons_succ, Act.put, List.setIfInBounds_toArray, List.set_cons_zero, List.set_cons_succ]
      refine wpAnyH_take (i := 5) (v := ?_) rfl (by kernel_rfl) (by kernel_rfl) (by kernel_rfl) (fun _ _ _ h => h) (Or.inl ⟨by rfl, ?_⟩) hS ?_
      rotate_left
      · intro wz hSw; (try dsimp only at hSw); go_simp; (try with_reducible rfl)
      try simp only [List.getElem_toArray, List.getElem_cons_zero, List.getElem_cons_succ, Act.put, List.setIfInBounds_toArray, List.set_cons_zero, List.set_cons_succ]
      refine wpAnyH_take (i := 6) (v := ?_) rfl (by kernel_rfl) (by kernel_rfl) (by kernel_rfl) (fun _ _ _ h => h) (Or.inl ⟨by rfl, ?_⟩) hS ?_
      rotate_left
      · intro wz hSw; (try dsimp only at hSw); obtain ⟨q1, q2, q3, q4⟩ := hSw; go_simp; (try with_reducible rfl)
      try simp only [List.getElem_toArray, List.getElem_cons_zero, List.getElem_cons_succ, Act.put, List.setIfInBounds_toArray, List.set_cons_zero, List.set_cons_succ]
      refine wpAnyH_take (i := 7) (v := ?_) rfl (by kernel_rfl) (by kernel_rfl) (by kernel_rfl) (fun _ _ _ h => h) (Or.inl ⟨by rfl, ?_⟩) hS ?_
      rotate_left
      · intro wz hSw; (try dsimp only at hSw); go_simp; (try with_reducible rfl)
      try simp only [List.getElem_toArray, List.getElem_cons_zero, List.getElem_cons_succ, Act.put, List.setIfInBounds_toArray, List.set_cons_zero, List.set_cons_succ]
      refine wpAnyH_take (i := 8) (v := ?_) rfl (by kernel_rfl) (by kernel_rfl) (by kernel_rfl) (fun _ _ _ h => h) (Or.inl ⟨by rfl, ?_⟩) hS ?_
      rotate_left
      · intro wz hSw; (try dsimp only at hSw); go_simp; (try with_reducible rfl)
      try simp only [List.getElem_toArray, List.getElem_cons_zero, List.getElem_cons_succ, Act.put, List.setIfInBounds_toArray, List.set_cons_zero, List.set_cons_succ]
      refine wpAnyH_take (i := 9) (v := ?_) rfl (by kernel_rfl) (by kernel_rfl) (by kernel_rfl) (fun _ _ _ h => h) (Or.inl ⟨by rfl, ?_⟩) hS ?_
      rotate_left
      · intro wz hSw; (try dsimp only at hSw); obtain ⟨q1, q2, q3, q4⟩ := hSw; go_simp; (try with_reducible rfl)
      try simp only [List.getElem_toArray, List.getElem_cons_zero, List.getElem_cons_succ, Act.put, List.setIfInBounds_toArray, List.set_cons_zero, List.set_cons_succ]
      refine wpAnyH_take (i := 10) (v := ?_) rfl (by kernel_rfl) (by kernel_rfl) (by kernel_rfl) (fun _ _ _ h => h) (Or.inl ⟨by rfl, ?_⟩) hS ?_
      rotate_left
      · intro wz hSw; (try dsimp only at hSw); go_simp; (try with_reducible rfl)
      try simp only [List.getElem_toArray, List.getElem_cons_zero, List.getElem_cons_succ, Act.put, List.setIfInBounds_toArray, List.set_cons_zero, List.set_cons_succ]
      refine wpAnyH_take (i := 11) (v := ?_) rfl (by kernel_rfl) (by kernel_rfl) (by kernel_rfl) (fun _ _ _ h => h) (Or.inl ⟨by rfl, ?_⟩) hS ?_
      rotate_left
      · intro wz hSw; (try dsimp only at hSw); obtain ⟨q1, q2, q3, q4⟩ := hSw; go_simp; (try with_reducible rfl)
      try simp only [List.getElem_toArray, List.getElem_cons_zero, List.getElem_cons_succ, Act.put, List.setIfInBounds_toArray, List.set_cons_zero, List.set_cons_succ]
      refine wpAnyH_take (i := 12) (v := ?_) rfl (by kernel_rfl) (by kernel_rfl) (by kernel_rfl) (fun _ _ _ h => h) (Or.inl ⟨by rfl, ?_⟩) hS ?_
      rotate_left
      · intro wz hSw; (try dsimp only at hSw); go_simp; (try with_reducible rfl)
      try simp only [List.getElem_toArray, List.getElem_cons_zero, List.getElem_cons_succ, Act.put, List.setIfInBounds_toArray, List.set_cons_zero, List.set_cons_succ]
      refine wpAnyH_take (i := 13) (v := ?_) rfl (by kernel_rfl) (by kernel_rfl) (by kernel_rfl) (fun _ _ _ h => h) (Or.inl ⟨by rfl, ?_⟩) hS ?_
      rotate_left
      · intro wz hSw; (try dsimp only at hSw); go_simp; (try with_reducible rfl)
      try simp only [List.getElem_toArray, List.getElem_cons_zero, List.getElem_cons_succ, Act.put, List.setIfInBounds_toArray, List.set_cons_zero, List.set_cons_succ]
      obtain ⟨f0, f1, f2, f3⟩ := HFB.out
      refine wpAnyH_ready (rs := [14]) (by kernel_rfl) (by simp) (AllReadyH.cons rfl (fun K hK => ?_) AllReadyH.nil)
      go_simp
      have hsz : w2.heap.size < wr.heap.size := by omega
      refine hK.out _ _ ⟨?_, ?_, ?_, ?_⟩ (fun _ => ?_)
      · exact ((World.cell?_setCell_far _ _ _ _ (by show w2.heap.size ≠ wr.heap.size; omega)).trans (World.cell?_setCell_far _ _ _ _ (by show w2.heap.size ≠ wr.heap.size; omega))).trans hS.1
      · exact ((World.cell?_setCell_far _ _ _ _ (by show w2.heap.size ≠ wr.heap.size; omega)).trans (World.cell?_setCell_far _ _ _ _ (by show w2.heap.size ≠ wr.heap.size; omega))).trans hS.2.1
      · exact ((World.cell?_setCell_far _ _ _ _ (by rw [block_add]; show w2.heap.size ≠ ad.block; have := HAD.out; omega)).trans (World.cell?_setCell_far _ _ _ _ (by rw [block_add]; show w2.heap.size ≠ ad.block; have := HAD.out; omega))).trans hS.2.2.1
      · exact ((World.cell?_setCell_far _ _ _ _ (by rw [block_add]; show w2.heap.size ≠ ad.block; have := HAD.out; omega)).trans (World.cell?_setCell_far _ _ _ _ (by rw [block_add]; show w2.heap.size ≠ ad.block; have := HAD.out; omega))).trans hS.2.2.2
      clear hK K
      refine wpAnyH_done (by kernel_rfl) ?_ _
      go_wp2_with fail
      go_roundw
      case rel => exact ⟨k + 1, by omega, by go_num, HSET, Lib.hid (HBF.out.trans ⟨rfl, rfl, rfl, Nat.le_refl _, fun _ _ => rfl⟩)⟩
      case measure => simp [intOf]; omega
    · obtain rfl : k = m := by omega
      have t1 : decide ((k : Int) < (k : Int)) = false := by simp
      have hBE := HB3.out.trans (hb.out.mono HB2.out.size)
      obtain ⟨n0, n1, _, _⟩ := cells_two (w := wr) (blk_below HW0.out hBE)
      have hRd := hR.out.rd
      have hfa : fillP E (edP p) k = E.map (edP p) := by rw [HM.out]; exact fillP_all E (edP p)
      rw [hfa] at hRd
      have HNEW := Lib.hid (new_yes (some ⟨w2.heap.size, 0, none⟩) k k n (E.map (edP p)) wr hRd (by rw [List.length_map]; exact HM.out) HED.out)
      have HBE := Lib.hid hBE
      clear hRd hfa hBE
      go_wp2_with fail
      refine HNEW.out.mono ?_
      rintro e w4 ⟨B, c', F, rfl, hF1, hF2, hF3, hF4, hb4⟩
      have hB4 := next_below HBE.out hb4
      obtain ⟨r0, r1, r2, r3⟩ := cells_two (w := w4) (blk_below HW1.out hB4)
      have q0 := World.cell?_setCell_same' w4 ⟨w.heap.size + 1, 0, none⟩ (.int .i64 (n : Nat)) (by rw [r0]; rfl)
      have q1 := World.cell?_setCell_same' (w4.setCell ⟨w.heap.size + 1, 0, none⟩ (.int .i64 (n : Nat))) ⟨w.heap.size + 1, 1, none⟩ (.slice B k c') (by rw [World.cell?_setCell_other _ _ _ _ (by simp), r1]; rfl)
      have HF1 := Lib.hid hF1
      have HF2 := Lib.hid hF2
      have hF5 : ∀ ad, B = some ad → w.heap.size + 2 ≤ ad.block := fun ad e => by have := hF4 ad e; have := HBE.out.size; have := HWS.out; omega
      have HF3 := Lib.hid ((hF3.far (a := ⟨w.heap.size + 1, 0, none⟩) (fun ad e => by have := hF5 ad e; show ad.block ≠ w.heap.size + 1; omega) (.int .i64 (n : Nat))).far (a := ⟨w.heap.size + 1, 1, none⟩) (fun ad e => by have := hF5 ad e; show ad.block ≠ w.heap.size + 1; omega) (.slice B k c'))
      have HF5 := Lib.hid hF5
      have HB4 := Lib.hid (next_below HBW.out hB4)
      clear hF1 hF2 hF3 hF4 hF5 hB4 hb4
      go_wp2_with fail
      refine bodyPost_ret (by rw [results_cell_tmp rfl]; simp [go_sem, q0, q1, Result.andThen] <;> rfl) rfl ?_
      refine ⟨B, c', F, rfl, HF1.out, HF2.out, HF3.out, (fun ad e => by have := HF5.out ad e; omega), ?_⟩
      exact (HB4.out.setCell (p := ⟨w.heap.size + 1, 0, none⟩) (by show w.heap.size ≤ w.heap.size + 1; omega) _).setCell (p := ⟨w.heap.size + 1, 1, none⟩) (by show w.heap.size ≤ w.heap.size + 1; omega) _
end Go.Proofs.Ytgldlanfbkgfjaa
