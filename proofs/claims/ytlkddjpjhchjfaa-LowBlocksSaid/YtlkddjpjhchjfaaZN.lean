/- D6 DL DM DN: several texts in one. -/
import Derived.Test.YtlkddjpjhchjfaaD2
import Derived.Test.YtlkddjpjhchjfaaW25
import Derived.Test.YtlkddjpjhchjfaaW31
import Derived.Test.YtlkddjpjhchjfaaDK
import Derived.Test.YtlkddjpjhchjfaaBK
import Derived.Test.YtlkddjpjhchjfaaW29
import Derived.Deep.AppendLies
import Derived.Laws.Rows
import Derived.Laws.ResultCell
import Derived.Test.YtlkddjpjhchjfaaZL
namespace Go.Proofs.Ytlkddjpjhchjfaa
section
set_option maxRecDepth 100000
open Go.RowKit

theorem Dist.con {T : List (List Int)} {N fr : Nat} {ds : List Int} (h : Dist T N fr ds) (hf : fr < N) (hb : ∀ u v, adj T u v → v < N) {v : Nat} (hv : v < N) : 0 ≤ gd ds v ↔ Con (adj T) fr v := by
  constructor
  · intro h0
    have key : ∀ (k : Nat) (v : Nat), v < N → gd ds v = (k : Int) → Con (adj T) fr v := by
      intro k
      induction k with
      | zero =>
        intro v hv e
        rw [h.only v hv e]
        exact .refl _
      | succ k ih =>
        intro v hv e
        obtain ⟨u, h1, h2, h3⟩ := h.from_ v hv (by omega)
        exact (ih u h1 (by omega)).step h2
    exact key (gd ds v).toNat v hv (by omega)
  · intro hc
    have key : ∀ {x : Nat}, Con (adj T) fr x → x < N ∧ 0 ≤ gd ds x := fun {x} hc => by
      induction hc with
      | refl => exact ⟨hf, by rw [h.zero]; exact Int.le_refl _⟩
      | step _ e ih => exact ⟨hb _ _ e, (h.step _ ih.1 ih.2 _ e).1⟩
    exact (key hc).2
theorem rch_con {N : Nat} {E : List (Int × Int)} (hg : rightG (N : Nat) E = true) {u v : Nat} (hu : u < N) (hv : v < N) : Rch N E u v ↔ Con (adj (tabG N E)) u v :=
  (dist_is hg hu).con hu (fun a b h => by
    obtain ⟨y, e, hy⟩ := tabG_mem hg h
    omega) hv
/-- A graph's edges that do not end at a vertex. -/
def offE (v : Nat) (E : List (Int × Int)) : List (Int × Int) := E.filter fun e => !(e.1 == (v : Int) || e.2 == (v : Int))
theorem adj_lt {N : Nat} {E : List (Int × Int)} (hg : rightG (N : Nat) E = true) {a b : Nat} (h : adj (tabG N E) a b) : a < N ∧ b < N := by
  have key : ∀ a b, adj (tabG N E) a b → b < N := fun a b h => by
    obtain ⟨y, e, hy⟩ := tabG_mem hg h
    omega
  exact ⟨key b a (tabG_sym hg h), key a b h⟩
theorem off_adj {N v : Nat} {E : List (Int × Int)} (hg : rightG (N : Nat) E = true) (hg' : rightG (N : Nat) (offE v E) = true) (a b : Nat) : adj (tabG N (offE v E)) a b ↔ Wo (adj (tabG N E)) v a b := by
  by_cases hab : a < N ∧ b < N
  · obtain ⟨ha, hb⟩ := hab
    unfold Wo
    rw [← hasG_adj hg' ha hb, ← hasG_adj hg ha hb]
    unfold hasG offE
    rw [decide_eq_true_iff, decide_eq_true_iff, List.mem_filter]
    refine and_congr_right fun _ => ?_
    simp only [Bool.not_eq_true', Bool.or_eq_false_iff, beq_eq_false_iff_ne]
    constructor
    · rintro ⟨h1, h2⟩
      constructor <;> intro e <;> subst e <;> omega
    · rintro ⟨h1, h2⟩
      constructor <;> omega
  · constructor
    · intro h
      exact absurd (adj_lt hg' h) hab
    · intro h
      exact absurd (adj_lt hg h.1) hab
theorem Con.mono {E E' : Nat → Nat → Prop} (h : ∀ a b, E a b → E' a b) {a b : Nat} (hc : Con E a b) : Con E' a b := by
  induction hc with
  | refl => exact .refl _
  | step _ e ih => exact ih.step (h _ _ e)
theorem Con.congr {E E' : Nat → Nat → Prop} (h : ∀ a b, E a b ↔ E' a b) {a b : Nat} : Con E a b ↔ Con E' a b := ⟨Con.mono (fun a b => (h a b).1), Con.mono (fun a b => (h a b).2)⟩
/-- To be come to in a graph without a vertex' edges. -/
theorem rch_off {N v : Nat} {E : List (Int × Int)} (hg : rightG (N : Nat) E = true) (hg' : rightG (N : Nat) (offE v E) = true) {a b : Nat} (ha : a < N) (hb : b < N) : Rch N (offE v E) a b ↔ Con (Wo (adj (tabG N E)) v) a b :=
  (rch_con hg' ha hb).trans (Con.congr (off_adj hg hg'))
end
section
set_option maxRecDepth 100000
open Go.RowKit

theorem aF_place {L : List (Int × Int)} {own : Nat → Nat} {i : Nat} {e : Int × Int} (nd : L.Nodup) (he : L[i]? = some e) : ∃ j, place own L.length (own i) = some j ∧ aF (blkO L own L.length) e = some (j : Int) := by
  have hil := (List.getElem?_eq_some_iff.1 he).1
  obtain ⟨j, x, hp, hx⟩ := place_is (L := L) (own := own) hil
  have hm := (blkO_has nd (Nat.le_refl _) hx he hil).2 hp
  refine ⟨j, hp, ?_⟩
  unfold aF
  have hf : (blkO L own L.length).findIdx? (fun x => decide (e ∈ x)) = some j := by
    rw [List.findIdx?_eq_some_iff_getElem]
    obtain ⟨hl, hxe⟩ := List.getElem?_eq_some_iff.1 hx
    refine ⟨hl, by rw [hxe]; simpa using hm, fun j' hj' => ?_⟩
    have hx' : (blkO L own L.length)[j']? = some ((blkO L own L.length)[j']'(by omega)) := List.getElem?_eq_getElem _
    intro hd
    have hm' : e ∈ (blkO L own L.length)[j']'(by omega) := by simpa using hd
    have := (blkO_has nd (Nat.le_refl _) hx' he hil).1 hm'
    rw [hp] at this
    injection this with this
    omega
  rw [hf]
  rfl
theorem adj_in {n v a : Nat} {E : List (Int × Int)} (hg : rightG (n : Nat) E = true) (h : adj (tabG n E) v a) : ∃ (i x y : Nat), E[i]? = some ((x : Int), (y : Int)) ∧ (min (v : Int) (a : Int), max (v : Int) (a : Int)) = ((x : Int), (y : Int)) ∧ (x = v ∧ y = a ∨ x = a ∧ y = v) := by
  have hu : v < n := by obtain ⟨y, e, hy⟩ := tabG_mem hg (tabG_sym hg h); omega
  have hv : a < n := by obtain ⟨y, e, hy⟩ := tabG_mem hg h; omega
  have h1 := (hasG_adj hg hu hv).2 h
  unfold hasG at h1
  rw [decide_eq_true_iff] at h1
  obtain ⟨i, hi⟩ := List.getElem?_of_mem h1
  rcases Nat.le_total v a with h2 | h2
  · rw [show min (v : Int) (a : Int) = v by omega, show max (v : Int) (a : Int) = a by omega] at hi ⊢
    exact ⟨i, v, a, hi, rfl, .inl ⟨rfl, rfl⟩⟩
  · rw [show min (v : Int) (a : Int) = a by omega, show max (v : Int) (a : Int) = v by omega] at hi ⊢
    exact ⟨i, a, v, hi, rfl, .inr ⟨rfl, rfl⟩⟩
theorem off_right {n : Nat} {E : List (Int × Int)} (hg : rightG (n : Nat) E = true) (v : Nat) : rightG (n : Nat) (offE v E) = true := sub_right hg (by unfold offE; exact List.filter_sublist)
/-- The stage's theorem, as the statement asks it. -/
theorem blocks_core {N : Nat} {E : List (Int × Int)} {A : List Nat} {U : Nat → Option Nat} {F : Nat → Nat} {O : List Int} (hg : rightG (N : Nat) E = true) (hS : BlkS N E A U F O) {v a b : Nat} (ha : adj (tabG N E) v a) (hb : adj (tabG N E) v b) :
    ∃ p q : Nat, aF (blkG N E) (min (v : Int) (a : Int), max (v : Int) (a : Int)) = some (p : Int) ∧ aF (blkG N E) (min (v : Int) (b : Int), max (v : Int) (b : Int)) = some (q : Int) ∧ (p = q ↔ Rch N (offE v E) a b) := by
  have nd := right_nodup hg
  rw [hS.blk hg]
  obtain ⟨i, x, y, hi, e1, h1⟩ := adj_in hg ha
  obtain ⟨k, z, t, hk, e2, h2⟩ := adj_in hg hb
  rw [e1, e2]
  obtain ⟨own, ho⟩ : ∃ own, bkey A O E = own := ⟨_, rfl⟩
  have ca := hS.cls hg hi
  have cb := hS.cls hg hk
  rw [ho] at ca cb ⊢
  obtain ⟨p, hp, fp⟩ := aF_place (own := own) nd hi
  obtain ⟨q, hq, fq⟩ := aF_place (own := own) nd hk
  refine ⟨p, q, fp, fq, ?_⟩
  have ca' : Cls (adj (tabG N E)) U v a (own i) := by
    rcases h1 with ⟨rfl, rfl⟩ | ⟨rfl, rfl⟩
    · exact ca
    · exact ca.symm
  have cb' : Cls (adj (tabG N E)) U v b (own k) := by
    rcases h2 with ⟨rfl, rfl⟩ | ⟨rfl, rfl⟩
    · exact cb
    · exact cb.symm
  have hil := (List.getElem?_eq_some_iff.1 hi).1
  have hkl := (List.getElem?_eq_some_iff.1 hk).1
  have haN := (adj_lt hg ha).2
  have hbN := (adj_lt hg hb).2
  rw [rch_off hg (off_right hg v) haN hbN, ← (hS.nr.forest hg).core ha hb ca' cb', ← place_eq hil hkl, hp, hq]
  constructor
  · rintro rfl; rfl
  · intro h; injection h
/-- The statement's test. -/
theorem core_test {N : Nat} {E : List (Int × Int)} {A : List Nat} {U : Nat → Option Nat} {F : Nat → Nat} {O : List Int} (hg : rightG (N : Nat) E = true) (hS : BlkS N E A U F O) {v a b : Nat} {ds : List Int} (ha : adj (tabG N E) v a) (hb : adj (tabG N E) v b) (hD : Dist (tabG N (offE v E)) N a ds) :
    ((((aF (blkG N E) (min (v : Int) (a : Int), max (v : Int) (a : Int))).getD 0 == (aF (blkG N E) (min (v : Int) (b : Int), max (v : Int) (b : Int))).getD 0) != decide (0 ≤ gd ds b)) = false) := by
  obtain ⟨p, q, h1, h2, h3⟩ := blocks_core hg hS ha hb
  rw [h1, h2]
  have haN := (adj_lt hg ha).2
  have hbN := (adj_lt hg hb).2
  have hr : Rch N (offE v E) a b ↔ 0 ≤ gd ds b := by
    unfold Rch
    rw [distOf_eq hD]
  rw [hr] at h3
  simp only [Option.getD_some]
  by_cases h : 0 ≤ gd ds b
  · have hpq := h3.2 h
    subst hpq
    simp [h]
  · have hpq : ¬ p = q := fun e => h (h3.1 e)
    have h4 : ((p : Int) == (q : Int)) = false := by rw [beq_eq_false_iff_ne]; omega
    rw [h4]
    simp [h]
end
section
set_option maxRecDepth 100000
open Go.RowKit
attribute [local go_sem ↓] min_run

/-- A graph that is looked at here. -/
def right24 (N : Int) (E : List (Int × Int)) : Bool := rightG N E && decide (N ≤ 24)
theorem right24_any (A : Option Addr) (c n : Nat) (N : Int) (E : List (Int × Int)) (w : World) (hr : RdP w A E) (hn : n = E.length) :
    Calls Try.prog 27 #[.agg #[.int .i64 N, .slice A n c]] w fun e w' => e = .returned (.bool (right24 N E)) ∧ Below w.heap.size w w' := by
  obtain ⟨X, hX⟩ : ∃ X, X = w.alloc (.cells #[.int .i64 N, .slice A n c] 24) := ⟨_, rfl⟩
  have hb : Below w.heap.size w X := by rw [hX]; exact (Below.refl _ _).alloc (Nat.le_refl _) _
  have hXS : w.heap.size < X.heap.size := by rw [hX]; simp
  obtain ⟨j0, j1, _, _⟩ := cells_two (w := X) (by rw [hX]; exact heap_alloc_new w _)
  have HJ : Hid (∀ w', Below X.heap.size X w' → w'.cell? ⟨w.heap.size, 0, none⟩ = some (.int .i64 N) ∧ w'.cell? ⟨w.heap.size, 1, none⟩ = some (.slice A n c)) := fun w' hb =>
    ⟨by rw [hb.cell (by show w.heap.size < _; omega)]; exact j0, by rw [hb.cell (by show w.heap.size < _; omega)]; exact j1⟩
  have HR := right_any A c n N E X (hr.below hb) hn
  obtain ⟨p, hp⟩ : ∃ p, rightG N E = p := ⟨_, rfl⟩
  unfold right24
  rw [hp] at HR ⊢
  have HR := Lib.hid HR
  have HX := Lib.hid hX
  have HB := Lib.hid hb
  clear hr hn hX hb hp
  cases h30 : decide (N ≤ 24)
  all_goals
    have h31 : decide (N ≤ 24) = decide (N ≤ 24) := rfl
    clear h31
    go_enter Try.func27, Try.ntmps27
    go_wp2_with fail
    rw [← HX.out]
    refine HR.out.mono ?_
    rintro e w1 ⟨rfl, hb1⟩
    have HB1 := Lib.hid hb1
    clear hb1
    obtain ⟨k0, k1⟩ := HJ.out w1 HB1.out
    cases p
    all_goals
      go_wp2_with fail
      go_ret
      exact ⟨rfl, HB.out.trans (HB1.out.mono (Nat.le_of_lt hXS))⟩
theorem max_run (ats : Array TypeId) (ty : TypeId) (a b : Int) (w : World) : (Builtin.max_ ats ty #[.int .i64 a, .int .i64 b]).run Try.prog w = .ok (.int .i64 (max a b)) w := by
  show Result.ok (Value.int .i64 (if a < b then b else a)) w = _
  by_cases h : a < b
  · rw [if_pos h, show max a b = b by omega]
  · rw [if_neg h, show max a b = a by omega]
attribute [local go_sem ↓] max_run
set_option maxHeartbeats 4000000 in
theorem edge_any (a b : Int) (w : World) : Calls Try.prog 33 #[.int .i64 a, .int .i64 b] w fun e w' => e = .returned (.agg #[.int .i64 (min a b), .int .i64 (max a b)]) ∧ Below w.heap.size w w' := by
  obtain ⟨m, hm⟩ : ∃ m, min a b = m := ⟨_, rfl⟩
  obtain ⟨M, hM⟩ : ∃ M, max a b = M := ⟨_, rfl⟩
  rw [hm, hM]
  have HB : Hid (Below w.heap.size w (w.alloc (.cells #[.int .i64 m, .int .i64 M] 51))) := (Below.refl _ _).alloc (Nat.le_refl _) _
  go_enter Try.func33, Try.ntmps33
  go_wp2_with fail
  refine bodyPost_ret (results_cell_row rfl _ _ w.heap.size 51 #[.int .i64 m, .int .i64 M] (0, 0) _ rfl (heap_alloc_new w _) Try.underlying51 rfl (by kernel_rfl)) rfl ?_
  exact ⟨rfl, HB.out⟩
set_option maxHeartbeats 4000000 in
theorem clos_any (a b v : Int) (pv : Nat) (w : World) (hc : w.cell? ⟨pv, 0, none⟩ = some (.int .i64 v)) : Calls Try.prog 31 #[.agg #[.int .i64 a, .int .i64 b], .pointer (some ⟨pv, 0, none⟩)] w fun e w' => e = .returned (.bool (a == v || b == v)) ∧ Below w.heap.size w w' := by
  have hb : Below w.heap.size w (w.alloc (.cells #[.int .i64 a, .int .i64 b] 51)) := (Below.refl _ _).alloc (Nat.le_refl _) _
  have hc2 : (w.alloc (.cells #[.int .i64 a, .int .i64 b] 51)).cell? ⟨pv, 0, none⟩ = some (.int .i64 v) := by rw [hb.cell (World.block_lt_of_cell? _ _ hc)]; exact hc
  have HB := Lib.hid hb
  clear hb hc
  cases h1 : (a == v) <;> cases h2 : (b == v)
  all_goals
    go_enter Try.func31, Try.ntmps31
    go_wp2_with fail
    go_ret
    exact ⟨rfl, HB.out⟩
theorem off_step {E : List (Int × Int)} {k v : Nat} {e : Int × Int} (he : E[k]? = some e) : offE v (E.take (k + 1)) = offE v (E.take k) ++ (if (e.1 == (v : Int) || e.2 == (v : Int)) = true then [] else [e]) := by
  unfold offE
  rw [List.take_add_one, he, Option.toList_some, List.filter_append]
  congr 1
  cases h : (e.1 == (v : Int) || e.2 == (v : Int))
  · rw [List.filter_cons_of_pos (by rw [h]; rfl)]
    rfl
  · rw [List.filter_cons_of_neg (by rw [h]; simp)]
    rfl
theorem off_le (E : List (Int × Int)) (v : Nat) : (offE v E).length ≤ E.length := List.length_filter_le _ _
theorem pinfoM : (Try.prog.info? 51).map (fun i => (i.zero, i.size, i.bytes)) = some (some (.agg #[.int .i64 0, .int .i64 0]), 2, 16) := by kernel_rfl
theorem pcells_oneM (S : List (Int × Int)) (e : Int × Int) : pcells (S ++ [e]) = pcells S ++ [.int .i64 e.1, .int .i64 e.2] := by simp [pcells, zv]
/-- What lies while edges are gone through: what is kept so far. -/
structure WI (W3 : World) (hb N v k : Nat) (E : List (Int × Int)) (V : Value) (w : World) : Prop where
  box : w.heap[hb]? = some (.cells #[.int .i64 (N : Nat), V] 24 (0, 0))
  row : w.ownsRow (hb + 1) 51 2 V (offE v (E.take k)).length (pcells (offE v (E.take k)))
  bel : Below hb W3 w
theorem WI.below {W3 w w' : World} {hb N v k : Nat} {E : List (Int × Int)} {V : Value} (h : WI W3 hb N v k E V w) (hw : Below w.heap.size w w') : WI W3 hb N v k E V w' :=
  ⟨blk_below h.box hw, row_below h.row hw, h.bel.trans (hw.mono (Nat.le_of_lt (lt_of_block h.box)))⟩
set_option maxHeartbeats 32000000 in
theorem without_any (A : Option Addr) (c n N v pv : Nat) (E : List (Int × Int)) (w : World) (hr : RdP w A E) (hn : n = E.length) (hs : n ≤ 1000000) (hc : w.cell? ⟨pv, 0, none⟩ = some (.int .i64 (v : Nat))) :
    Calls Try.prog 30 #[.agg #[.int .i64 (N : Nat), .slice A n c], .func (.func 31) #[] #[.pointer (some ⟨pv, 0, none⟩)]] w fun e w' => ∃ (A' : Option Addr) (c' : Nat), e = .returned (.agg #[.int .i64 (N : Nat), .slice A' (offE v E).length c']) ∧ RdP w' A' (offE v E) ∧ Below w.heap.size w w' := by
  obtain ⟨X, hX⟩ : ∃ X, X = w.alloc (.cells #[.int .i64 (N : Nat), .slice A n c] 24) := ⟨_, rfl⟩
  have hb : Below w.heap.size w X := by rw [hX]; exact (Below.refl _ _).alloc (Nat.le_refl _) _
  obtain ⟨j0, j1, _, _⟩ := cells_two (w := X) (by rw [hX]; exact heap_alloc_new w _)
  have hXs : X.heap.size = w.heap.size + 1 := by rw [hX]; simp
  obtain ⟨X2, hX2⟩ : ∃ X2, X2 = (X.alloc (.cells #[.int .i64 0, .slice none 0 0] 24)) := ⟨_, rfl⟩
  have hb2 : Below X.heap.size X X2 := by rw [hX2]; exact (Below.refl _ _).alloc (Nat.le_refl _) _
  have hX2s : X2.heap.size = w.heap.size + 1 + 1 := by rw [hX2]; simp [hXs]
  obtain ⟨W3, hW3⟩ : ∃ W3, W3 = (X2.alloc (.cells #[.int .i64 (N : Nat), .slice none 0 0] 24)) := ⟨_, rfl⟩
  have hb3 : Below X2.heap.size X2 W3 := by rw [hW3]; exact (Below.refl _ _).alloc (Nat.le_refl _) _
  have hbX3 : Below X.heap.size X W3 := next_below hb2 hb3
  have hb03 : Below w.heap.size w W3 := next_below hb hbX3
  have HJ : Hid (∀ w', Below (w.heap.size + 1 + 1) W3 w' → w'.cell? ⟨w.heap.size, 1, none⟩ = some (.slice A n c) ∧ w'.cell? ⟨pv, 0, none⟩ = some (.int .i64 (v : Nat)) ∧ RdP w' A E ∧ w'.heap[w.heap.size + 1]? = some (.cells #[.int .i64 0, .slice none 0 0] 24 (0, 0)) ∧ Below w.heap.size w w') := fun w' hw => by
    have hlt := World.block_lt_of_cell? _ _ hc
    have hw2 : Below w.heap.size w w' := hb03.trans (hw.mono (by omega))
    refine ⟨?_, ?_, ?_, ?_, hw2⟩
    · rw [hw.cell (by show w.heap.size < _; omega), hbX3.cell (by show w.heap.size < _; omega)]; exact j1
    · rw [hw2.cell hlt]; exact hc
    · intro q e hq
      obtain ⟨ad, e1, hl, h0, h1⟩ := hr q e hq
      exact ⟨ad, e1, Nat.lt_of_lt_of_le hl hw2.size, by rw [hw2.cell (by rw [block_add]; exact hl)]; exact h0, by rw [hw2.cell (by show (ad.add (q * 2)).block < _; rw [block_add]; exact hl)]; exact h1⟩
    · rw [hw.block _ (by omega), hb3.block _ (by omega), hX2, ← hXs]
      exact heap_alloc_new X _
  have HW0 : Hid (WI W3 (w.heap.size + 1 + 1) N v 0 E (.slice none 0 0) W3) := ⟨by rw [hW3, ← hX2s]; exact heap_alloc_new X2 _, World.ownsRow_nil _ _ _ _, Below.refl _ _⟩
  have HWE : Hid (W3 = (((w.alloc (.cells #[.int .i64 (N : Nat), .slice A n c] 24)).alloc (.cells #[.int .i64 0, .slice none 0 0] 24)).alloc (.cells #[.int .i64 (N : Nat), .slice none 0 0] 24))) := by show _ = _; rw [hW3, hX2, hX]
  have HN := Lib.hid hn
  obtain ⟨i1, hi1, hy0, hy1, hy2⟩ := info_partsI pinfoM
  clear hr hn hc hX hb hX2 hb2 hW3 hb3 hbX3 hb03 hXs hX2s j0 j1
  go_enter Try.func30, Try.ntmps30
  go_upto_region 2 with fail
  rw [← HWE.out]
  obtain ⟨j1, _⟩ := HJ.out W3 HW0.out.bel
  go_wp2_with fail
  clear j1
  go_loopw [14] (fun s14 wr => ∃ (k : Nat) (V : Value), k ≤ n ∧ s14 = .int .i64 k ∧ Hid (WI W3 (w.heap.size + 1 + 1) N v k E V wr)) (fun s14 _ => n - (intOf s14).toNat)
  case atStart => exact ⟨0, _, Nat.zero_le _, rfl, HW0⟩
  case round =>
    clear HW0
    obtain ⟨k, V, hk, rfl, hI⟩ := hrel
    by_cases h1 : k < n
    · have t1 : decide ((k : Int) < (n : Int)) = true := by simp; omega
      have hK0 : (0 : Int) ≤ (k : Int) := by omega
      have hK1 : (k : Int) < (n : Nat) := by omega
      obtain ⟨e, he⟩ : ∃ e, E[k]? = some e := ⟨_, List.getElem?_eq_getElem (by rw [← HN.out]; exact h1)⟩
      obtain ⟨_, _, hrd, _, _⟩ := HJ.out wr hI.out.bel
      obtain ⟨ad, rfl, _, p0, p1⟩ := hrd k e he
      have hst := off_step (v := v) he
      obtain ⟨x, y⟩ := e
      simp only at p0 p1 hst
      have hIY := hI.out.below ((Below.refl wr.heap.size wr).alloc (Nat.le_refl _) (.cells #[.int .i64 x, .int .i64 y] 51))
      have hEB : (wr.alloc (.cells #[.int .i64 x, .int .i64 y] 51)).heap[wr.heap.size]? = some (.cells #[.int .i64 x, .int .i64 y] 51 (0, 0)) := heap_alloc_new wr _
      have hVpe : V.ownBlock ≠ some wr.heap.size := fun e => by
        have := (hI.out.row.lt _ e).2
        omega
      have hle : (offE v (E.take k)).length ≤ 1000000 := by
        have := off_le (E.take k) v
        rw [List.length_take] at this
        omega
      clear he hrd hI
      go_upto_region 5 with fail
      obtain ⟨pe, hpe⟩ : ∃ pe, wr.heap.size = pe := ⟨_, rfl⟩
      generalize wr.alloc (.cells #[.int .i64 x, .int .i64 y] 51) = Y at *
      rw [hpe] at hEB hVpe ⊢
      clear p0 p1 hpe
      obtain ⟨r0, r1, _, _⟩ := cells_two hEB
      obtain ⟨_, hpv, _, _, _⟩ := HJ.out Y hIY.bel
      have HCL := Lib.hid (clos_any x y (v : Int) pv Y hpv)
      obtain ⟨bb, hbb⟩ : ∃ bb, (x == (v : Int) || y == (v : Int)) = bb := ⟨_, rfl⟩
      rw [hbb] at HCL hst
      have HIY := Lib.hid hIY
      have HEB := Lib.hid hEB
      clear hpv hbb hIY hEB
      go_wp2_with fail
      refine HCL.out.mono ?_
      rintro e Y2 ⟨rfl, hb2⟩
      have HI2 := Lib.hid (HIY.out.below hb2)
      have HE2 := Lib.hid (blk_below HEB.out hb2)
      clear hb2 r0 r1 HCL HIY HEB
      cases bb with
      | true =>
        rw [if_pos rfl, List.append_nil] at hst
        have HST := Lib.hid hst
        clear hst
        go_wp2_with fail
        go_roundw
        case rel => exact ⟨k + 1, V, by omega, by go_num, ⟨HI2.out.box, by rw [HST.out]; exact HI2.out.row, HI2.out.bel⟩⟩
        case measure => simp [intOf]; omega
      | false =>
        rw [if_neg (by simp)] at hst
        have HST := Lib.hid hst
        obtain ⟨r0, r1, _, _⟩ := cells_two HE2.out
        obtain ⟨g0, g1, g2, g3⟩ := cells_two HI2.out.box
        have HFA := Lib.hid (HI2.out.row.alloc (.cells #[.int .i64 x, .int .i64 y] 51))
        have HLT : Hid (∀ (i : Nat) (u : Value), [Value.int .i64 x, .int .i64 y][i]? = some u → (Y2.alloc (.cells #[.int .i64 x, .int .i64 y] 51)).cell? ((⟨Y2.heap.size, 0, none⟩ : Addr).add i) = some u) := fun i u hi => by
          rw [← hi, add_off, World.cell?_alloc_at _ _ _ _ rfl]
          simp
        have hbl := lt_of_block HI2.out.box
        have hvb : V.ownBlock ≠ some (w.heap.size + 1 + 1) := fun e => by have := (HI2.out.row.lt _ e).1; omega
        obtain ⟨lo, hlo⟩ : ∃ lo, (offE v (E.take k)).length = lo := ⟨_, rfl⟩
        rw [hlo] at HFA hle
        have HLO := Lib.hid hlo
        have HFIN : Hid (∀ (w7 : World) (g7 c7 : Nat), w7.ownsRow (w.heap.size + 1 + 1 + 1) 51 2 (.slice (some ⟨g7, 0, none⟩) (lo + 1) c7) (lo + 1) (pcells (offE v (E.take k)) ++ [.int .i64 x, .int .i64 y]) → (Y2.alloc (.cells #[.int .i64 x, .int .i64 y] 51)).grownBy w7 V.ownBlock →
            w7.frozen? ⟨w.heap.size + 1 + 1, 1, none⟩ = false ∧ w7.cell? ⟨w.heap.size + 1 + 1, 1, none⟩ = some V ∧ WI W3 (w.heap.size + 1 + 1) N v (k + 1) E (.slice (some ⟨g7, 0, none⟩) (lo + 1) c7) (w7.setCell ⟨w.heap.size + 1 + 1, 1, none⟩ (.slice (some ⟨g7, 0, none⟩) (lo + 1) c7))) := by
          intro w7 g7 c7 hr7 hg7
          have hb7 : w7.heap[w.heap.size + 1 + 1]? = some (.cells #[.int .i64 (N : Nat), V] 24 (0, 0)) := by
            rw [hg7.block _ (by simp; omega) (fun e => hvb e.symm)]
            exact blk_below HI2.out.box ((Below.refl _ _).alloc (Nat.le_refl _) _)
          have hgl := hr7.lt g7 rfl
          refine ⟨free_of hb7 _, by rw [cell_of hb7]; rfl, ?_, ?_, ?_⟩
          · rw [Go.Joins.block_setCell hb7]
            rfl
          · rw [HST.out, List.length_append, HLO.out, pcells_oneM]
            exact row_far hr7 (p := ⟨w.heap.size + 1 + 1, 1, none⟩) (by show g7 ≠ w.heap.size + 1 + 1; omega) _
          · have h8 : Below (w.heap.size + 1 + 1) Y2 w7 := (((Below.refl Y2.heap.size Y2).alloc (Nat.le_refl _) _).mono (by omega)).grown hg7 (by simp; omega) (fun q e => by have := (HI2.out.row.lt q e).1; omega)
            exact (HI2.out.bel.trans h8).setCell (by show w.heap.size + 1 + 1 ≤ w.heap.size + 1 + 1; omega) _
        have hsz : w.heap.size + 1 + 1 + 1 ≤ Y2.heap.size := by omega
        clear hst hlo hvb
        go_wp2_with (at_builtin; refine wpList_append_lies _ rfl (.tmp 23) (.tmp 25) 22 rfl (w.heap.size + 1 + 1 + 1) 51 i1 (.agg #[.int .i64 0, .int .i64 0]) 2 16 Try.underlying22 hi1 hy0 hy1 hy2 rfl (by decide) _ lo (pcells (offE v (E.take k))) rfl HFA.out ⟨Y2.heap.size, 0, none⟩ 1 1 [.int .i64 x, .int .i64 y] (by simp [Act.eval]) rfl HLT.out (by simp [Value.oneCell']) (by omega) (by simp [maxLen]; omega) (by omega) (by simp; omega) (Y2.heap.size + 1) (by simp) ?_; intro g7 c7 w7 hr7 hg7 ho7 hlt7; obtain ⟨hfz, hcz, hWI⟩ := HFIN.out w7 g7 c7 hr7 hg7; have HWI := Lib.hid hWI; clear hr7 hg7 ho7 hlt7 hWI)
        go_roundw
        case rel => exact ⟨k + 1, _, by omega, by go_num, HWI⟩
        case measure => simp [intOf]; omega
    · obtain rfl : n = k := by omega
      have t1 : decide ((n : Int) < (n : Int)) = false := by simp
      obtain ⟨_, _, _, hres, hbel⟩ := HJ.out wr hI.out.bel
      obtain ⟨g0, g1, _, _⟩ := cells_two hI.out.box
      obtain ⟨u0, u1, u2, u3⟩ := cells_two hres
      have HIF := Lib.hid hI.out
      have HBE := Lib.hid hbel
      have HRES := Lib.hid hres
      have hrow := hI.out.row
      rw [show E.take n = E by rw [HN.out]; exact List.take_length] at hrow
      obtain ⟨A', c', rfl, hrd, _⟩ := own_rdP hrow
      have HRD := Lib.hid hrd
      clear hI hbel hres hrow hrd
      go_wp2_with fail
      have hb1 : (wr.setCell ⟨w.heap.size + 1, 0, none⟩ (.int .i64 (N : Nat))).heap[w.heap.size + 1]? = some (.cells #[.int .i64 (N : Nat), .slice none 0 0] 24 (0, 0)) := by rw [Go.Joins.block_setCell HRES.out]; rfl
      have hb2 : ((wr.setCell ⟨w.heap.size + 1, 0, none⟩ (.int .i64 (N : Nat))).setCell ⟨w.heap.size + 1, 1, none⟩ (.slice A' (offE v E).length c')).heap[w.heap.size + 1]? = some (.cells #[.int .i64 (N : Nat), .slice A' (offE v E).length c'] 24 (0, 0)) := by rw [Go.Joins.block_setCell hb1]; rfl
      refine bodyPost_ret (results_cell_row rfl _ _ (w.heap.size + 1) 24 #[.int .i64 (N : Nat), .slice A' (offE v E).length c'] (0, 0) _ rfl hb2 Try.underlying24 rfl (by kernel_rfl)) rfl ?_
      refine ⟨A', c', rfl, ?_, (HBE.out.setCell (p := ⟨w.heap.size + 1, 0, none⟩) (by show w.heap.size ≤ w.heap.size + 1; omega) _).setCell (p := ⟨w.heap.size + 1, 1, none⟩) (by show w.heap.size ≤ w.heap.size + 1; omega) _⟩
      have hrow := HIF.out.row
      rw [show E.take n = E by rw [HN.out]; exact List.take_length] at hrow
      have hbl : A' = none ∨ ∃ g, A' = some ⟨g, 0, none⟩ ∧ w.heap.size + 1 + 1 + 1 ≤ g := by
        rcases Joins.ownsRow_forms hrow with ⟨e, _⟩ | ⟨g, cap, e⟩
        · injection e with e _ _
          exact .inl e
        · injection e with e1 e2 e3
          subst e1
          exact .inr ⟨g, rfl, (hrow.lt g rfl).1⟩
      have hfar : ∀ g, A' = some ⟨g, 0, none⟩ → g ≠ w.heap.size + 1 := fun g e => by
        rcases hbl with h | ⟨g', h, h2⟩
        · rw [h] at e; cases e
        · rw [h] at e
          injection e with e
          injection e with e
          omega
      rcases hbl with rfl | ⟨g, rfl, hg2⟩
      · intro q e hq
        obtain ⟨ad, e1, _⟩ := HRD.out q e hq
        cases e1
      · have h1 := row_far (row_far hrow (p := ⟨w.heap.size + 1, 0, none⟩) (hfar g rfl) (.int .i64 (N : Nat))) (p := ⟨w.heap.size + 1, 1, none⟩) (hfar g rfl) (.slice (some ⟨g, 0, none⟩) (offE v E).length c')
        obtain ⟨A3, c3, e3, h3, _⟩ := own_rdP h1
        injection e3 with e3 _ _
        rw [← e3] at h3
        exact h3
end
section
set_option maxRecDepth 100000
open Go.RowKit Go.Maps

theorem mrow_cap {w : World} {base n c size : Nat} {B : Option Addr} {e : TypeId} {cs : List Value} (h : w.ownsRow base e size (.slice B n c) n cs) : n ≤ c := by
  obtain ⟨_, ⟨h0, h1⟩ | ⟨g, cap, cur, ev, _, _, h3, h4, _⟩⟩ := h
  · injection h0 with _ _ e
    omega
  · injection ev with _ _ e
    omega
set_option maxHeartbeats 64000000 in
theorem lowblocks_g (A0 : Option Addr) (c n : Nat) (N : Int) (E : List (Int × Int)) (w : World) (hE : RdP w A0 E) (hn : n = E.length) :
    Calls Try.prog 4 #[.agg #[.int .i64 N, .slice A0 n c]] w fun e w' => e = .returned (.bool true) ∧ Below w.heap.size w w' := by
  obtain ⟨X, hX⟩ : ∃ X, X = w.alloc (.cells #[.int .i64 N, .slice A0 n c] 24) := ⟨_, rfl⟩
  have hb : Below w.heap.size w X := by rw [hX]; exact (Below.refl _ _).alloc (Nat.le_refl _) _
  have hXS : w.heap.size < X.heap.size := by rw [hX]; simp
  obtain ⟨j0, j1, _, _⟩ := cells_two (w := X) (by rw [hX]; exact heap_alloc_new w _)
  have HJ : Hid (∀ w', Below X.heap.size X w' → w'.cell? ⟨w.heap.size, 0, none⟩ = some (.int .i64 N) ∧ w'.cell? ⟨w.heap.size, 1, none⟩ = some (.slice A0 n c)) := fun w' hb =>
    ⟨by rw [hb.cell (by show w.heap.size < _; omega)]; exact j0, by rw [hb.cell (by show w.heap.size < _; omega)]; exact j1⟩
  have HR := right24_any A0 c n N E X (hE.below hb) hn
  obtain ⟨p, hp⟩ : ∃ p, right24 N E = p := ⟨_, rfl⟩
  rw [hp] at HR
  have HR := Lib.hid HR
  have HE := Lib.hid (hE.below hb)
  have HN := Lib.hid hn
  have HX := Lib.hid hX
  have HB := Lib.hid hb
  have HP := Lib.hid hp
  have HXS := Lib.hid hXS
  clear hE hn hX hb hp hXS
  go_enter Try.func4, Try.ntmps4
  go_wp2_with fail
  rw [← HX.out]
  refine HR.out.mono ?_
  rintro e w1 ⟨rfl, hb1⟩
  have HB1 := Lib.hid hb1
  clear hb1 j0 j1 HR
  cases p with
  | false =>
    go_wp2_with fail
    refine (awake5_any w1).mono ?_
    rintro e w2 ⟨rfl, hb2⟩
    go_wp2_with fail
    go_ret
    exact ⟨rfl, HB.out.trans ((next_below HB1.out hb2).mono (Nat.le_of_lt HXS.out))⟩
  | true =>
    have hp := HP.out
    unfold right24 at hp
    rw [Bool.and_eq_true] at hp
    have hg := hp.1
    have hn6 : n ≤ 594 := by rw [HN.out]; exact (rightG_bounds hg).2.2
    obtain ⟨Nn, rfl⟩ := Int.eq_ofNat_of_zero_le (rightG_bounds hg).1
    have hN2 : Nn ≤ 200 := by have := (rightG_bounds hg).2.1; omega
    have HG := Lib.hid hg
    have HT := Lib.hid (tab_is hg)
    have HOK := Lib.hid (tabG_okT hg)
    clear hp hg
    obtain ⟨j0, j1⟩ := HJ.out w1 HB1.out
    go_wp2_with fail
    refine (blocks_yes A0 c n Nn E w1 (HE.out.below HB1.out) HN.out HG.out).mono ?_
    rintro e w2 ⟨A1, c1, rfl, hR2, hS, _, hb2⟩
    have HS := Lib.hid hS
    have HB2 := Lib.hid (next_below HB1.out hb2)
    have HR2 := Lib.hid hR2
    clear hS hb2 hR2 j0 j1
    obtain ⟨j0, j1⟩ := HJ.out w2 HB2.out
    go_wp2_with fail
    refine (at_yes A0 A1 c c1 n _ Nn E (blkG Nn E) w2 (HE.out.below HB2.out) HN.out HG.out HR2.out rfl (by obtain ⟨a, u, f, o, h⟩ := HS.out; exact h.ok HG.out)).mono ?_
    rintro e w3 ⟨mb, nn, rfl, hMV, _, hb3⟩
    have HB3 := Lib.hid (next_below HB2.out hb3)
    have HMV := Lib.hid hMV
    clear hMV hb3 HR2 j0 j1
    obtain ⟨lb, hlb⟩ : ∃ lb, (blkG Nn E).length = lb := ⟨_, rfl⟩
    rw [hlb]
    clear hlb
    obtain ⟨j0, j1⟩ := HJ.out w3 HB3.out
    go_wp2_with fail
    refine (beside_any A0 c n Nn E w3 (HE.out.below HB3.out) HN.out HG.out).mono ?_
    rintro e w5 ⟨B2, us, rfl, hRo, _, hb5⟩
    have HB5 := Lib.hid (next_below HB3.out hb5)
    have HMV5 := Lib.hid (HMV.out.below hb5)
    have HRR := Lib.hid hRo.rd
    have HRC : Hid (∀ (v : Nat) (xs : List Int) (Bx : Option Addr) (cx : Nat), (tabG Nn E)[v]? = some xs → w5.cell? ⟨B2, v, none⟩ = some (.slice Bx xs.length cx) → xs.length ≤ cx) := fun v xs Bx cx hx hc => by
      rw [cell_of hRo.1] at hc
      have hc : us[v]? = some (.slice Bx xs.length cx) := by simpa using hc
      exact mrow_cap (hRo.2.2.1 v _ xs hc hx).1
    have HBZ := Lib.hid (Below.refl w5.heap.size w5)
    clear hRo hb5 HMV j0 j1
    go_wp2_with fail
    go_loopw [40] (fun s40 wr => ∃ v : Nat, v ≤ Nn ∧ s40 = .int .i64 v ∧ Hid (Below w5.heap.size w5 wr)) (fun s40 _ => Nn - (intOf s40).toNat)
    case atStart => exact ⟨0, Nat.zero_le _, rfl, HBZ⟩
    case round =>
      clear HBZ
      obtain ⟨v, hv, rfl, hbl⟩ := hrel
      by_cases h1 : v < Nn
      · have t1 : decide ((v : Int) < (Nn : Int)) = true := by simp; omega
        have hV0 : (0 : Int) ≤ (v : Int) := by omega
        have hV1 : (v : Int) < (Nn : Nat) := by omega
        obtain ⟨xs, hxs⟩ : ∃ xs, (tabG Nn E)[v]? = some xs := ⟨_, List.getElem?_eq_getElem (by rw [HOK.out.1]; exact h1)⟩
        have hTv : (tabG Nn E).getD v [] = xs := by simp [List.getD, hxs]
        have hxl : xs.length ≤ 1000 := by rw [← hTv]; exact tabG_row HG.out v
        have hxn : ∀ x ∈ xs, ∃ y : Nat, x = (y : Int) ∧ y < Nn ∧ adj (tabG Nn E) v y := fun x hx => by
          obtain ⟨y, e, hy⟩ := HT.out.nat v x (by rw [hTv]; exact hx)
          refine ⟨y, e, hy, ?_⟩
          show (y : Int) ∈ _
          rw [hTv, ← e]
          exact hx
        obtain ⟨ad, Bx, cx, hA, hadl, hadc, hrow⟩ := HRR.out v xs hxs
        injection hA with hA
        subst hA
        rw [add_off] at hadc
        have hcc : wr.cell? ⟨B2, v, none⟩ = some (.slice Bx xs.length cx) := by rw [hbl.out.cell (by exact hadl)]; exact hadc
        have hcap := HRC.out v xs Bx cx hxs hadc
        have HROW := Lib.hid hrow
        have HXN := Lib.hid hxn
        obtain ⟨xl, hxle⟩ : ∃ xl, xs.length = xl := ⟨_, rfl⟩
        rw [hxle] at hcc hxl hcap
        have HXL := Lib.hid hxle
        obtain ⟨W1, hW1⟩ : ∃ W1, W1 = wr.alloc (.cells #[.int .i64 (v : Nat)] 3) := ⟨_, rfl⟩
        have hbW : Below wr.heap.size wr W1 := by rw [hW1]; exact (Below.refl _ _).alloc (Nat.le_refl _) _
        have hpv : W1.heap[wr.heap.size]? = some (.cells #[.int .i64 (v : Nat)] 3 (0, 0)) := by rw [hW1]; exact heap_alloc_new wr _
        obtain ⟨pv, hpve⟩ : ∃ pv, wr.heap.size = pv := ⟨_, rfl⟩
        have HPV : Hid (∀ w', Below W1.heap.size W1 w' → w'.cell? ⟨pv, 0, none⟩ = some (.int .i64 (v : Nat))) := fun w' hb => by
          rw [← hpve, cell_of (blk_below hpv hb)]
          rfl
        have HBW := Lib.hid (next_below hbl.out hbW)
        have HW1 := Lib.hid hW1
        have HV := Lib.hid h1
        obtain ⟨j0, j1⟩ := HJ.out W1 (next_below HB5.out HBW.out)
        have hpl : pv < W1.heap.size := by rw [← hpve]; exact lt_of_block hpv
        clear hxs hTv hxn hrow hadc hadl hxle hbW hpv hW1 hbl
        go_upto_region 10 with fail
        rw [← HW1.out]
        (try rw [hpve])
        clear hcc hpve
        have hpc := HPV.out W1 (Below.refl _ _)
        go_wp2_with fail
        refine (without_any A0 c n Nn v pv E W1 (HE.out.below (next_below HB5.out HBW.out)) HN.out (by omega) hpc).mono ?_
        rintro e W2 ⟨Ah, ch, rfl, hRh, hbh⟩
        obtain ⟨lh, hlh⟩ : ∃ lh, (offE v E).length = lh := ⟨_, rfl⟩
        rw [hlh]
        have HLH := Lib.hid hlh
        obtain ⟨W3, hW3⟩ : ∃ W3, W3 = W2.alloc (.cells #[.int .i64 (Nn : Nat), .slice Ah lh ch] 24) := ⟨_, rfl⟩
        have hb3 : Below W2.heap.size W2 W3 := by rw [hW3]; exact (Below.refl _ _).alloc (Nat.le_refl _) _
        have hhb : W3.heap[W2.heap.size]? = some (.cells #[.int .i64 (Nn : Nat), .slice Ah lh ch] 24 (0, 0)) := by rw [hW3]; exact heap_alloc_new W2 _
        obtain ⟨ph, hph⟩ : ∃ ph, W2.heap.size = ph := ⟨_, rfl⟩
        rw [hph] at hhb
        have HHB := Lib.hid hhb
        have HRH := Lib.hid (hRh.below hb3)
        have HB13 := Lib.hid (next_below hbh hb3)
        have HW3 := Lib.hid hW3
        have HBR := Lib.hid (Below.refl W3.heap.size W3)
        have hor := Lib.hid (off_right HG.out v)
        clear hRh hbh hlh hb3 hhb hW3 hpc j0 j1
        go_upto_region 11 with fail
        rw [← HW3.out]
        (try rw [hph])
        clear hph
        go_wp2_with fail
        go_loopw [50] (fun s50 wn => ∃ i : Nat, i ≤ xl ∧ s50 = .int .i64 i ∧ Hid (Below W3.heap.size W3 wn)) (fun s50 _ => xl - (intOf s50).toNat)
        case atStart => exact ⟨0, Nat.zero_le _, rfl, HBR⟩
        case round => as_aux_lemma =>
          clear HBR
          obtain ⟨i, hi, rfl, hbi⟩ := hrel
          by_cases h2 : i < xl
          · have t2 : decide ((i : Int) < (xl : Int)) = true := by simp; omega
            have hI0 : (0 : Int) ≤ (i : Int) := by omega
            have hI1 : (i : Int) < (xl : Nat) := by omega
            obtain ⟨x, hx⟩ : ∃ x, xs[i]? = some x := ⟨_, List.getElem?_eq_getElem (by rw [HXL.out]; exact h2)⟩
            obtain ⟨a, rfl, haN, haa⟩ := HXN.out x (List.mem_of_getElem? hx)
            have hb5i : Below w5.heap.size w5 wr := next_below HBW.out (next_below HB13.out hbi.out)
            obtain ⟨bx, rfl, _, e1⟩ := (HROW.out.below hb5i) i _ hx
            obtain ⟨k0, k1, _, _⟩ := cells_two (blk_below HHB.out hbi.out)
            have HAA := Lib.hid haa
            have HAN := Lib.hid haN
            have HAW := Lib.hid (away_any Ah ch lh Nn a (offE v E) wr (HRH.out.below hbi.out) HLH.out.symm hor.out haN)
            have HBI := Lib.hid hbi.out
            clear hx haa hb5i hbi
            go_wp2_with fail
            refine HAW.out.mono ?_
            rintro e W4 ⟨Ba, ds, rfl, hOZ, ⟨hD, _⟩, _, hba⟩
            have HOZ := Lib.hid hOZ
            have HD := Lib.hid hD
            have HB4 := Lib.hid (next_below HBI.out hba)
            have HBQ := Lib.hid (Below.refl W4.heap.size W4)
            have hI2 : (i : Int) ≤ (cx : Nat) := by omega
            have hI3 : i ≤ cx := by omega
            clear hOZ hD hba k0 k1 e1 HAW
            go_wp2_with fail
            go_loopw [67] (fun s67 wn => ∃ j : Nat, j ≤ i ∧ s67 = .int .i64 j ∧ Hid (Below W4.heap.size W4 wn)) (fun s67 _ => i - (intOf s67).toNat)
            case atStart => exact ⟨0, Nat.zero_le _, rfl, HBQ⟩
            case round => as_aux_lemma =>
              clear HBQ
              obtain ⟨j, hj, rfl, hbj⟩ := hrel
              by_cases h3 : j < i
              · have t3 : decide ((j : Int) < (i : Int)) = true := by simp; omega
                have hJ0 : (0 : Int) ≤ (j : Int) := by omega
                have hJ1 : (j : Int) < (i : Nat) := by omega
                obtain ⟨y, hy⟩ : ∃ y, xs[j]? = some y := ⟨_, List.getElem?_eq_getElem (by rw [HXL.out]; omega)⟩
                obtain ⟨b, rfl, hbN, hab⟩ := HXN.out y (List.mem_of_getElem? hy)
                obtain ⟨Y, hY⟩ : ∃ Y, Y = wr := ⟨_, rfl⟩
                have hb45 : Below W3.heap.size W3 Y := by rw [hY]; exact next_below HB4.out hbj.out
                have hb55 : Below w5.heap.size w5 Y := next_below HBW.out (next_below HB13.out hb45)
                obtain ⟨bx2, hbx2, _, e2⟩ := (HROW.out.below hb55) j _ hy
                injection hbx2 with hbx2
                subst hbx2
                obtain ⟨m1, hm1⟩ : ∃ m1, min (v : Int) (a : Int) = m1 := ⟨_, rfl⟩
                obtain ⟨M1, hM1⟩ : ∃ M1, max (v : Int) (a : Int) = M1 := ⟨_, rfl⟩
                obtain ⟨m2, hm2⟩ : ∃ m2, min (v : Int) (b : Int) = m2 := ⟨_, rfl⟩
                obtain ⟨M2, hM2⟩ : ∃ M2, max (v : Int) (b : Int) = M2 := ⟨_, rfl⟩
                have HC1 : Hid (∀ X' : World, Calls Try.prog 33 #[.int .i64 (v : Nat), .int .i64 (a : Nat)] X' fun e w' => e = .returned (.agg #[.int .i64 m1, .int .i64 M1]) ∧ Below X'.heap.size X' w') := fun X' => by
                  have h := edge_any (v : Int) (a : Int) X'
                  rw [hm1, hM1] at h
                  exact h
                have HC2 : Hid (∀ X' : World, Calls Try.prog 33 #[.int .i64 (v : Nat), .int .i64 (b : Nat)] X' fun e w' => e = .returned (.agg #[.int .i64 m2, .int .i64 M2]) ∧ Below X'.heap.size X' w') := fun X' => by
                  have h := edge_any (v : Int) (b : Int) X'
                  rw [hm2, hM2] at h
                  exact h
                have hct : (((aF (blkG Nn E) (m1, M1)).getD 0 == (aF (blkG Nn E) (m2, M2)).getD 0) != decide (0 ≤ gd ds b)) = false := by
                  obtain ⟨aa, u, f, o, h⟩ := HS.out
                  have h9 := core_test HG.out h HAA.out hab HD.out
                  rw [hm1, hM1, hm2, hM2] at h9
                  exact h9
                have hp1 : inP (m1, M1) := by have := HAN.out; have := HV.out; unfold inP; simp only; omega
                have hp2 : inP (m2, M2) := by have := HV.out; unfold inP; simp only; omega
                obtain ⟨q1, hq1⟩ : ∃ q1, (aF (blkG Nn E) (m1, M1)).getD 0 = q1 := ⟨_, rfl⟩
                obtain ⟨q2, hq2⟩ : ∃ q2, (aF (blkG Nn E) (m2, M2)).getD 0 = q2 := ⟨_, rfl⟩
                obtain ⟨db, hdb⟩ : ∃ db, gd ds b = db := ⟨_, rfl⟩
                have hdl : ds.length = Nn := HD.out.len
                have HRD : Hid (∀ X', Below Y.heap.size Y X' → X'.cell? ⟨pv, 0, none⟩ = some (.int .i64 (v : Nat)) ∧ X'.cell? ⟨Ba, b, none⟩ = some (.int .i64 db) ∧
                    (Instr.lookup 45 (.map (some mb)) (.agg #[.int .i64 m1, .int .i64 M1]) false).run Try.prog X' = .ok (.int .i64 q1) X' ∧ (Instr.lookup 45 (.map (some mb)) (.agg #[.int .i64 m2, .int .i64 M2]) false).run Try.prog X' = .ok (.int .i64 q2) X') := fun X' hb => by
                  have hbx := next_below hb45 hb
                  have hmx := HMV5.out.below (next_below hb55 hb)
                  have hbz : Below W4.heap.size W4 X' := next_below (by rw [hY]; exact hbj.out) hb
                  refine ⟨HPV.out X' (next_below HB13.out hbx), ?_, ?_, ?_⟩
                  · rw [← hdb]; exact OwnZ.at_ (blk_below HOZ.out hbz) (gd_at ds b (by rw [hdl]; exact hbN))
                  · rw [← hq1]; exact hmx.look hp1
                  · rw [← hq2]; exact hmx.look hp2
                rw [hq1, hq2, hdb] at hct
                obtain ⟨bq, hbq⟩ : ∃ bq, (q1 == q2) = bq := ⟨_, rfl⟩
                rw [hbq] at hct
                have hdd : decide (0 ≤ db) = bq := by
                  revert hct
                  cases bq <;> cases decide (0 ≤ db) <;> simp
                have hnn : (bq != bq) = false := by cases bq <;> rfl
                have hB0 : (0 : Int) ≤ (b : Int) := by omega
                have hB1 : (b : Int) < (Nn : Nat) := by omega
                have HBJ := Lib.hid hbj.out
                have HYQ := Lib.hid hY
                clear hy hab hb45 hb55 hm1 hM1 hm2 hM2 hct hp1 hp2 hq1 hq2 hdb hdl hbj
                rw [hY] at e2
                clear hY
                go_upto_region 20 with fail
                rw [← HYQ.out]
                clear e2
                have hd0 : Below Y.heap.size Y Y.drew := (Below.refl _ _).drew
                refine wp_region_held_drew (S := fun X' => Below Y.heap.size Y X') (by kernel_rfl) hd0 (fun hS => ?_)
                refine wpAnyH_take (i := 0) (v := ?_) rfl (by kernel_rfl) (by kernel_rfl) (by kernel_rfl) (fun _ _ _ h => h) (Or.inl ⟨by rfl, ?_⟩) hS ?_
                rotate_left
                · intro wz hSw; (try dsimp only at hSw); obtain ⟨s1, s2, s3, s4⟩ := HRD.out wz hSw; go_simp; (try with_reducible rfl)
                try simp only [List.getElem_toArray, List.getElem_cons_zero, List.getElem_cons_succ, Act.put, List.setIfInBounds_toArray, List.set_cons_zero, List.set_cons_succ]
                refine wpAnyH_take (i := 1) (v := ?_) rfl (by kernel_rfl) (by kernel_rfl) (by kernel_rfl) (fun _ _ _ h => h) (Or.inl ⟨by rfl, ?_⟩) hS ?_
                rotate_left
                · intro wz hSw; (try dsimp only at hSw); obtain ⟨s1, s2, s3, s4⟩ := HRD.out wz hSw; go_simp; (try with_reducible rfl)
                try simp only [List.getElem_toArray, List.getElem_cons_zero, List.getElem_cons_succ, Act.put, List.setIfInBounds_toArray, List.set_cons_zero, List.set_cons_succ]
                refine wpAnyH_take (i := 2) (v := ?_) rfl (by kernel_rfl) (by kernel_rfl) (by kernel_rfl) (fun _ _ _ h => h) (Or.inl ⟨by rfl, ?_⟩) hS ?_
                rotate_left
                · intro wz hSw; (try dsimp only at hSw); obtain ⟨s1, s2, s3, s4⟩ := HRD.out wz hSw; go_simp; (try with_reducible rfl)
                try simp only [List.getElem_toArray, List.getElem_cons_zero, List.getElem_cons_succ, Act.put, List.setIfInBounds_toArray, List.set_cons_zero, List.set_cons_succ]
                refine wpAnyH_take (i := 5) (v := ?_) rfl (by kernel_rfl) (by kernel_rfl) (by kernel_rfl) (fun _ _ _ h => h) (Or.inl ⟨by rfl, ?_⟩) hS ?_
                rotate_left
                · intro wz hSw; (try dsimp only at hSw); obtain ⟨s1, s2, s3, s4⟩ := HRD.out wz hSw; go_simp; (try with_reducible rfl)
                try simp only [List.getElem_toArray, List.getElem_cons_zero, List.getElem_cons_succ, Act.put, List.setIfInBounds_toArray, List.set_cons_zero, List.set_cons_succ]
                refine wpAnyH_take (i := 6) (v := ?_) rfl (by kernel_rfl) (by kernel_rfl) (by kernel_rfl) (fun _ _ _ h => h) (Or.inl ⟨by rfl, ?_⟩) hS ?_
                rotate_left
                · intro wz hSw; (try dsimp only at hSw); obtain ⟨s1, s2, s3, s4⟩ := HRD.out wz hSw; go_simp; (try with_reducible rfl)
                try simp only [List.getElem_toArray, List.getElem_cons_zero, List.getElem_cons_succ, Act.put, List.setIfInBounds_toArray, List.set_cons_zero, List.set_cons_succ]
                refine wpAnyH_take (i := 7) (v := ?_) rfl (by kernel_rfl) (by kernel_rfl) (by kernel_rfl) (fun _ _ _ h => h) (Or.inl ⟨by rfl, ?_⟩) hS ?_
                rotate_left
                · intro wz hSw; (try dsimp only at hSw); obtain ⟨s1, s2, s3, s4⟩ := HRD.out wz hSw; go_simp; (try with_reducible rfl)
                try simp only [List.getElem_toArray, List.getElem_cons_zero, List.getElem_cons_succ, Act.put, List.setIfInBounds_toArray, List.set_cons_zero, List.set_cons_succ]
                refine wpAnyH_take (i := 11) (v := ?_) rfl (by kernel_rfl) (by kernel_rfl) (by kernel_rfl) (fun _ _ _ h => h) (Or.inl ⟨by rfl, ?_⟩) hS ?_
                rotate_left
                · intro wz hSw; (try dsimp only at hSw); obtain ⟨s1, s2, s3, s4⟩ := HRD.out wz hSw; go_simp; (try with_reducible rfl)
                try simp only [List.getElem_toArray, List.getElem_cons_zero, List.getElem_cons_succ, Act.put, List.setIfInBounds_toArray, List.set_cons_zero, List.set_cons_succ]
                refine wpAnyH_take (i := 12) (v := ?_) rfl (by kernel_rfl) (by kernel_rfl) (by kernel_rfl) (fun _ _ _ h => h) (Or.inl ⟨by rfl, ?_⟩) hS ?_
                rotate_left
                · intro wz hSw; (try dsimp only at hSw); obtain ⟨s1, s2, s3, s4⟩ := HRD.out wz hSw; go_simp; (try with_reducible rfl)
                try simp only [List.getElem_toArray, List.getElem_cons_zero, List.getElem_cons_succ, Act.put, List.setIfInBounds_toArray, List.set_cons_zero, List.set_cons_succ]
                refine wpAnyH_take (i := 13) (v := ?_) rfl (by kernel_rfl) (by kernel_rfl) (by kernel_rfl) (fun _ _ _ h => h) (Or.inl ⟨by rfl, ?_⟩) hS ?_
                rotate_left
                · intro wz hSw; (try dsimp only at hSw); obtain ⟨s1, s2, s3, s4⟩ := HRD.out wz hSw; go_simp; (try with_reducible rfl)
                try simp only [List.getElem_toArray, List.getElem_cons_zero, List.getElem_cons_succ, Act.put, List.setIfInBounds_toArray, List.set_cons_zero, List.set_cons_succ]
                refine wpAnyH_take (i := 14) (v := ?_) rfl (by kernel_rfl) (by kernel_rfl) (by kernel_rfl) (fun _ _ _ h => h) (Or.inl ⟨by rfl, ?_⟩) hS ?_
                rotate_left
                · intro wz hSw; (try dsimp only at hSw); obtain ⟨s1, s2, s3, s4⟩ := HRD.out wz hSw; go_simp; (try with_reducible rfl)
                try simp only [List.getElem_toArray, List.getElem_cons_zero, List.getElem_cons_succ, Act.put, List.setIfInBounds_toArray, List.set_cons_zero, List.set_cons_succ]
                refine wpAnyH_take (i := 15) (v := ?_) rfl (by kernel_rfl) (by kernel_rfl) (by kernel_rfl) (fun _ _ _ h => h) (Or.inl ⟨by rfl, ?_⟩) hS ?_
                rotate_left
                · intro wz hSw; (try dsimp only at hSw); obtain ⟨s1, s2, s3, s4⟩ := HRD.out wz hSw; go_simp; (try with_reducible rfl)
                try simp only [List.getElem_toArray, List.getElem_cons_zero, List.getElem_cons_succ, Act.put, List.setIfInBounds_toArray, List.set_cons_zero, List.set_cons_succ]
                refine wpAnyH_ready (rs := [3]) (by kernel_rfl) (by simp) (AllReadyH.cons rfl (fun K hK => ?_) AllReadyH.nil)
                go_simp
                go_at_call 33
                refine (HC1.out _).mono ?_
                rintro e9 wn ⟨rfl, hbn⟩
                go_wp2_with fail
                have hS := next_below hS hbn
                refine hK.out _ _ hS (fun _ => ?_)
                clear hK K
                try simp only [List.getElem_toArray, List.getElem_cons_zero, List.getElem_cons_succ, Act.put, List.setIfInBounds_toArray, List.set_cons_zero, List.set_cons_succ]
                refine wpAnyH_take (i := 4) (v := ?_) rfl (by kernel_rfl) (by kernel_rfl) (by kernel_rfl) (fun _ _ _ h => h) (Or.inl ⟨by rfl, ?_⟩) hS ?_
                rotate_left
                · intro wz hSw; (try dsimp only at hSw); obtain ⟨s1, s2, s3, s4⟩ := HRD.out wz hSw; go_simp; (try with_reducible rfl)
                try simp only [List.getElem_toArray, List.getElem_cons_zero, List.getElem_cons_succ, Act.put, List.setIfInBounds_toArray, List.set_cons_zero, List.set_cons_succ]
                refine wpAnyH_ready (rs := [8]) (by kernel_rfl) (by simp) (AllReadyH.cons rfl (fun K hK => ?_) AllReadyH.nil)
                go_simp
                go_at_call 33
                refine (HC2.out _).mono ?_
                rintro e9 wm ⟨rfl, hbm⟩
                go_wp2_with fail
                have hS := next_below hS hbm
                refine hK.out _ _ hS (fun _ => ?_)
                clear hK K
                try simp only [List.getElem_toArray, List.getElem_cons_zero, List.getElem_cons_succ, Act.put, List.setIfInBounds_toArray, List.set_cons_zero, List.set_cons_succ]
                refine wpAnyH_take (i := 9) (v := ?_) rfl (by kernel_rfl) (by kernel_rfl) (by kernel_rfl) (fun _ _ _ h => h) (Or.inl ⟨by rfl, ?_⟩) hS ?_
                rotate_left
                · intro wz hSw; (try dsimp only at hSw); obtain ⟨s1, s2, s3, s4⟩ := HRD.out wz hSw; go_simp; (try with_reducible rfl)
                try simp only [List.getElem_toArray, List.getElem_cons_zero, List.getElem_cons_succ, Act.put, List.setIfInBounds_toArray, List.set_cons_zero, List.set_cons_succ]
                refine wpAnyH_take (i := 10) (v := ?_) rfl (by kernel_rfl) (by kernel_rfl) (by kernel_rfl) (fun _ _ _ h => h) (Or.inl ⟨by rfl, ?_⟩) hS ?_
                rotate_left
                · intro wz hSw; (try dsimp only at hSw); obtain ⟨s1, s2, s3, s4⟩ := HRD.out wz hSw; go_simp; (try with_reducible rfl)
                try simp only [List.getElem_toArray, List.getElem_cons_zero, List.getElem_cons_succ, Act.put, List.setIfInBounds_toArray, List.set_cons_zero, List.set_cons_succ]
                refine wpAnyH_take (i := 16) (v := ?_) rfl (by kernel_rfl) (by kernel_rfl) (by kernel_rfl) (fun _ _ _ h => h) (Or.inl ⟨by rfl, ?_⟩) hS ?_
                rotate_left
                · intro wz hSw; (try dsimp only at hSw); obtain ⟨s1, s2, s3, s4⟩ := HRD.out wz hSw; go_simp; (try with_reducible rfl)
                try simp only [List.getElem_toArray, List.getElem_cons_zero, List.getElem_cons_succ, Act.put, List.setIfInBounds_toArray, List.set_cons_zero, List.set_cons_succ]
                refine wpAnyH_done (by kernel_rfl) ?_ _
                go_wp2_with fail
                go_roundw
                case rel => exact ⟨j + 1, by omega, by go_num, next_below HBJ.out (by rw [← HYQ.out]; exact hS)⟩
                case measure => simp [intOf]; omega
              · obtain rfl : i = j := by omega
                have t3 : decide ((i : Int) < (i : Int)) = false := by simp
                have HBE := Lib.hid (next_below HB4.out hbj.out)
                clear hbj
                go_wp2_with fail
                go_roundw
                case rel => exact ⟨i + 1, by omega, by go_num, HBE⟩
                case measure => simp [intOf]; omega
          · obtain rfl : xl = i := by omega
            have t2 : decide ((xl : Int) < (xl : Int)) = false := by simp
            have HBE := Lib.hid (next_below HBW.out (next_below HB13.out hbi.out))
            clear hbi
            go_wp2_with fail
            go_roundw
            case rel => exact ⟨v + 1, by omega, by go_num, HBE⟩
            case measure => simp [intOf]; omega
      · obtain rfl : Nn = v := by omega
        have t1 : decide ((Nn : Int) < (Nn : Int)) = false := by simp
        have HBL := Lib.hid hbl.out
        clear hbl
        go_wp2_with fail
        refine (awake5_any wr).mono ?_
        rintro e w7 ⟨rfl, hb7⟩
        go_wp2_with fail
        go_ret
        exact ⟨rfl, HB.out.trans ((next_below HB5.out (next_below HBL.out hb7)).mono (Nat.le_of_lt HXS.out))⟩
theorem lowblocks_walk (v0 : Value) (w : World) (h0 : OkGraph w v0) : Calls Try.prog 4 #[v0] w fun e w' => e = .returned (.bool true) ∧ Below w.heap.size w w' := by
  obtain ⟨N, A, c, E, rfl, _, _, hr, _, _, _⟩ := h0
  exact lowblocks_g A c E.length N E w hr rfl
end
end Go.Proofs.Ytlkddjpjhchjfaa
