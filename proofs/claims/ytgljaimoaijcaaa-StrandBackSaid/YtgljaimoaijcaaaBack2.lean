/- A thing that is got; things that came in. -/
import Derived.Test.YtgljaimoaijcaaaBack
import Derived.Deep.SlicePairs
namespace Go.Proofs.Ytgljaimoaijcaaa
open Go.RowKit

theorem enc_short {N W : Nat} (h : W ≤ 64) : enc N W = digs (num N W) W := if_pos h
theorem enc_long {N W : Nat} (h : ¬ W ≤ 64) : enc N W = knot (num N W) := if_neg h
theorem enc_short_len {N W : Nat} (h : W ≤ 64) : (enc N W).length = W := by rw [enc_short h, digs_length]
theorem enc_long_len {N W : Nat} (h : ¬ W ≤ 64) : (enc N W).length = 2 * lead (num N W) + 1 := by rw [enc_long h]; exact (lead_bounds _ (num_lt2 (by omega))).2.2.2

set_option maxRecDepth 100000 in
set_option maxHeartbeats 1000000 in
theorem get_ok (N W fr : Nat) (x : Value) (l : List Bool) (w : World) (hx : St w x l) (hW : W < 256)
    (h : fr + (enc N W).length ≤ l.length) (hr : ∀ j, j < (enc N W).length → l.getD (fr + j) false = (enc N W).getD j false) :
    Calls Try.prog 34 #[tv N W, x, .int .i64 fr] w fun e w' => e = .returned (.tuple #[.int .u64 (num N W : Nat), .int .i64 ((fr + (enc N W).length : Nat) : Int), .int .i64 0]) ∧ Below w.heap.size w w' := by
  obtain ⟨A, c, rfl, hrd, hm⟩ := hx
  obtain ⟨W0, hW0⟩ : ∃ W0, (w.alloc (.cells #[.int .u64 (N : Nat), .int .u8 (W : Nat)] 52)).alloc (.cells #[.slice A (nB l) c, .int .i64 (l.length : Nat)] 24) = W0 := ⟨_, rfl⟩
  have hB : Below w.heap.size w W0 := by rw [← hW0]; exact ((Below.refl _ _).alloc (Nat.le_refl _) _).alloc (by simp) _
  by_cases hle : W ≤ 64
  · have C : Hid (Calls Try.prog 26 #[.agg #[.slice A (nB l) c, .int .i64 (l.length : Nat)], .int .i64 fr, .int .i64 W] W0 fun e w' => e = .returned (.tuple #[.int .u64 (num N W : Nat), .int .i64 ((fr + (enc N W).length : Nat) : Int), .int .i64 0]) ∧ Below w.heap.size w w') := by
      refine (getField_ok _ l fr W W0 ⟨A, c, rfl, hrd.below hB, hm⟩ hle (by rw [enc_short_len hle] at h; exact h)).mono ?_
      rintro e w' ⟨rfl, hb⟩
      refine ⟨?_, next_below hB hb⟩
      rw [enc_short_len hle, numAt_full l fr (num N W) W (fun i hi => ?_) (num_lt hle)]
      rw [hr i (by rw [enc_short_len hle]; exact hi), enc_short hle, digs_get _ _ _ hi]
    have HW0 := Lib.hid hW0
    have hd : decide ((W : Int) ≤ 64) = true := by simp; omega
    have hwr : IntKind.i64.wrap (W : Int) = (W : Int) := IntWalk.i64_in _ (by omega)
    generalize (fr + (enc N W).length : Nat) = tn at *
    generalize num N W = r at *
    clear hr h hW0 hB hrd
    go_enter Try.func34, Try.ntmps34
    go_wp2_with fail
    rw [HW0.out]
    refine C.out.mono ?_
    rintro e w1 ⟨rfl, hb⟩
    go_wp2_with fail
    exact bodyPost_ret (v := .tuple #[.int .u64 r, .int .i64 tn, .int .i64 0]) (by simp [results, Try.results34, go_sem]) rfl ⟨rfl, hb⟩
  · have C : Hid (Calls Try.prog 28 #[.agg #[.slice A (nB l) c, .int .i64 (l.length : Nat)], .int .i64 fr] W0 fun e w' => e = .returned (.tuple #[.int .u64 (num N W : Nat), .int .i64 ((fr + (enc N W).length : Nat) : Int), .int .i64 0]) ∧ Below w.heap.size w w') := by
      have hlt := num_lt2 (N := N) (W := W) (by omega)
      have hb := lead_bounds _ hlt
      rw [enc_long_len hle] at h hr ⊢
      obtain ⟨h1, h2, h3⟩ := knot_reads l fr (num N W) hlt (fun i hi => by rw [hr i hi, enc_long hle])
      refine (getKnot_ok _ l fr (lead (num N W)) W0 ⟨A, c, rfl, hrd.below hB, hm⟩ hb.2.2.1 (by omega) h1 h2).mono ?_
      rintro e w' ⟨rfl, hb⟩
      refine ⟨?_, next_below hB hb⟩
      rw [h3, Nat.add_assoc]
    have HW0 := Lib.hid hW0
    have hd : decide ((W : Int) ≤ 64) = false := by simp; omega
    generalize (fr + (enc N W).length : Nat) = tn at *
    generalize num N W = r at *
    clear hr h hW0 hB hrd
    go_enter Try.func34, Try.ntmps34
    go_wp2_with fail
    rw [HW0.out]
    refine C.out.mono ?_
    rintro e w1 ⟨rfl, hb⟩
    go_wp2_with fail
    exact bodyPost_ret (v := .tuple #[.int .u64 r, .int .i64 tn, .int .i64 0]) (by simp [results, Try.results34, go_sem]) rfl ⟨rfl, hb⟩

set_option maxRecDepth 100000 in
set_option maxHeartbeats 1000000 in
theorem get_short (N W fr : Nat) (x : Value) (l : List Bool) (w : World) (hx : St w x l) (hW : W < 256) (h1 : fr ≤ l.length)
    (h : l.length < fr + (enc N W).length) (hr : ∀ j, fr + j < l.length → l.getD (fr + j) false = (enc N W).getD j false) :
    Calls Try.prog 34 #[tv N W, x, .int .i64 fr] w fun e w' => e = .returned (.tuple #[.int .u64 0, .int .i64 0, .int .i64 10]) ∧ Below w.heap.size w w' := by
  obtain ⟨A, c, rfl, hrd, hm⟩ := hx
  obtain ⟨W0, hW0⟩ : ∃ W0, (w.alloc (.cells #[.int .u64 (N : Nat), .int .u8 (W : Nat)] 52)).alloc (.cells #[.slice A (nB l) c, .int .i64 (l.length : Nat)] 24) = W0 := ⟨_, rfl⟩
  have hB : Below w.heap.size w W0 := by rw [← hW0]; exact ((Below.refl _ _).alloc (Nat.le_refl _) _).alloc (by simp) _
  by_cases hle : W ≤ 64
  · have C : Hid (Calls Try.prog 26 #[.agg #[.slice A (nB l) c, .int .i64 (l.length : Nat)], .int .i64 fr, .int .i64 W] W0 fun e w' => e = .returned (.tuple #[.int .u64 0, .int .i64 0, .int .i64 10]) ∧ Below w.heap.size w w') := by
      refine (getField_short _ l fr W W0 ⟨A, c, rfl, hrd.below hB, hm⟩ hle h1 (by rw [enc_short_len hle] at h; exact h)).mono ?_
      rintro e w' ⟨rfl, hb⟩
      exact ⟨rfl, next_below hB hb⟩
    have HW0 := Lib.hid hW0
    have hd : decide ((W : Int) ≤ 64) = true := by simp; omega
    have hwr : IntKind.i64.wrap (W : Int) = (W : Int) := IntWalk.i64_in _ (by omega)
    clear hr h hW0 hB hrd
    go_enter Try.func34, Try.ntmps34
    go_wp2_with fail
    rw [HW0.out]
    refine C.out.mono ?_
    rintro e w1 ⟨rfl, hb⟩
    go_wp2_with fail
    exact bodyPost_ret (v := .tuple #[.int .u64 0, .int .i64 0, .int .i64 10]) (by simp [results, Try.results34, go_sem]) rfl ⟨rfl, hb⟩
  · have C : Hid (Calls Try.prog 28 #[.agg #[.slice A (nB l) c, .int .i64 (l.length : Nat)], .int .i64 fr] W0 fun e w' => e = .returned (.tuple #[.int .u64 0, .int .i64 0, .int .i64 10]) ∧ Below w.heap.size w w') := by
      have hlt := num_lt2 (N := N) (W := W) (by omega)
      have hb := lead_bounds _ hlt
      rw [enc_long_len hle] at h
      rw [enc_long hle] at hr
      refine (getKnot_short _ l fr (min (lead (num N W)) (l.length - fr)) W0 ⟨A, c, rfl, hrd.below hB, hm⟩ (by omega) (by omega) ?_ (fun i hi => ?_) ?_).mono ?_
      · by_cases hk : lead (num N W) ≤ l.length - fr
        · rw [Nat.min_eq_left hk]; exact h
        · rw [Nat.min_eq_right (by omega)]; omega
      · rw [hr i (by omega)]; exact knot_zero _ i hlt (by omega)
      · by_cases hk : lead (num N W) < l.length - fr
        · right
          rw [Nat.min_eq_left (by omega), hr _ (by omega)]; exact knot_one _ hlt
        · left; omega
      · rintro e w' ⟨rfl, hb⟩
        exact ⟨rfl, next_below hB hb⟩
    have HW0 := Lib.hid hW0
    have hd : decide ((W : Int) ≤ 64) = false := by simp; omega
    clear hr h hW0 hB hrd
    go_enter Try.func34, Try.ntmps34
    go_wp2_with fail
    rw [HW0.out]
    refine C.out.mono ?_
    rintro e w1 ⟨rfl, hb⟩
    go_wp2_with fail
    exact bodyPost_ret (v := .tuple #[.int .u64 0, .int .i64 0, .int .i64 10]) (by simp [results, Try.results34, go_sem]) rfl ⟨rfl, hb⟩

/-- Things that stand in a row. -/
def RdT (w : World) (A : Option Addr) (T : List (Nat × Nat)) : Prop := ∀ i p, T[i]? = some p → ∃ ad, A = some ad ∧ ad.block < w.heap.size ∧ w.cell? (ad.add (i * 2)) = some (.int .u64 (p.1 : Nat)) ∧ w.cell? (ad.add (i * 2 + 1)) = some (.int .u8 (p.2 : Nat))
theorem RdT.below {w w' : World} {A : Option Addr} {T : List (Nat × Nat)} (h : RdT w A T) (hb : Below w.heap.size w w') : RdT w' A T := fun i p hp => by
  obtain ⟨ad, e, hl, h0, h1⟩ := h i p hp
  exact ⟨ad, e, Nat.lt_of_lt_of_le hl hb.size, (hb.cell (by rw [block_add]; exact hl)).trans h0, (hb.cell (by rw [block_add]; exact hl)).trans h1⟩
def OkT (T : List (Nat × Nat)) : Prop := ∀ p ∈ T, p.1 < 18446744073709551616 ∧ p.2 < 256
/-- A value that came in as a row of things. -/
def OkThings (w : World) (v : Value) : Prop := ∃ (A : Option Addr) (c : Nat) (T : List (Nat × Nat)), v = .slice A T.length c ∧ OkT T ∧ RdT w A T ∧ T.length ≤ c ∧ c ≤ 9223372036854775807 ∧ (A = none → c = 0)
open Go.ChangeShapes Go.WideShapes in
theorem open_things {H : Type} {enc : TypeId × Value → H} {W : World} {r : Reach} {b0 : Nat} {v : Value} {d : DataW H} {p : List MemPlace}
    (hv : Value.okWide Try.prog W r b0 48 v) (h : DataW.Trod enc Try.prog W 0 (fun _ => true) true 48 v d p) : OkThings W v := by
  obtain ⟨a0, len, cap, rfl⟩ := okWide_slice Try.underlying48 hv
  obtain ⟨fuel, hf⟩ := h
  rcases Deep.open_slice_pairs Try.underlying48 Try.underlying52 (by kernel_rfl) rfl rfl (by kernel_rfl) (by kernel_rfl) hf with ⟨hcs, _⟩ | ⟨a, l, c, m, n, V0, V1, D0, D1, P0, P1, hcs, _, hl, hm, hmm, _, hx⟩
  · simp [Value.cells] at hcs
    obtain ⟨rfl, rfl, rfl⟩ := hcs
    exact ⟨none, 0, [], rfl, (by intro x hx; cases hx), (by intro q x hq; simp at hq), by simp, by simp, fun _ => rfl⟩
  · simp [Value.cells] at hcs
    obtain ⟨rfl, rfl, rfl⟩ := hcs
    have hmc : m = cap := by simpa using hmm
    have each : ∀ i, i < len → ∃ q : Nat × Nat, V0 i = .int .u64 (q.1 : Nat) ∧ V1 i = .int .u8 (q.2 : Nat) ∧ q.1 < 18446744073709551616 ∧ q.2 < 256 := by
      intro i hi
      obtain ⟨_, _, h0, h1⟩ := hx i (by omega)
      obtain ⟨x, e0, _, w0⟩ := DataW.trod_int Try.underlying25 h0
      obtain ⟨y, e1, _, w1⟩ := DataW.trod_int Try.underlying5 h1
      simp [Lit.wf, IntKind.min, IntKind.max, IntKind.signed, IntKind.bits] at w0 w1
      obtain ⟨x', rfl⟩ := Int.eq_ofNat_of_zero_le (show 0 ≤ x by omega)
      obtain ⟨y', rfl⟩ := Int.eq_ofNat_of_zero_le (show 0 ≤ y by omega)
      simp only [List.cons.injEq, and_true] at e0 e1
      exact ⟨(x', y'), e0, e1, by show x' < _; omega, by show y' < _; omega⟩
    obtain ⟨q, hq⟩ := Deep.choose_lt each
    refine ⟨some a, cap, (List.range len).map q, by simp, ?_, ?_, by simp; omega, by unfold maxLen at hm; omega, fun e => by cases e⟩
    · intro p hp
      obtain ⟨i, hi, rfl⟩ := List.mem_map.1 hp
      exact (hq i (List.mem_range.1 hi)).2.2
    · intro i p hp
      simp only [List.getElem?_map, Option.map_eq_some_iff] at hp
      obtain ⟨j, hj, rfl⟩ := hp
      obtain ⟨hjl, rfl⟩ := List.getElem?_eq_some_iff.1 hj
      simp only [List.length_range] at hjl
      simp only [List.getElem_range]
      obtain ⟨e0, e1, _, _⟩ := hq i hjl
      obtain ⟨c0, c1, _, _⟩ := hx i (by omega)
      rw [e0] at c0
      rw [e1] at c1
      have hlt := World.block_lt_of_cell? W _ c0
      rw [block_add] at hlt
      exact ⟨a, rfl, hlt, c0, c1⟩
end Go.Proofs.Ytgljaimoaijcaaa
