/- A circle turned about. -/
import Derived.Test.YtmnkghbbcjnlfaaR3
import Derived.Lib.LazyBuf
namespace Go.Proofs.Ytmnkghbbcjnlfaa
open Go.RowKit

theorem u8info : (Try.prog.info? 5).map (fun i => (i.zero, i.size, i.bytes)) = some (some (.int .u8 0), 1, 1) := by kernel_rfl
theorem wordinfo : (Try.prog.info? 33).map (fun i => (i.zero, i.size, i.bytes)) = some (some (.slice none 0 0), 1, 24) := by kernel_rfl

/-- A value that is a word; its bytes lie not below a block, nor in another one. -/
def WordAt (w : World) (base g : Nat) (v : Value) (xs : List Nat) : Prop := ∃ (D : Option Addr) (c : Nat), v = .slice D xs.length c ∧ RdN w D xs ∧ xs.length ≤ c ∧ c ≤ 9223372036854775807 ∧ (D = none → c = 0) ∧ ∀ ad, D = some ad → base ≤ ad.block ∧ ad.block ≠ g
theorem WordAt.below {w w' : World} {base g : Nat} {v : Value} {xs : List Nat} (h : WordAt w base g v xs) (hb : Below w.heap.size w w') : WordAt w' base g v xs := by
  obtain ⟨D, c, e, h1, h2⟩ := h
  exact ⟨D, c, e, h1.below hb, h2⟩
theorem rdN_set {w : World} {A : Option Addr} {xs : List Nat} (h : RdN w A xs) {p : Addr} (hp : ∀ ad, A = some ad → ad.block ≠ p.block) (u : Value) : RdN (w.setCell p u) A xs := fun q x hq => by
  obtain ⟨ad, e, hl, hc⟩ := h q x hq
  refine ⟨ad, e, by simpa [World.setCell] using hl, (World.cell?_setCell_other _ _ _ _ (fun e3 => ?_)).trans hc⟩
  have := congrArg Addr.block e3
  rw [block_add] at this
  exact hp ad e this.symm
theorem WordAt.set_ {w : World} {base g : Nat} {v : Value} {xs : List Nat} (h : WordAt w base g v xs) (i : Nat) (u : Value) : WordAt (w.setCell ⟨g, i, none⟩ u) base g v xs := by
  obtain ⟨D, c, e, h1, h2, h3, h4, h5⟩ := h
  exact ⟨D, c, e, rdN_set h1 (fun ad ha => (h5 ad ha).2) u, h2, h3, h4, h5⟩

set_option maxHeartbeats 400000 in
theorem clone_any (B : Option Addr) (c n : Nat) (xs : List Nat) (w : World) (hr : RdN w B xs) (hB : B = none → c = 0) (hc : xs.length ≤ c) (hn : n = xs.length) (hl : n ≤ 1000000) :
    Calls Try.prog 23 #[.slice B n c] w fun e w' => ∃ (D : Option Addr) (c' : Nat), e = .returned (.slice D n c') ∧ RdN w' D xs ∧ n ≤ c' ∧ c' ≤ 9223372036854775807 ∧ (D = none → c' = 0) ∧ (∀ ad, D = some ad → w.heap.size ≤ ad.block) ∧ Below w.heap.size w w' := by
  obtain ⟨i0, hi0, hz0, hz1, hz2⟩ := info_partsI u8info
  have hnil : ∀ (a : Option Addr) (l c : Nat), (binOp .eql 33 (.slice a l c) (.slice none 0 0)).run Try.prog w = .ok (.bool a.isNone) w := fun a l c => _root_.Go.run_eql_slice_nil w _ _ a l c Try.underlying33
  have hmade := World.ownsRow_made (base := w.heap.size) (e := 5) (size := 1) w #[] 0 (Nat.le_refl _) (by simp [maxLen]) (by simp)
  cases B with
  | none =>
    obtain rfl := hB rfl
    obtain rfl : xs = [] := List.eq_nil_of_length_eq_zero (by omega)
    obtain rfl : n = 0 := hn
    clear hB hr
    go_enter Try.func23, Try.ntmps23
    go_wp2_with fail
    go_ret
    exact ⟨none, 0, rfl, (by intro q x hq; simp at hq), by simp, by simp, fun _ => rfl, fun ad e => (by cases e), Below.refl _ _⟩
  | some ad =>
    clear hB
    subst hn
    have hcell : ∀ j u, (u8s xs)[j]? = some u → (w.alloc (.cells #[] 5)).cell? (ad.add j) = some u := by
      intro j u hj
      simp only [u8s, List.getElem?_map, Option.map_eq_some_iff] at hj
      obtain ⟨x, hx, rfl⟩ := hj
      obtain ⟨ad', e, hb, hc⟩ := hr j x hx
      injection e with e
      subst e
      exact (World.cell?_alloc_lt w _ _ (by rw [block_add]; exact hb)).trans hc
    have h1 : ∀ u ∈ u8s xs, u.oneCell' = true := by
      intro u hu
      simp only [u8s, List.mem_map] at hu
      obtain ⟨x, _, rfl⟩ := hu
      rfl
    have HC := Lib.hid hcell
    have H1 := Lib.hid h1
    clear hcell h1 hr
    go_enter Try.func23, Try.ntmps23
    go_wp2_with (at_builtin; refine wpList_append_own _ rfl _ _ 33 rfl w.heap.size 5 i0 (.int .u8 0) 1 1 Try.underlying33 hi0 hz0 hz1 hz2 rfl (by decide) (.slice (some ⟨w.heap.size, 0, none⟩) 0 0) 0 [] rfl hmade ad xs.length c (u8s xs) rfl (by simp [u8s]) HC.out H1.out (by simp [maxLen]; omega) (by omega) (by simp) ?_; intro v' w' hown hgr hiff)
    try simp only [Nat.zero_add, List.nil_append] at hown
    rcases Joins.ownsRow_forms hown with ⟨rfl, hn⟩ | ⟨g, cap, rfl⟩
    · exact absurd (hiff.1 rfl).1 (by simp)
    · go_ret
      obtain ⟨g1, g2, g3, g4, g5⟩ := row_at hown
      have hcap : cap ≤ 9223372036854775807 := by
        obtain ⟨_, h | ⟨g', c', cur, e, _, _, _, hm, _⟩⟩ := hown
        · cases h.1
        · injection e with _ _ e3
          unfold maxLen at hm
          omega
      exact ⟨some ⟨g, 0, none⟩, cap, rfl, fun q x hq => ⟨_, rfl, g2, by rw [add_off]; exact g4 q (by8 x) (by simp [u8s, hq])⟩, g3, hcap, (fun e => (by cases e)), fun ad e => (by injection e with e; subst e; exact g1), below_of_grown hgr⟩

/-- A row in memory of its own whose first things are words. -/
def RowN (w : World) (base g m : Nat) (vs : List Value) (T : List (List Nat)) : Prop :=
  w.heap[g]? = some (.cells (vs ++ List.replicate m (Value.slice none 0 0)).toArray 33 (0, 0)) ∧ vs.length = T.length ∧ ∀ (j : Nat) (v : Value) (xs : List Nat), vs[j]? = some v → T[j]? = some xs → WordAt w base g v xs
theorem RowN.below {w w' : World} {base g m : Nat} {vs : List Value} {T : List (List Nat)} (h : RowN w base g m vs T) (hb : Below w.heap.size w w') : RowN w' base g m vs T :=
  ⟨blk_below h.1 hb, h.2.1, fun j v xs hj hx => (h.2.2 j v xs hj hx).below hb⟩
theorem RowN.store {w : World} {base g m : Nat} {vs : List Value} {T : List (List Nat)} {v : Value} {xs : List Nat} (h : RowN w base g (m + 1) vs T) (hv : WordAt w base g v xs) : RowN (w.setCell ⟨g, T.length, none⟩ v) base g m (vs ++ [v]) (T ++ [xs]) := by
  refine ⟨?_, by simp [h.2.1], fun j u ys hj hy => ?_⟩
  · show _ = _
    simp [World.setCell, Array.getElem?_modify, h.1]
    rw [← h.2.1, List.replicate_succ, List.set_append_right _ _ (Nat.le_refl _)]
    simp
  · by_cases hjl : j < vs.length
    · rw [List.getElem?_append_left hjl] at hj
      rw [List.getElem?_append_left (by rw [← h.2.1]; exact hjl)] at hy
      exact (h.2.2 j u ys hj hy).set_ _ _
    · have hjm := (List.getElem?_eq_some_iff.1 hj).1
      simp at hjm
      obtain rfl : j = vs.length := by omega
      simp at hj
      rw [h.2.1] at hy
      simp at hy
      subst hj hy
      exact hv.set_ _ _
theorem RowN.rd {w : World} {base g : Nat} {vs : List Value} {T : List (List Nat)} (h : RowN w base g 0 vs T) : RdW w (some ⟨g, 0, none⟩) T := fun i xs hi => by
  obtain ⟨v, hv⟩ : ∃ v, vs[i]? = some v := ⟨_, List.getElem?_eq_getElem (by rw [h.2.1]; exact (List.getElem?_eq_some_iff.1 hi).1)⟩
  obtain ⟨D, c, e, h1, h2, h3, h4, _⟩ := h.2.2 i v xs hv hi
  refine ⟨⟨g, 0, none⟩, D, c, rfl, lt_of_block h.1, ?_, h1, h2, h3, h4⟩
  rw [add_off, cell_of h.1]
  simp [hv, e]

/-- The turn by so many places. -/
def turnN (L : List (List Nat)) (f : Nat) : List (List Nat) := (List.range L.length).map fun i => at_ L (f + i)
theorem turnN_length (L : List (List Nat)) (f : Nat) : (turnN L f).length = L.length := by simp [turnN]
theorem turnN_take {L : List (List Nat)} {f i : Nat} (h : i < L.length) : (turnN L f).take (i + 1) = (turnN L f).take i ++ [at_ L (f + i)] := by
  rw [List.take_add_one]
  congr 1
  simp [turnN, h]
/-- How far, of any number. -/
def offN (n : Nat) (k : Int) : Nat := (k % (n : Int)).toNat

theorem off_eq {n : Nat} (k : Int) (hn : 0 < n) : (k.tmod (n : Int) + n) % (n : Int) = (offN n k : Nat) := by
  have h0 : (0 : Int) ≤ k % (n : Int) := Int.emod_nonneg _ (by omega)
  unfold offN
  rw [Int.toNat_of_nonneg h0]
  rw [Int.add_emod_right]
  rcases Int.le_total 0 k with h | h
  · rw [Int.tmod_eq_emod_of_nonneg h, Int.emod_emod_of_dvd _ (Int.dvd_refl _)]
  · have e : k = -(-k) := by omega
    rw [e, Int.neg_tmod, Int.tmod_eq_emod_of_nonneg (by omega : 0 ≤ -k)]
    have := Int.emod_add_mul_ediv (-k) n
    generalize (-k) / (n : Int) = q at *
    generalize (-k) % (n : Int) = r at *
    rw [← this, Int.neg_add, Int.add_comm, ← Int.mul_neg, Int.add_comm, Int.add_mul_emod_self_left]
theorem off_lt {n : Nat} (k : Int) (hn : 0 < n) : offN n k < n := by
  unfold offN
  have := Int.emod_lt_of_pos k (show (0 : Int) < n by omega)
  have := Int.emod_nonneg k (show (n : Int) ≠ 0 by omega)
  omega
theorem tmod_rng {n : Nat} (k : Int) (hn : 0 < n) : -(n : Int) < k.tmod n ∧ k.tmod n < n := by
  rcases Int.le_total 0 k with h | h
  · rw [Int.tmod_eq_emod_of_nonneg h]
    have := Int.emod_lt_of_pos k (show (0 : Int) < n by omega)
    have := Int.emod_nonneg k (show (n : Int) ≠ 0 by omega)
    omega
  · have e : k = -(-k) := by omega
    rw [e, Int.neg_tmod, Int.tmod_eq_emod_of_nonneg (by omega : 0 ≤ -k)]
    have := Int.emod_lt_of_pos (-k) (show (0 : Int) < n by omega)
    have := Int.emod_nonneg (-k) (show (n : Int) ≠ 0 by omega)
    omega

set_option maxRecDepth 100000 in
set_option maxHeartbeats 2000000 in
theorem turn_any (A : Option Addr) (c n : Nat) (k : Int) (L : List (List Nat)) (w : World) (hl : RdW w A L) (hw : ∀ xs ∈ L, xs.length ≤ 1000000) (hn : n = L.length) (hL : n ≤ 1000000) (h0 : 0 < n) :
    Calls Try.prog 12 #[.slice A n c, .int .i64 k] w fun e w' => ∃ g vs, e = .returned (.slice (some ⟨g, 0, none⟩) n n) ∧ RowN w' w.heap.size g 0 vs (turnN L (offN n k)) ∧ w.heap.size ≤ g ∧ Below w.heap.size w w' := by
  obtain ⟨i0, hi0, hz0, hz1, hz2⟩ := info_partsI wordinfo
  have hmk : ∀ w' : World, (Instr.makeSlice 22 (.int .i64 n) (.int .i64 n)).run Try.prog w' = .ok (.slice (some ⟨w'.heap.size, 0, none⟩) n n) (w'.alloc (.cells (List.replicate n (Value.slice none 0 0)).toArray 33)) := by
    intro w'
    have hr := run_make (P := Try.prog) w' 22 33 i0 (.slice none 0 0) Try.underlying22 hi0 hz0 .i64 .i64 n n (by omega) (by omega) (by rw [hz2]; omega) (by omega)
    rw [hz1, Nat.mul_one] at hr
    rw [hr]
    congr 3
    apply Array.ext'
    show (madeCells #[Value.slice none 0 0] n).toList = _
    rw [toList_madeCells_one]
  have ho := off_eq k h0
  have hol := off_lt k h0
  obtain ⟨t1, t2⟩ := tmod_rng k h0
  obtain ⟨t, ht⟩ : ∃ t, k.tmod (n : Int) = t := ⟨_, rfl⟩
  rw [ht] at ho t1 t2
  have hne : ¬ n = 0 := by omega
  have HL := Lib.hid hl
  have HN := Lib.hid hn
  have HW := Lib.hid hw
  generalize offN n k = f at *
  clear hl hn hw hi0 hz0 hz1 hz2
  go_enter Try.func12, Try.ntmps12
  go_upto_region 5 with fail
  rw [ho, show ((n : Int) == 0) = false by simp; omega]
  have hrow : RowN (w.alloc (.cells (Array.replicate n (Value.slice none 0 0)) 33)) w.heap.size w.heap.size n [] [] := by
    refine ⟨?_, rfl, fun j v xs hj => by simp at hj⟩
    rw [heap_alloc_new]
    simp
  have hbw : Below w.heap.size w (w.alloc (.cells (Array.replicate n (Value.slice none 0 0)) 33)) := (Below.refl _ _).alloc (Nat.le_refl _) _
  have HRO := Lib.hid hrow
  have HB := Lib.hid hbw
  clear ho hmk ht t1 t2 hrow hbw
  go_wp2_with fail
  go_loopw [26] (fun s wr => ∃ i : Nat, i ≤ n ∧ s = .int .i64 i ∧ Hid (∃ vs, RowN wr w.heap.size w.heap.size (n - i) vs ((turnN L f).take i)) ∧ Hid (Below w.heap.size w wr)) (fun s _ => n - (intOf s).toNat)
  case atStart => exact ⟨0, Nat.zero_le _, rfl, ⟨[], by simpa using HRO.out⟩, HB⟩
  case round =>
    obtain ⟨i, hi, rfl, hrow, hbel⟩ := hrel
    by_cases hlt : i < n
    · obtain ⟨q, hq⟩ : ∃ q, q = (f + i) % n := ⟨_, rfl⟩
      have hqn : q < n := by rw [hq]; exact Nat.mod_lt _ h0
      have hqI : ((f : Int) + (i : Nat)) % (n : Nat) = (q : Nat) := by rw [hq, Int.natCast_emod, Int.natCast_add]
      obtain ⟨xs, hxs⟩ : ∃ xs, L[q]? = some xs := ⟨_, List.getElem?_eq_getElem (by rw [← HN.out]; exact hqn)⟩
      have hat : at_ L (f + i) = xs := by unfold at_; rw [← HN.out, ← hq]; simp [List.getD, hxs]
      obtain ⟨ad, C, c2, rfl, hla, hcell, hrx, hc1, hc2, hc3⟩ := (HL.out.below hbel.out) q xs hxs
      have hxl := HW.out xs (List.mem_of_getElem? hxs)
      have htk := turnN_take (L := L) (f := f) (i := i) (by rw [← HN.out]; exact hlt)
      rw [hat] at htk
      have HTK := Lib.hid htk
      have HCL := Lib.hid (clone_any C c2 xs.length xs wr hrx hc3 hc1 rfl hxl)
      have HTL := Lib.hid (show ((turnN L f).take i).length = i by rw [List.length_take, turnN_length, ← HN.out]; omega)
      have HNI := Lib.hid (show n - i = (n - (i + 1)) + 1 by omega)
      obtain ⟨m, hm⟩ : ∃ m, m = xs.length := ⟨_, rfl⟩
      have HM := Lib.hid hm
      rw [← hm] at hcell hc1 hxl HCL
      clear hq hxs hat hrx htk hm
      go_wp2_with fail
      refine HCL.out.mono ?_
      rintro e w5 ⟨D, d, rfl, hd1, hd2, hd3, hd4, hd5, hb5⟩
      obtain ⟨vs, hvs⟩ := hrow.out
      rw [HNI.out] at hvs
      have hvs2 := hvs.below hb5
      have hg := lt_of_block hvs.1
      have c1 : ∃ u, w5.cell? ⟨w.heap.size, i, none⟩ = some u := by
        rw [cell_of hvs2.1]
        exact ⟨_, Array.getElem?_eq_getElem (by have := hvs2.2.1; rw [HTL.out] at this; simp; omega)⟩
      obtain ⟨u, c1⟩ := c1
      have c3 := free_of hvs2.1 i
      have hst := hvs2.store (v := .slice D m d) (xs := xs) ⟨D, d, by rw [HM.out], hd1, by rw [← HM.out]; exact hd2, hd3, hd4, fun ad ha => ⟨Nat.le_trans (Nat.le_of_lt hg) (hd5 ad ha), by have := hd5 ad ha; omega⟩⟩
      rw [HTL.out, ← HTK.out] at hst
      have HST := Lib.hid hst
      have HB6 := Lib.hid ((next_below hbel.out hb5).setCell (p := ⟨w.heap.size, i, none⟩) (Nat.le_refl _) (.slice D m d))
      clear hvs hvs2 hst hd1 hd4 hd5 hb5 hrow HTK HTL HNI HCL hqI
      go_wp2_with fail
      go_roundw
      case rel => exact ⟨i + 1, by omega, by go_num, Lib.hid ⟨_, HST.out⟩, HB6⟩
      case measure => simp [intOf]; omega
    · obtain rfl : i = n := by omega
      obtain ⟨vs, hvs⟩ := hrow.out
      rw [Nat.sub_self, List.take_of_length_le (by rw [turnN_length, ← HN.out]; omega)] at hvs
      have HV := Lib.hid hvs
      clear hvs hrow
      go_wp2_with fail
      go_ret
      exact ⟨_, vs, rfl, HV.out, Nat.le_refl _, hbel.out⟩
end Go.Proofs.Ytmnkghbbcjnlfaa
