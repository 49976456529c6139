/- A list turned about, and on, and back. -/
import Derived.Test.YtmnkghbbcjnlfaaR10
namespace Go.Proofs.Ytmnkghbbcjnlfaa
open Go.RowKit

def swapTo (vs : List Value) (i : Nat) : List Value := (List.range vs.length).map fun q => if q < i ∨ vs.length ≤ q + i then vs.getD (vs.length - 1 - q) (.slice none 0 0) else vs.getD q (.slice none 0 0)
theorem swapTo_length (vs : List Value) (i : Nat) : (swapTo vs i).length = vs.length := by simp [swapTo]
theorem swapTo_at (vs : List Value) (i q : Nat) (h : q < vs.length) : (swapTo vs i)[q]? = some (if q < i ∨ vs.length ≤ q + i then vs.getD (vs.length - 1 - q) (.slice none 0 0) else vs.getD q (.slice none 0 0)) := by
  unfold swapTo
  rw [List.getElem?_map, List.getElem?_range h]
  rfl
theorem swapTo_zero (vs : List Value) : swapTo vs 0 = vs := by
  apply List.ext_getElem?
  intro q
  by_cases h : q < vs.length
  · rw [swapTo_at vs 0 q h, if_neg (by omega)]
    simp [List.getD, List.getElem?_eq_getElem h]
  · rw [List.getElem?_eq_none (by rw [swapTo_length]; omega), List.getElem?_eq_none (by omega)]
theorem swapTo_end (vs : List Value) (i : Nat) (h : vs.length ≤ 2 * i + 1) : swapTo vs i = vs.reverse := by
  apply List.ext_getElem?
  intro q
  by_cases hq : q < vs.length
  · rw [swapTo_at vs i q hq, List.getElem?_reverse hq]
    have h2 : vs.length - 1 - q < vs.length := by omega
    by_cases hc : q < i ∨ vs.length ≤ q + i
    · rw [if_pos hc]
      simp [List.getD, List.getElem?_eq_getElem h2]
    · rw [if_neg hc]
      have e : vs.length - 1 - q = q := by omega
      rw [e]
      simp [List.getD, List.getElem?_eq_getElem hq]
  · rw [List.getElem?_eq_none (by rw [swapTo_length]; omega), List.getElem?_eq_none (by simp; omega)]
theorem swapTo_step (vs : List Value) (i : Nat) (h : 2 * i + 1 < vs.length) :
    ((swapTo vs i).set i (vs.getD (vs.length - 1 - i) (.slice none 0 0))).set (vs.length - 1 - i) (vs.getD i (.slice none 0 0)) = swapTo vs (i + 1) := by
  apply List.ext_getElem?
  intro q
  by_cases hq : q < vs.length
  · rw [swapTo_at vs (i + 1) q hq, List.getElem?_set, List.getElem?_set, swapTo_at vs i q hq]
    simp only [List.length_set, swapTo_length]
    by_cases h1 : vs.length - 1 - i = q
    · have h2 : vs.length - 1 - i < vs.length := by omega
      rw [if_pos h1, if_pos h2, if_pos (by omega)]
      congr 2
      omega
    · rw [if_neg h1]
      by_cases h3 : i = q
      · subst h3
        rw [if_pos rfl, if_pos hq, if_pos (by omega)]
      · rw [if_neg h3]
        by_cases h4 : q < i ∨ vs.length ≤ q + i
        · rw [if_pos h4, if_pos (by omega)]
        · rw [if_neg h4, if_neg (by omega)]
  · rw [List.getElem?_eq_none (by simp [swapTo_length]; omega), List.getElem?_eq_none (by rw [swapTo_length]; omega)]

set_option maxRecDepth 100000 in
set_option maxHeartbeats 2000000 in
theorem reverse_any (g n c : Nat) (vs : List Value) (t : TypeId) (w : World) (hb : w.heap[g]? = some (.cells vs.toArray t (0, 0))) (hn : n = vs.length) (hL : n ≤ 1000000)
    (hv : ∀ v ∈ vs, ∃ D m d, v = Value.slice D m d) :
    Calls Try.prog 25 #[.slice (some ⟨g, 0, none⟩) n c] w fun e w' => e = .returned (.tuple #[]) ∧ w'.heap[g]? = some (.cells vs.reverse.toArray t (0, 0)) ∧ w.grownBy w' (some g) := by
  have HB := Lib.hid hb
  have HN := Lib.hid hn
  have HV := Lib.hid hv
  have h0 := Lib.hid (show w.heap[g]? = some (.cells (swapTo vs 0).toArray t (0, 0)) by rw [swapTo_zero]; exact hb)
  clear hb hn hv
  go_enter Try.func25, Try.ntmps25
  go_wp2_with fail
  go_loopw [2, 3] (fun s2 s3 wr => ∃ (i : Nat), 2 * i ≤ n ∧ s2 = .int .i64 i ∧ s3 = .int .i64 ((n : Int) - 1 - i) ∧ Hid (wr.heap[g]? = some (.cells (swapTo vs i).toArray t (0, 0))) ∧ Hid (w.grownBy wr (some g))) (fun s2 _ _ => n - (intOf s2).toNat)
  case atStart => exact ⟨0, by omega, rfl, by congr 1; omega, h0, World.grownBy.refl w _⟩
  case round =>
    obtain ⟨i, hi, rfl, rfl, hblk, hgr⟩ := hrel
    by_cases hlt : 2 * i + 1 < n
    · obtain ⟨j, hj⟩ : ∃ j, j = n - 1 - i := ⟨_, rfl⟩
      have hjI : (n : Int) - 1 - i = (j : Nat) := by omega
      rw [hjI]
      have hij : (i : Int) < (j : Nat) := by omega
      have hjn : j < n := by omega
      obtain ⟨D1, m1, d1, e1⟩ := HV.out (vs.getD i (.slice none 0 0)) (by rw [List.getD_eq_getElem?_getD, List.getElem?_eq_getElem (by rw [← HN.out]; omega)]; exact List.getElem_mem _)
      obtain ⟨D2, m2, d2, e2⟩ := HV.out (vs.getD j (.slice none 0 0)) (by rw [List.getD_eq_getElem?_getD, List.getElem?_eq_getElem (by rw [← HN.out]; omega)]; exact List.getElem_mem _)
      have hst := swapTo_step vs i (by rw [← HN.out]; exact hlt)
      rw [← HN.out, ← hj, e1, e2] at hst
      have c1 : wr.cell? ⟨g, i, none⟩ = some (.slice D1 m1 d1) := by
        rw [cell_of hblk.out]
        have := swapTo_at vs i i (by rw [← HN.out]; omega)
        rw [if_neg (by rw [← HN.out]; omega), e1] at this
        simpa using this
      have c2 : wr.cell? ⟨g, j, none⟩ = some (.slice D2 m2 d2) := by
        rw [cell_of hblk.out]
        have := swapTo_at vs i j (by rw [← HN.out]; omega)
        rw [if_neg (by rw [← HN.out]; omega), e2] at this
        simpa using this
      have f1 := free_of hblk.out i
      have f2 := free_of hblk.out j
      have hI0 : (0 : Int) ≤ (i : Int) := by omega
      have hI1 : (i : Int) < (n : Nat) := by omega
      have hI2 : (0 : Int) ≤ (j : Int) := by omega
      have hI3 : (j : Int) < (n : Nat) := by omega
      have hne : ¬ j = i := by omega
      have HST := Lib.hid hst
      have HJ := Lib.hid hj
      clear hst hj e1 e2 hjI
      go_upto_region 3 with fail
      go_region
      have hb2 : ((((wr.setCell ⟨g, i, none⟩ (.slice D2 m2 d2)).setCell ⟨g, j, none⟩ (.slice D1 m1 d1))).drew).heap[g]? = some (.cells (swapTo vs (i + 1)).toArray t (0, 0)) := by
        rw [← HST.out]
        show (((wr.setCell ⟨g, i, none⟩ (.slice D2 m2 d2)).setCell ⟨g, j, none⟩ (.slice D1 m1 d1))).heap[g]? = _
        simp [World.setCell, Array.getElem?_modify, hblk.out]
      have hg2 : w.grownBy ((((wr.setCell ⟨g, i, none⟩ (.slice D2 m2 d2)).setCell ⟨g, j, none⟩ (.slice D1 m1 d1))).drew) (some g) := gb_drew (gb_set (gb_set hgr.out rfl _) rfl _)
      have HB2 := Lib.hid hb2
      have HG2 := Lib.hid hg2
      clear hb2 hg2 c1 c2 f1 f2
      go_wp2_with fail
      go_roundw
      case rel => exact ⟨i + 1, by omega, by go_num, by congr 1; have := HJ.out; omega, HB2, HG2⟩
      case measure => simp [intOf]; omega
    · have HE := Lib.hid (swapTo_end vs i (by rw [← HN.out]; omega))
      have hlt2 : (n : Int) - 1 - i ≤ (i : Int) := by omega
      go_wp2_with fail
      go_end0
      exact ⟨rfl, by rw [← HE.out]; exact hblk.out, hgr.out⟩

set_option maxHeartbeats 1000000 in
theorem reverse_nil (A : Option Addr) (c : Nat) (w : World) :
    Calls Try.prog 25 #[.slice A 0 c] w fun e w' => e = .returned (.tuple #[]) ∧ w = w' := by
  go_enter Try.func25, Try.ntmps25
  go_wp2_with fail
  go_loop [2, 3] (fun s2 s3 => s2 = .int .i64 0 ∧ s3 = .int .i64 (-1)) (fun _ _ => 0)
  case atStart => exact ⟨rfl, rfl⟩
  case round =>
    obtain ⟨rfl, rfl⟩ := hrel
    go_wp2_with fail
    go_end0
    exact ⟨rfl, rfl⟩

/-- The turn by any number. -/
def turnOf (L : List (List Nat)) (k : Int) : List (List Nat) := turnN L (offN L.length k)
theorem turnOf_length (L : List (List Nat)) (k : Int) : (turnOf L k).length = L.length := turnN_length _ _
theorem turnN_mem {L : List (List Nat)} {f : Nat} {xs : List Nat} (h : xs ∈ turnN L f) : xs ∈ L := by
  unfold turnN at h
  obtain ⟨i, hi, rfl⟩ := List.mem_map.1 h
  have hl : i < L.length := List.mem_range.1 hi
  unfold at_
  rw [List.getD_eq_getElem?_getD, List.getElem?_eq_getElem (Nat.mod_lt _ (by omega))]
  exact List.getElem_mem _
set_option maxHeartbeats 1000000 in
theorem turn_all (A : Option Addr) (c n : Nat) (k : Int) (L : List (List Nat)) (w : World) (hl : RdW w A L) (hw : ∀ xs ∈ L, xs.length ≤ 1000000) (hn : n = L.length) (hL : n ≤ 1000000) :
    Calls Try.prog 12 #[.slice A n c, .int .i64 k] w fun e w' => ∃ A' c', e = .returned (.slice A' n c') ∧ RdW w' A' (turnOf L k) ∧ Below w.heap.size w w' := by
  by_cases h0 : 0 < n
  · refine (turn_any A c n k L w hl hw hn hL h0).mono ?_
    rintro e w' ⟨g, vs, rfl, hr, _, hb⟩
    refine ⟨_, _, rfl, ?_, hb⟩
    unfold turnOf
    rw [← hn]
    exact hr.rd
  · obtain rfl : n = 0 := by omega
    obtain rfl : L = [] := List.eq_nil_of_length_eq_zero hn.symm
    clear h0 hn hL hl hw
    go_enter Try.func12, Try.ntmps12
    go_wp2_with fail
    go_ret
    exact ⟨none, 0, rfl, (by intro i xs hi; simp [turnOf, turnN] at hi), Below.refl _ _⟩

theorem wordAt_grown {w w' : World} {base g : Nat} {v : Value} {xs : List Nat} (h : WordAt w base g v xs) (hg : w.grownBy w' (some g)) : WordAt w' base g v xs := by
  obtain ⟨D, c, e, h1, h2, h3, h4, h5⟩ := h
  exact ⟨D, c, e, rdN_grown h1 hg (fun ad ha => by intro e; injection e with e; exact (h5 ad ha).2 e), h2, h3, h4, h5⟩
set_option maxHeartbeats 1000000 in
theorem flip_all (A : Option Addr) (c n : Nat) (L : List (List Nat)) (w : World) (hl : RdW w A L) (hw : ∀ xs ∈ L, xs.length ≤ 1000000) (hn : n = L.length) (hL : n ≤ 1000000) :
    Calls Try.prog 14 #[.slice A n c] w fun e w' => ∃ A' c', e = .returned (.slice A' n c') ∧ RdW w' A' L.reverse ∧ Below w.heap.size w w' := by
  by_cases h0 : 0 < n
  · have h00 : turnN L (offN n 0) = L := by
      apply List.ext_getElem?
      intro q
      by_cases hq : q < L.length
      · have : offN n 0 = 0 := by simp [offN]
        unfold turnN at_
        rw [List.getElem?_map, List.getElem?_range hq, this, List.getElem?_eq_getElem hq]
        simp [Nat.mod_eq_of_lt hq, List.getElem?_eq_getElem hq]
      · rw [List.getElem?_eq_none (by rw [turnN_length]; omega), List.getElem?_eq_none (by omega)]
    have CT := Lib.hid (turn_any A c n 0 L w hl hw hn hL h0)
    rw [h00] at CT
    have HN := Lib.hid hn
    clear hl hw hn h00
    go_enter Try.func14, Try.ntmps14
    go_wp2_with fail
    refine CT.out.mono ?_
    rintro e w1 ⟨g, vs, rfl, hr, hg, hb⟩
    have HR := Lib.hid hr
    have HB := Lib.hid hb
    have hvl := hr.2.1
    have CR := Lib.hid (reverse_any g n n vs _ w1 (by have := hr.1; simpa using this) (by rw [hvl, ← HN.out]) hL (fun v hv => by
      obtain ⟨j, hj⟩ := List.getElem?_of_mem hv
      have hjl := (List.getElem?_eq_some_iff.1 hj).1
      obtain ⟨D, d, e, _⟩ := hr.2.2 j v L[j] hj (List.getElem?_eq_getElem (by rw [← hvl]; exact hjl))
      exact ⟨D, _, d, e⟩))
    clear hr hb CT
    go_wp2_with fail
    refine CR.out.mono ?_
    rintro e w2 ⟨rfl, hb2, hg2⟩
    have HB2 := Lib.hid (HB.out.grown hg2 HB.out.size (by intro j hj; injection hj with hj; omega))
    have HRR : Hid (RowN w2 w.heap.size g 0 vs.reverse L.reverse) := by
      refine ⟨by simpa using hb2, by simp [hvl], fun j v xs hj hx => ?_⟩
      have hjl : j < vs.length := by have := (List.getElem?_eq_some_iff.1 hj).1; simpa using this
      rw [List.getElem?_reverse hjl] at hj
      rw [List.getElem?_reverse (by rw [← hvl]; exact hjl), ← hvl] at hx
      exact wordAt_grown (HR.out.2.2 _ v xs hj hx) hg2
    clear hb2 hg2 CR HR
    go_wp2_with fail
    go_ret
    exact ⟨_, _, rfl, HRR.out.rd, HB2.out⟩
  · obtain rfl : n = 0 := by omega
    obtain rfl : L = [] := List.eq_nil_of_length_eq_zero hn.symm
    have CT := Lib.hid (turn_all A c 0 0 [] w hl hw hn hL)
    clear h0 hn hL hl hw
    go_enter Try.func14, Try.ntmps14
    go_wp2_with fail
    refine CT.out.mono ?_
    rintro e w1 ⟨A', c', rfl, hr, hb⟩
    have HR := Lib.hid hr
    clear hr CT
    go_wp2_with fail
    refine (reverse_nil A' c' w1).mono ?_
    rintro e w2 ⟨rfl, rfl⟩
    go_wp2_with fail
    go_ret
    exact ⟨_, _, rfl, HR.out, hb⟩
end Go.Proofs.Ytmnkghbbcjnlfaa
