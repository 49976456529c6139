/- Walks: digits of a number, laid and read. -/
import Derived.Test.YtgljaimoaijcaaaA4
namespace Go.Proofs.Ytgljaimoaijcaaa
open Go.RowKit

/-- w binary digits of n, the highest first. -/
def digs (n w : Nat) : List Bool := (List.range w).map fun i => n / 2 ^ (w - 1 - i) % 2 == 1
theorem digs_length (n w : Nat) : (digs n w).length = w := by simp [digs]

theorem digs_at (n w k : Nat) (h : k < w) : (digs n w).getD k false = (n / 2 ^ (w - 1 - k) % 2 == 1) := by
  simp [digs, List.getD, h]
theorem ext_getD {l m : List Bool} (h : l.length = m.length) (hh : ∀ j, j < l.length → l.getD j false = m.getD j false) : l = m := by
  apply List.ext_getElem h
  intro i h1 h2
  have := hh i h1
  simpa [List.getD, List.getElem?_eq_getElem h1, List.getElem?_eq_getElem h2] using this
theorem lay_at (l : List Bool) (tt : Nat) (m : List Bool) (fr i j : Nat) (h : tt + i ≤ l.length) : (lay l tt m fr i).getD j false = (l.getD j false || (decide (tt ≤ j ∧ j < tt + i) && m.getD (fr + (j - tt)) false)) := by
  induction i with
  | zero =>
    have : decide (tt ≤ j ∧ j < tt + 0) = false := by simp
    rw [this]; simp [lay]
  | succ i ih =>
    have ih := ih (by omega)
    unfold lay
    split
    · rename_i hb
      rw [getD_set _ _ _ (by rw [lay_length]; omega), ih]
      by_cases e : j = tt + i
      · subst e
        have e1 : decide (tt ≤ tt + i ∧ tt + i < tt + (i + 1)) = true := by simp
        have e2 : tt + i - tt = i := by omega
        rw [e1, e2, hb]; simp
      · have e1 : (j == tt + i) = false := by simpa using e
        have e2 : decide (tt ≤ j ∧ j < tt + (i + 1)) = decide (tt ≤ j ∧ j < tt + i) := by
          congr 1; apply propext; omega
        rw [e1, e2]; simp
    · rename_i hb
      rw [ih]
      by_cases e : j = tt + i
      · subst e
        have e1 : decide (tt ≤ tt + i ∧ tt + i < tt + (i + 1)) = true := by simp
        have e2 : tt + i - tt = i := by omega
        have e3 : decide (tt ≤ tt + i ∧ tt + i < tt + i) = false := by simp
        have hb' : m.getD (fr + i) false = false := by simpa using hb
        rw [e1, e2, e3, hb']; simp
      · have e2 : decide (tt ≤ j ∧ j < tt + (i + 1)) = decide (tt ≤ j ∧ j < tt + i) := by
          congr 1; apply propext; omega
        rw [e2]
theorem getD_append (a b : List Bool) (j : Nat) : (a ++ b).getD j false = if j < a.length then a.getD j false else b.getD (j - a.length) false := by
  split
  · rename_i h; simp [List.getD, List.getElem?_append_left h]
  · rename_i h; simp [List.getD, List.getElem?_append_right (by omega : a.length ≤ j)]
theorem getD_false (n j : Nat) : (List.replicate n false).getD j false = false := by
  simp [List.getD, List.getElem?_replicate]; split <;> rfl
theorem getD_far {l : List Bool} {j : Nat} (h : l.length ≤ j) : l.getD j false = false := by
  simp [List.getD, List.getElem?_eq_none h]
theorem lay_end (l m : List Bool) : lay (l ++ List.replicate m.length false) l.length m 0 m.length = l ++ m := by
  apply ext_getD
  · rw [lay_length]; simp
  · intro j _
    rw [lay_at _ _ _ _ _ _ (by simp), getD_append, getD_append]
    by_cases h : j < l.length
    · have : decide (l.length ≤ j ∧ j < l.length + m.length) = false := by simp; omega
      rw [if_pos h, if_pos h, this]; simp
    · rw [if_neg h, if_neg h, getD_false]
      by_cases h2 : j < l.length + m.length
      · have : decide (l.length ≤ j ∧ j < l.length + m.length) = true := by simp; omega
        rw [this]; simp
      · rw [getD_far (l := m) (by omega), getD_far (l := m) (by omega)]; simp
theorem shr64 (n c : Nat) (y : Int) (hy : y = c) (hn : n < 18446744073709551616) : Op.shift .shr .u64 (n : Int) .i64 y = pure (.int .u64 ((n / 2 ^ c : Nat) : Int)) := by
  subst hy
  rw [shift_shr_any _ _ _ _ (by omega), Int.toNat_natCast]
  congr 2
  have e : ((n / 2 ^ c : Nat) : Int) = (n : Int) / 2 ^ c := by rw [Int.natCast_ediv, Int.natCast_pow]; rfl
  rw [e]
  by_cases h : c ≤ 64
  · rw [show min c IntKind.u64.bits = c from Nat.min_eq_left h]
  · rw [show min c IntKind.u64.bits = 64 from Nat.min_eq_right (by show 64 ≤ c; omega)]
    have h1 : (n : Int) / 2 ^ 64 = 0 := Int.ediv_eq_zero_of_lt (by omega) (by omega)
    have h2 : (n : Int) / 2 ^ c = 0 := by
      rw [← e, Nat.div_eq_of_lt]; rfl
      exact Nat.lt_of_lt_of_le hn (by rw [show 18446744073709551616 = 2 ^ 64 from rfl]; exact Nat.pow_le_pow_right (by omega) (by omega))
    rw [h1, h2]
theorem and64 (q : Nat) (hq : q < 18446744073709551616) : bits .and .u64 (q : Int) 1 = ((q % 2 : Nat) : Int) := by
  have h := u64_and_nat q 1 hq (by omega)
  rw [Nat.and_one_is_mod] at h
  exact h

set_option maxHeartbeats 1000000 in
theorem withDigits_any (A : Option Addr) (l : List Bool) (N c : Nat) (L : Int) (n W : Nat) (w : World) (hr : Rd w A l) (hN : N = nB l) (hL : L = (l.length : Nat)) (hn : n < 18446744073709551616) (hW : W ≤ 200) (hm : l.length + W ≤ 4194304) :
    Calls Try.prog 46 #[.agg #[.slice A N c, .int .i64 L], .int .u64 n, .int .i64 W] w
      fun e w' => ∃ g : Nat, e = .returned (.tuple #[.agg #[.slice (some ⟨g, 0, none⟩) (nB (l ++ digs n W)) (nB (l ++ digs n W)), .int .i64 ((l ++ digs n W).length : Nat)], .int .i64 0]) ∧ Own w' g (l ++ digs n W) ∧ w.heap.size ≤ g ∧ Below w.heap.size w w' := by
  subst hL
  have HN := Lib.hid hN
  have HR := Lib.hid hr
  clear hN hr
  go_enter Try.func46, Try.ntmps46
  go_wp2_with fail
  refine (grown_any A l N c W _ (HR.out.alloc _ |>.alloc _) HN.out (by omega)).mono ?_
  rintro e w1 ⟨g, rfl, ho, hg, hb⟩
  have HO := Lib.hid ho
  clear ho
  generalize hl0 : l ++ List.replicate W false = l0 at *
  have HL0 := Lib.hid hl0
  clear hl0
  have hlen0 : Hid (l0.length = l.length + W) := by show l0.length = _; rw [← HL0.out]; simp
  have hd : decide (4194304 < (l.length : Int) + W) = false := by simp; omega
  have hlt1 := HO.out.lt
  obtain ⟨N', hN'⟩ : ∃ N', N' = nB l0 := ⟨_, rfl⟩
  rw [← hN']
  have HN' := Lib.hid hN'
  clear hN'
  simp only [World.size_alloc] at hg
  have hB1 : Hid (w1.heap[w.heap.size]? = some (.cells #[.slice A N c, .int .i64 (l.length : Nat)] 24 (0, 0))) := (hb.block w.heap.size (by simp only [World.size_alloc]; omega)).trans (two_first w _ _)
  have hB2 : Hid (w1.heap[w.heap.size + 1]? = some (.cells #[.slice none 0 0, .int .i64 0] 24 (0, 0))) := (hb.block (w.heap.size + 1) (by simp only [World.size_alloc]; omega)).trans (two_second w _ _)
  have hs1 : w.heap.size + 2 ≤ w1.heap.size := by simpa using hb.size
  go_wp2_with fail
  go_loopw [20] (fun i wr => ∃ k : Nat, k ≤ W ∧ i = .int .i64 k ∧ Hid (Own wr g (lay l0 l.length (digs n W) 0 k)) ∧ w1.grownBy wr (some g) ∧
      Hid (wr.heap[w.heap.size]? = some (.cells #[.slice A N c, .int .i64 (l.length : Nat)] 24 (0, 0))) ∧
      Hid (wr.heap[w.heap.size + 1]? = some (.cells #[.slice none 0 0, .int .i64 0] 24 (0, 0))) ∧
      Hid (wr.heap[w1.heap.size]? = some (.cells #[.slice (some ⟨g, 0, none⟩) N' N', .int .i64 ((l.length : Int) + W)] 24 (0, 0))))
    (fun i _ => W - (intOf i).toNat)
  case atStart => exact ⟨0, Nat.zero_le _, rfl, HO.out.alloc _, gb_alloc (World.grownBy.refl w1 _) _, (Below.heap_alloc w1 _ _ (lt_of_block hB1.out)).trans hB1.out, (Below.heap_alloc w1 _ _ (lt_of_block hB2.out)).trans hB2.out, heap_alloc_new w1 _⟩
  case round =>
    obtain ⟨k, hk, rfl, HOk, hgk, hC1, hC2, hC3⟩ := hrel
    by_cases hlt : k < W
    · obtain ⟨a1, a2, _, _⟩ := cells_two hC1.out
      obtain ⟨b1, b2, _, _⟩ := cells_two hC3.out
      obtain ⟨q, hq⟩ : ∃ q, q = n / 2 ^ (W - 1 - k) := ⟨_, rfl⟩
      have hsh : Op.shift .shr .u64 (n : Int) .i64 ((W : Int) - 1 - k) = pure (.int .u64 (q : Nat)) := by rw [hq]; exact shr64 n (W - 1 - k) _ (by omega) hn
      have hq64 : q < 18446744073709551616 := by rw [hq]; exact Nat.lt_of_le_of_lt (Nat.div_le_self _ _) hn
      have hand0 := and64 q hq64
      have hdg : (digs n W).getD (0 + k) false = (q % 2 == 1) := by rw [Nat.zero_add, digs_at n W k hlt, hq]
      clear hq hq64
      by_cases h1 : q % 2 = 1
      · have HS : Hid (lay l0 l.length (digs n W) 0 (k + 1) = (lay l0 l.length (digs n W) 0 k).set (l.length + k) true) := by show _ = _; rw [lay, if_pos (by rw [hdg]; simpa using h1)]
        have hand : bits .and .u64 (q : Int) 1 = 1 := by rw [hand0, h1]; rfl
        clear hand0 hdg h1
        go_wp2_with fail
        refine (set_at _ (lay l0 l.length (digs n W) 0 k) _ _ _ _ (l.length + k) _ (by omega) HOk.out (HN'.out.trans (lay_nB _ _ _ _ _).symm) (by rw [lay_length, hlen0.out]; omega) (by rw [lay_length, hlen0.out]; omega)).mono ?_
        rintro e w2 ⟨rfl, hO2, hg2⟩
        have HO2 := Lib.hid hO2
        clear hO2
        go_wp2_with fail
        go_roundw
        case rel => exact ⟨k + 1, by omega, by go_num, by rw [HS.out]; exact HO2.out, gb_trans hgk hg2, blk_gb hC1.out hg2 (by omega), blk_gb hC2.out hg2 (by omega), blk_gb hC3.out hg2 (by omega)⟩
        case measure => simp [intOf]; omega
      · have HS : Hid (lay l0 l.length (digs n W) 0 (k + 1) = lay l0 l.length (digs n W) 0 k) := by show _ = _; rw [lay, if_neg (by rw [hdg]; simpa using h1)]
        have hand : bits .and .u64 (q : Int) 1 = 0 := by rw [hand0, show q % 2 = 0 by omega]; rfl
        clear hand0 hdg h1
        go_wp2_with fail
        go_roundw
        case rel => exact ⟨k + 1, by omega, by go_num, by rw [HS.out]; exact HOk, hgk, hC1, hC2, hC3⟩
        case measure => simp [intOf]; omega
    · obtain rfl : k = W := by omega
      obtain ⟨b1, b2, _, _⟩ := cells_two hC3.out
      obtain ⟨d1, d2, f1, f2⟩ := cells_two hC2.out
      go_wp2_with fail
      have hO : Own wr g (l ++ digs n k) := by
        have h := HOk.out
        rw [← HL0.out] at h
        have e := lay_end l (digs n k)
        rw [digs_length] at e
        rw [e] at h
        exact h
      have hNN : N' = nB (l ++ digs n k) := by rw [HN'.out]; unfold nB; rw [hlen0.out]; simp [digs_length]
      refine bodyPost_ret (v := .tuple #[.agg #[.slice (some ⟨g, 0, none⟩) N' N', .int .i64 ((l.length : Int) + k)], .int .i64 0]) (by simp [results, Try.results46, go_sem, d1, d2]) rfl ⟨g, by rw [hNN]; simp [digs_length], (hO.far (by show g ≠ w.heap.size + 1; omega) _).far (by show g ≠ w.heap.size + 1; omega) _, by omega, ?_⟩
      have h0 : Below w.heap.size w w1 := (((Below.refl _ _).alloc (Nat.le_refl _) _).alloc (by simp) _).trans (hb.mono (by simp; omega))
      exact ((h0.grown hgk h0.size (by intro j hj; injection hj with hj; omega)).setCell (by show _ ≤ w.heap.size + 1; omega) _).setCell (by show _ ≤ w.heap.size + 1; omega) _
end Go.Proofs.Ytgljaimoaijcaaa
