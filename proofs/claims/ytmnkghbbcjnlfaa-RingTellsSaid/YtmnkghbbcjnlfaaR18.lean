/- The reference's turns. -/
import Derived.Test.YtmnkghbbcjnlfaaR17
namespace Go.Proofs.Ytmnkghbbcjnlfaa
open Go.RowKit

/-- Words that have been put into a row of one's own. -/
def Words (w : World) (base : Nat) (v : Value) (vs : List Value) (T : List (List Nat)) : Prop := vs.length = T.length ∧ ∀ (j : Nat) (xs : List Nat) (u : Value), vs[j]? = some u → T[j]? = some xs → ∃ ge, v.ownBlock = some ge ∧ WordAt w base ge u xs ∧ ∀ ad n c, u = .slice (some ad) n c → ad.block < w.heap.size
theorem words_push {wr w2 w7 : World} {base k g' n c cap' : Nat} {v : Value} {vs : List Value} {T : List (List Nat)} {D : Option Addr} {xs : List Nat} (ho : wr.ownsRow base 33 1 v k vs) (hv : Words wr base v vs T)
    (hb2 : Below wr.heap.size wr w2) (hD : RdN w2 D xs) (hn : n = xs.length) (hnc : n ≤ c) (hc : c ≤ 9223372036854775807) (hDc : D = none → c = 0) (hDb : ∀ ad, D = some ad → wr.heap.size ≤ ad.block ∧ ad.block < w2.heap.size) (hbase : base ≤ wr.heap.size)
    (hgr7 : (w2.alloc (.cells #[.slice D n c] 33)).grownBy w7 v.ownBlock) (hor : v.ownBlock = some g' ∨ g' = (w2.alloc (.cells #[.slice D n c] 33)).heap.size) :
    Words w7 base (.slice (some ⟨g', 0, none⟩) (k + 1) cap') (vs ++ [.slice D n c]) (T ++ [xs]) := by
  have hlow := ho.lt
  have hor2 : v.ownBlock = some g' ∨ g' = w2.heap.size + 1 := by simpa using hor
  have hsz : w2.heap.size + 1 ≤ w7.heap.size := by have := hgr7.size; simpa using this
  have hz2 := hb2.size
  refine ⟨by simp [hv.1], fun j ys u hj hy => ⟨g', rfl, ?_⟩⟩
  by_cases hjk : j < vs.length
  · rw [List.getElem?_append_left hjk] at hj
    rw [List.getElem?_append_left (by rw [← hv.1]; exact hjk)] at hy
    obtain ⟨ge, hge, ⟨D', d, e1, e2, e3, e4, e5, e6⟩, e7⟩ := hv.2 j ys u hj hy
    refine ⟨⟨D', d, e1, rdN_grown (RdN.below (e2.below hb2) ((Below.refl _ _).alloc (Nat.le_refl _) _)) hgr7 (fun ad ha => by rw [hge]; intro e; injection e with e; exact (e6 ad ha).2 e), e3, e4, e5, fun ad ha => ⟨(e6 ad ha).1, ?_⟩⟩, fun ad n c hu => by have := e7 ad n c hu; omega⟩
    rcases hor2 with h | h
    · rw [hge] at h
      injection h with h
      rw [← h]
      exact (e6 ad ha).2
    · have := e7 ad _ _ (by rw [e1, ha])
      omega
  · have hjm := (List.getElem?_eq_some_iff.1 hj).1
    simp at hjm
    obtain rfl : j = vs.length := by omega
    rw [List.getElem?_append_right (Nat.le_refl _), Nat.sub_self] at hj
    simp at hj
    subst hj
    rw [hv.1, List.getElem?_append_right (Nat.le_refl _), Nat.sub_self] at hy
    simp at hy
    subst hy
    refine ⟨⟨D, c, by rw [hn], rdN_grown (RdN.below hD ((Below.refl _ _).alloc (Nat.le_refl _) _)) hgr7 (fun ad ha e => ?_), by rw [← hn]; exact hnc, hc, hDc, fun ad ha => ⟨Nat.le_trans hbase (hDb ad ha).1, ?_⟩⟩, fun ad n' c' hu => ?_⟩
    · have := (hlow _ e.symm).2
      have := (hDb ad ha).1
      omega
    · have h3 := hDb ad ha
      rcases hor2 with h | h
      · have := (hlow _ h).2
        omega
      · omega
    · injection hu with hu
      have := (hDb ad hu).2
      omega
theorem words_rd {w : World} {base k : Nat} {A : Option Addr} {c : Nat} {vs : List Value} {T : List (List Nat)} (ho : w.ownsRow base 33 1 (.slice A k c) k vs) (hv : Words w base (.slice A k c) vs T) : RdW w A T := by
  intro i xs hi
  have hil := (List.getElem?_eq_some_iff.1 hi).1
  have hvl : vs.length = k := by have := ho.1; omega
  rcases Joins.ownsRow_forms ho with ⟨e, hk⟩ | ⟨g, cap, e⟩
  · rw [hv.1] at hvl
    omega
  · simp only [Value.slice.injEq, true_and] at e
    obtain ⟨rfl, rfl⟩ := e
    obtain ⟨g1, g2, g3, g4, g5⟩ := row_at ho
    have hiv : i < vs.length := by rw [hv.1]; exact hil
    obtain ⟨ge, hge, ⟨D, d, e1, e2, e3, e4, e5, _⟩, _⟩ := hv.2 i xs vs[i] (List.getElem?_eq_getElem hiv) hi
    exact ⟨⟨g, 0, none⟩, D, d, rfl, g2, by rw [add_off, g4 i _ (List.getElem?_eq_getElem hiv), e1], e2, e3, e4, e5⟩

set_option maxHeartbeats 400000 in
theorem mod_any (n : Nat) (k : Int) (w : World) (h0 : 0 < n) (hn : n ≤ 1000000) :
    Calls Try.prog 24 #[.int .i64 k, .int .i64 n] w fun e w' => e = .returned (.int .i64 (offN n k : Nat)) ∧ w = w' := by
  obtain ⟨t1, t2⟩ := tmod_rng k h0
  have ho := off_eq k h0
  obtain ⟨t, ht⟩ : ∃ t, k.tmod (n : Int) = t := ⟨_, rfl⟩
  rw [ht] at ho t1 t2
  have hne : ¬ n = 0 := by omega
  have hneI : ((n : Int) == 0) = false := by simp; omega
  have HO := Lib.hid ho
  generalize offN n k = f at *
  clear ho
  by_cases hneg : t < 0
  · go_enter Try.func24, Try.ntmps24
    go_wp2_with fail
    go_ret
    refine ⟨ret_int ?_, rfl⟩
    rw [← HO.out, Int.emod_eq_of_lt (by omega) (by omega)]
  · have hnn : 0 ≤ t := by omega
    go_enter Try.func24, Try.ntmps24
    go_wp2_with fail
    go_ret
    refine ⟨ret_int ?_, rfl⟩
    rw [← HO.out, Int.add_emod_right, Int.emod_eq_of_lt (by omega) (by omega)]
end Go.Proofs.Ytmnkghbbcjnlfaa
