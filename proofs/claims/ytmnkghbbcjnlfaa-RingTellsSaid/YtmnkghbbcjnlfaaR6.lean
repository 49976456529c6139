/- Are two lists the same? -/
import Derived.Test.YtmnkghbbcjnlfaaR5
namespace Go.Proofs.Ytmnkghbbcjnlfaa
open Go.RowKit

/-- Numbers that stand in a row. -/
def RdI (w : World) (A : Option Addr) (l : List Nat) : Prop := ∀ (j x : Nat), l[j]? = some x → ∃ ad, A = some ad ∧ ad.block < w.heap.size ∧ w.cell? (ad.add j) = some (iv x)
theorem RdI.below {w w' : World} {A : Option Addr} {xs : List Nat} (h : RdI w A xs) (hb : Below w.heap.size w w') : RdI w' A xs := fun q x hq => by
  obtain ⟨ad, e, hl, hc⟩ := h q x hq
  exact ⟨ad, e, Nat.lt_of_lt_of_le hl hb.size, (hb.cell (by rw [block_add]; exact hl)).trans hc⟩
theorem same_take {α : Type} [DecidableEq α] {L M : List α} (h : L.length = M.length) (hk : ∀ q, q < L.length → L[q]? = M[q]?) : L = M := by
  apply List.ext_getElem?
  intro q
  by_cases hq : q < L.length
  · exact hk q hq
  · rw [List.getElem?_eq_none (by omega), List.getElem?_eq_none (by omega)]

set_option maxHeartbeats 1000000 in
theorem sameInts_any (A B : Option Addr) (c d n m : Nat) (L M : List Nat) (w : World) (hl : RdI w A L) (hm : RdI w B M) (hL : n ≤ 1000000) (hn : n = L.length) (hmm : m = M.length) :
    Calls Try.prog 18 #[.slice A n c, .slice B m d] w fun e w' => e = .returned (.bool (decide (L = M))) ∧ Below w.heap.size w w' := by
  have HL := Lib.hid hl
  have HM := Lib.hid hm
  have HN := Lib.hid hn
  have HMM := Lib.hid hmm
  by_cases hnm : n = m
  · have hd : ((n : Int) == (m : Nat)) = true := by simp [hnm]
    have HE : Hid (L.length = M.length) := show _ = _ by rw [← hn, ← hmm]; exact hnm
    subst hnm
    clear hl hm hn hmm hd
    obtain ⟨r, hr⟩ : ∃ r, decide (L = M) = r := ⟨_, rfl⟩
    have HR := Lib.hid hr
    rw [hr]
    clear hr
    go_enter Try.func18, Try.ntmps18
    go_wp2_with fail
    go_loopw [13] (fun s wr => ∃ k : Nat, k ≤ n ∧ s = .int .i64 k ∧ Hid (∀ q, q < k → L[q]? = M[q]?) ∧ Hid (Below w.heap.size w wr)) (fun s _ => n - (intOf s).toNat)
    case atStart => exact ⟨0, Nat.zero_le _, rfl, fun q h => absurd h (by omega), Lib.hid (Below.refl _ _)⟩
    case round =>
      obtain ⟨k, hk, rfl, hK, hbel⟩ := hrel
      by_cases hlt : k < n
      · obtain ⟨x, hx⟩ : ∃ x, L[k]? = some x := ⟨_, List.getElem?_eq_getElem (by rw [← HN.out]; exact hlt)⟩
        obtain ⟨y, hy⟩ : ∃ y, M[k]? = some y := ⟨_, List.getElem?_eq_getElem (by rw [← HMM.out]; exact hlt)⟩
        obtain ⟨ad, rfl, _, c1⟩ := (HL.out.below hbel.out) k x hx
        obtain ⟨bd, rfl, _, c2⟩ := (HM.out.below hbel.out) k y hy
        have HX := Lib.hid hx
        have HY := Lib.hid hy
        have hI0 : (0 : Int) ≤ (k : Int) := by omega
        have hI1 : (k : Int) < (n : Nat) := by omega
        have HBQ := Lib.hid (fun q : Nat => below_drewN hbel.out q)
        clear hx hy
        by_cases hxy : x = y
        · subst hxy
          go_upto_region 6 with fail
          go_quiet (fail)
          go_wp2_with fail
          go_roundw
          case rel =>
            refine ⟨k + 1, by omega, by go_num, fun q hq => ?_, Lib.hid (HBQ.out _)⟩
            by_cases hqk : q = k
            · subst hqk; rw [HX.out, HY.out]
            · exact hK.out q (by omega)
          case measure => simp [intOf]; omega
        · have hb : ((x : Int) == (y : Nat)) = false := by simp; omega
          go_upto_region 6 with fail
          go_quiet (fail)
          go_wp2_with fail
          go_ret
          refine ⟨?_, HBQ.out _⟩
          have hdec : decide (L = M) = false := decide_eq_false (fun e => hxy (by have h1 := HX.out; rw [e, HY.out] at h1; exact (Option.some.inj h1).symm))
          rw [← HR.out, hdec]
          rfl
      · obtain rfl : k = n := by omega
        go_wp2_with fail
        go_ret
        refine ⟨?_, hbel.out⟩
        rw [← HR.out, decide_eq_true (same_take HE.out (fun q hq => hK.out q (by rw [HN.out]; exact hq)))]
        rfl
  · have hd : ((n : Int) == (m : Nat)) = false := by simp; omega
    have he : Hid (decide (L = M) = false) := by
      show _ = _
      have : ¬ L = M := fun h => hnm (by rw [hn, hmm, h])
      simp [this]
    clear hl hm hn hmm
    go_enter Try.func18, Try.ntmps18
    go_wp2_with fail
    go_ret
    rw [he.out]
    exact ⟨rfl, Below.refl _ _⟩

set_option maxHeartbeats 1000000 in
theorem same_any (A B : Option Addr) (c d n m : Nat) (L M : List (List Nat)) (w : World) (hl : RdW w A L) (hm : RdW w B M) (ol : OkW L) (om : OkW M) (hL : n ≤ 1000000) (hn : n = L.length) (hmm : m = M.length) :
    Calls Try.prog 11 #[.slice A n c, .slice B m d] w fun e w' => e = .returned (.bool (decide (L = M))) ∧ Below w.heap.size w w' := by
  have HL := Lib.hid hl
  have HM := Lib.hid hm
  have HN := Lib.hid hn
  have HMM := Lib.hid hmm
  by_cases hnm : n = m
  · have HE : Hid (L.length = M.length) := show _ = _ by rw [← hn, ← hmm]; exact hnm
    subst hnm
    clear hl hm hn hmm
    obtain ⟨r, hr⟩ : ∃ r, decide (L = M) = r := ⟨_, rfl⟩
    have HR := Lib.hid hr
    rw [hr]
    clear hr
    go_enter Try.func11, Try.ntmps11
    go_wp2_with fail
    go_loopw [13] (fun s wr => ∃ k : Nat, k ≤ n ∧ s = .int .i64 k ∧ Hid (∀ q, q < k → L[q]? = M[q]?) ∧ Hid (Below w.heap.size w wr)) (fun s _ => n - (intOf s).toNat)
    case atStart => exact ⟨0, Nat.zero_le _, rfl, fun q h => absurd h (by omega), Lib.hid (Below.refl _ _)⟩
    case round =>
      obtain ⟨k, hk, rfl, hK, hbel⟩ := hrel
      by_cases hlt : k < n
      · obtain ⟨x, hx⟩ : ∃ x, L[k]? = some x := ⟨_, List.getElem?_eq_getElem (by rw [← HN.out]; exact hlt)⟩
        obtain ⟨y, hy⟩ : ∃ y, M[k]? = some y := ⟨_, List.getElem?_eq_getElem (by rw [← HMM.out]; exact hlt)⟩
        obtain ⟨ad, X, x2, rfl, _, c1, rx, _⟩ := (HL.out.below hbel.out) k x hx
        obtain ⟨bd, Y, y2, rfl, _, c2, ry, _⟩ := (HM.out.below hbel.out) k y hy
        have hv1 := conv_rd (P := Try.prog) wr.drew 33 5 Try.underlying33 Try.underlying5 X x2 x.length x rfl rx 9 Try.underlying9
        have hv2 := conv_rd (P := Try.prog) wr.drew 33 5 Try.underlying33 Try.underlying5 Y y2 y.length y rfl ry 9 Try.underlying9
        have hb := strN_beq (ol _ (List.mem_of_getElem? hx)) (om _ (List.mem_of_getElem? hy))
        have HX := Lib.hid hx
        have HY := Lib.hid hy
        have hI0 : (0 : Int) ≤ (k : Int) := by omega
        have hI1 : (k : Int) < (n : Nat) := by omega
        have HBQ := Lib.hid (fun q : Nat => below_drewN hbel.out q)
        have HBD := Lib.hid hbel.out.drew
        clear hx hy rx ry
        by_cases hxy : x = y
        · subst hxy
          rw [decide_eq_true rfl] at hb
          generalize strN x = S at *
          go_upto_region 6 with fail
          go_region
          all_goals
            go_wp2_with fail
            go_roundw
            case rel =>
              refine ⟨k + 1, by omega, by go_num, fun q hq => ?_, HBD⟩
              by_cases hqk : q = k
              · subst hqk; rw [HX.out, HY.out]
              · exact hK.out q (by omega)
            case measure => simp [intOf]; omega
        · rw [decide_eq_false hxy] at hb
          generalize strN x = S at *
          generalize strN y = S2 at *
          go_upto_region 6 with fail
          go_region
          all_goals
            go_wp2_with fail
            go_ret
            refine ⟨?_, HBD.out⟩
            have hdec : decide (L = M) = false := decide_eq_false (fun e => hxy (by have h1 := HX.out; rw [e, HY.out] at h1; exact (Option.some.inj h1).symm))
            rw [← HR.out, hdec]
            rfl
      · obtain rfl : k = n := by omega
        go_wp2_with fail
        go_ret
        refine ⟨?_, hbel.out⟩
        rw [← HR.out, decide_eq_true (same_take HE.out (fun q hq => hK.out q (by rw [HN.out]; exact hq)))]
        rfl
  · have hd : ((n : Int) == (m : Nat)) = false := by simp; omega
    have he : Hid (decide (L = M) = false) := by
      show _ = _
      have : ¬ L = M := fun h => hnm (by rw [hn, hmm, h])
      simp [this]
    clear hl hm hn hmm
    go_enter Try.func11, Try.ntmps11
    go_wp2_with fail
    go_ret
    rw [he.out]
    exact ⟨rfl, Below.refl _ _⟩
end Go.Proofs.Ytmnkghbbcjnlfaa
