/- Do lists of bytes lie apart? Each is filled, and all are asked. -/
import Derived.Test.YtgljaimoaijcaaaOwn
namespace Go.Proofs.Ytgljaimoaijcaaa
open Go.RowKit

/-- The lists: block and length. The first i are filled, of the next one j cells. -/
def Lists (w : World) (ls : List (Nat × Nat)) (i j : Nat) : Prop := ∀ k g N, ls[k]? = some (g, N) → ∃ cs : Array Value, w.heap[g]? = some (.cells cs 5 (0, 0)) ∧ cs.size = N ∧
  (k < i → ∀ q, q < N → cs[q]? = some (.int .u8 (k : Nat))) ∧ (k = i → ∀ q, q < j → q < N → cs[q]? = some (.int .u8 (k : Nat)))
def Heads (w : World) (B : Nat) (ls : List (Nat × Nat)) : Prop := ∀ k g N, ls[k]? = some (g, N) → w.cell? ⟨B, k, none⟩ = some (.slice (some ⟨g, 0, none⟩) N N)
/-- No block is met twice, none is the row's own or below the base. -/
def Alone (base B : Nat) (ls : List (Nat × Nat)) : Prop := (∀ (k k' g N N' : Nat), ls[k]? = some (g, N) → ls[k']? = some (g, N') → k = k') ∧ ∀ (k g N : Nat), ls[k]? = some (g, N) → base ≤ g ∧ g ≠ B ∧ N ≤ 1000000

theorem below_drewN {n : Nat} {a w : World} (h : Below n a w) (k : Nat) : Below n a (w.drewN k) := ⟨h.1, h.2, h.3, h.4, h.5⟩
theorem Lists.drew {w : World} {ls : List (Nat × Nat)} {i j : Nat} (h : Lists w ls i j) : Lists w.drew ls i j := h
theorem Heads.drew {w : World} {ls : List (Nat × Nat)} {B : Nat} (h : Heads w B ls) : Heads w.drew B ls := h
theorem Lists.next {w : World} {ls : List (Nat × Nat)} {i g N : Nat} (h : Lists w ls i N) (hi : ls[i]? = some (g, N)) : Lists w ls (i + 1) 0 := by
  intro k g' N' hk
  obtain ⟨cs, hb, hs, h1, h2⟩ := h k g' N' hk
  refine ⟨cs, hb, hs, fun hlt q hq => ?_, fun _ q hq => absurd hq (by omega)⟩
  by_cases hki : k = i
  · subst hki
    have hN : N' = N := by rw [hi] at hk; injection hk with hk; injection hk with _ hk; exact hk.symm
    exact h2 rfl q (by omega) hq
  · exact h1 (by omega) q hq
theorem Lists.store {w : World} {ls : List (Nat × Nat)} {i j g N base B : Nat} (h : Lists w ls i j) (ha : Alone base B ls) (hi : ls[i]? = some (g, N)) : Lists (w.setCell ⟨g, j, none⟩ (.int .u8 (i : Nat))) ls i (j + 1) := by
  intro k g' N' hk
  obtain ⟨cs, hb, hs, h1, h2⟩ := h k g' N' hk
  by_cases hki : k = i
  · subst hki
    have hg : g' = g ∧ N' = N := by rw [hi] at hk; injection hk with hk; injection hk with h1 h2; exact ⟨h1.symm, h2.symm⟩
    obtain ⟨rfl, rfl⟩ := hg
    refine ⟨cs.setIfInBounds j (.int .u8 (k : Nat)), ?_, by simpa using hs, fun hlt => absurd hlt (by omega), fun _ q hq hqN => ?_⟩
    · show _ = _
      simp [World.setCell, Array.getElem?_modify, hb]
    · by_cases hqj : q = j
      · subst hqj
        rw [Array.getElem?_setIfInBounds_self_of_lt (by omega)]
      · rw [Array.getElem?_setIfInBounds_ne (fun e => hqj e.symm)]
        exact h2 rfl q (by omega) hqN
  · have hne : g' ≠ g := fun e => by subst e; exact hki (ha.1 _ _ _ _ _ hk hi)
    refine ⟨cs, (Below.heap_setCell w ⟨g, j, none⟩ _ g' hne).trans hb, hs, h1, fun e => absurd e hki⟩
theorem Heads.store {w : World} {ls : List (Nat × Nat)} {i g N base B : Nat} {q : Nat} {u : Value} (h : Heads w B ls) (ha : Alone base B ls) (hi : ls[i]? = some (g, N)) : Heads (w.setCell ⟨g, q, none⟩ u) B ls := by
  intro k g' N' hk
  have hne : B ≠ g := fun e => (ha.2 _ _ _ hi).2.1 e.symm
  exact (World.cell?_of_block (Below.heap_setCell w ⟨g, q, none⟩ u B hne)).trans (h k g' N' hk)

set_option maxHeartbeats 1000000 in
theorem apart_any (base B K cap : Nat) (ls : List (Nat × Nat)) (w : World) (hK : K = ls.length) (hK2 : ls.length ≤ 256) (hL : Lists w ls 0 0) (hH : Heads w B ls) (hA : Alone base B ls) :
    Calls Try.prog 39 #[.slice (some ⟨B, 0, none⟩) K cap] w fun e w' => e = .returned (.bool true) ∧ Below base w w' := by
  have HL := Lib.hid hL
  have HH := Lib.hid hH
  have HA := Lib.hid hA
  have HK := Lib.hid hK
  rw [← hK] at hK2
  clear hL hH hA hK
  go_enter Try.func39, Try.ntmps39
  go_wp2_with fail
  go_loopw [3] (fun i wr => ∃ k : Nat, k ≤ K ∧ i = .int .i64 k ∧ Hid (Lists wr ls k 0) ∧ Hid (Heads wr B ls) ∧ Hid (Below base w wr)) (fun i _ => K - (intOf i).toNat)
  case atStart => exact ⟨0, Nat.zero_le _, rfl, HL, HH, Lib.hid (Below.refl _ _)⟩
  case round =>
    obtain ⟨k, hk, rfl, hLk, hHk, hBk⟩ := hrel
    by_cases hlt : k < K
    · obtain ⟨g, N, hgN⟩ : ∃ g N, ls[k]? = some (g, N) := ⟨_, _, List.getElem?_eq_getElem (by rw [← HK.out]; exact hlt)⟩
      have HG := Lib.hid hgN
      have c1 := hHk.out k g N hgN
      have hN := (HA.out.2 k g N hgN).2.2
      clear hgN
      go_upto_region 4 with fail
      go_quiet (fail)
      go_wp2_with fail
      obtain ⟨wo, hwo⟩ : ∃ wo : World, wo = wr := ⟨_, rfl⟩
      rw [← hwo]
      have hLo : Hid (Lists (wo.drewN nq) ls k 0) := by rw [hwo]; exact hLk
      have hHo : Hid (Heads (wo.drewN nq) B ls) := by rw [hwo]; exact hHk
      have hBo : Hid (Below base w (wo.drewN nq)) := by rw [hwo]; exact below_drewN hBk.out nq
      clear hLk hHk hBk hwo c1
      go_loopw [5] (fun i wr => ∃ j : Nat, j ≤ N ∧ i = .int .i64 j ∧ Hid (Lists wr ls k j) ∧ Hid (Heads wr B ls) ∧ Hid (Below base w wr)) (fun i _ => N - (intOf i).toNat)
      case atStart => exact ⟨0, Nat.zero_le _, rfl, hLo, hHo, hBo⟩
      case round =>
        obtain ⟨j, hj, rfl, hLj, hHj, hBj⟩ := hrel
        by_cases hjl : j < N
        · obtain ⟨cs, hb, hs, _, _⟩ := hLj.out k g N HG.out
          obtain ⟨u, hu⟩ : ∃ u, cs[j]? = some u := ⟨_, Array.getElem?_eq_getElem (by omega)⟩
          have c2 : wr.cell? ⟨g, j, none⟩ = some u := by rw [cell_of hb]; exact hu
          have c3 := free_of hb j
          have hst := Lib.hid (hLj.out.store HA.out HG.out)
          have hsth := Lib.hid (hHj.out.store (q := j) (u := .int .u8 (k : Nat)) HA.out HG.out)
          have hstb := Lib.hid (hBj.out.setCell (p := ⟨g, j, none⟩) (HA.out.2 k g N HG.out).1 (.int .u8 (k : Nat)))
          clear hb hs hu
          go_wp2_with fail
          go_roundw
          case rel => exact ⟨j + 1, by omega, by go_num, hst, hsth, hstb⟩
          case measure => simp [intOf]; omega
        · obtain rfl : j = N := by omega
          go_wp2_with fail
          go_roundw
          case rel => exact ⟨k + 1, by omega, by go_num, Lib.hid (hLj.out.next HG.out), hHj, hBj⟩
          case measure => simp [intOf]; omega
    · obtain rfl : k = K := by omega
      obtain ⟨wo, hwo⟩ : ∃ wo : World, wo = wr := ⟨_, rfl⟩
      rw [← hwo]
      have hLo : Hid (Lists wo ls k 0) := by rw [hwo]; exact hLk
      have hHo : Hid (Heads wo B ls) := by rw [hwo]; exact hHk
      have hBo : Hid (Below base w wo) := by rw [hwo]; exact hBk
      clear hLk hHk hBk hwo
      go_wp2_with fail
      go_loopw [6] (fun i wr => ∃ m : Nat, m ≤ k ∧ i = .int .i64 m ∧ Hid (Lists wr ls k 0) ∧ Hid (Heads wr B ls) ∧ Hid (Below base w wr)) (fun i _ => k - (intOf i).toNat)
      case atStart => exact ⟨0, Nat.zero_le _, rfl, hLo, hHo, hBo⟩
      case round =>
        clear hLo hHo hBo
        obtain ⟨m, hm, rfl, hLk, hHk, hBk⟩ := hrel
        by_cases hmk : m < k
        · obtain ⟨g, N, hgN⟩ : ∃ g N, ls[m]? = some (g, N) := ⟨_, _, List.getElem?_eq_getElem (by rw [← HK.out]; exact hmk)⟩
          have HG := Lib.hid hgN
          have c1 := hHk.out m g N hgN
          have hN := (HA.out.2 m g N hgN).2.2
          clear hgN
          go_upto_region 12 with fail
          go_quiet (fail)
          go_wp2_with fail
          obtain ⟨wp, hwp⟩ : ∃ wp : World, wp = wr := ⟨_, rfl⟩
          rw [← hwp]
          have hLp : Hid (Lists (wp.drewN nq) ls k 0) := by rw [hwp]; exact hLk
          have hHp : Hid (Heads (wp.drewN nq) B ls) := by rw [hwp]; exact hHk
          have hBp : Hid (Below base w (wp.drewN nq)) := by rw [hwp]; exact below_drewN hBk.out nq
          clear hLk hHk hBk hwp c1
          go_loopw [8] (fun i wr => ∃ j : Nat, j ≤ N ∧ i = .int .i64 j ∧ Hid (Lists wr ls k 0) ∧ Hid (Heads wr B ls) ∧ Hid (Below base w wr)) (fun i _ => N - (intOf i).toNat)
          case atStart => exact ⟨0, Nat.zero_le _, rfl, hLp, hHp, hBp⟩
          case round =>
            clear hLp hHp hBp
            obtain ⟨j, hj, rfl, hLp, hHp, hBp⟩ := hrel
            by_cases hjl : j < N
            · obtain ⟨cs, hb, hs, hv, _⟩ := hLp.out m g N HG.out
              have c2 : wr.cell? ⟨g, j, none⟩ = some (.int .u8 (m : Nat)) := by rw [cell_of hb]; exact hv hmk j hjl
              clear hb hs hv
              go_wp2_with fail
              go_roundw
              case rel => exact ⟨j + 1, by omega, by go_num, hLp, hHp, hBp⟩
              case measure => simp [intOf]; omega
            · obtain rfl : j = N := by omega
              go_wp2_with fail
              go_roundw
              case rel => exact ⟨m + 1, by omega, by go_num, hLp, hHp, hBp⟩
              case measure => simp [intOf]; omega
        · obtain rfl : m = k := by omega
          go_wp2_with fail
          go_ret
          exact ⟨by show Ending.returned (.bool (decide ((m : Int) ≤ 256))) = _; rw [decide_eq_true (by omega)], hBk.out⟩
end Go.Proofs.Ytgljaimoaijcaaa
