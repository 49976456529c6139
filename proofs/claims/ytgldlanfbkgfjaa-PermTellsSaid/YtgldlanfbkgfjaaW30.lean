/- Lists that share no memory: each is filled, and asked. -/
import Derived.Test.YtgldlanfbkgfjaaRG
import Derived.Lib.SmallJoins
namespace Go.Proofs.Ytgldlanfbkgfjaa
open Go.RowKit

def tot (cs : Nat → Nat) : Nat → Int
  | 0 => 0
  | k + 1 => tot cs k + (cs k : Int) * ((k : Int) + 1)
theorem wadd (a b : Int) : wrap64 (wrap64 a + wrap64 b) = wrap64 (a + b) := by unfold wrap64; omega
theorem wsub (a b : Int) : wrap64 (wrap64 a - b) = wrap64 (a - b) := by unfold wrap64; omega
/-- Blocks of numbers, some of them filled. -/
structure Fill (w wr : World) (base m k i : Nat) (ad : Addr) (gs ns cs : Nat → Nat) : Prop where
  bel : Below base w wr
  hd : ∀ j, j < m → wr.cell? (ad.add j) = some (.slice (some ⟨gs j, 0, none⟩) (ns j) (cs j))
  bl : ∀ j, j < m → ∃ cur, wr.heap[gs j]? = some (.cells cur 3 (0, 0)) ∧ cur.size = cs j ∧ ∀ q, q < cs j → (j < k ∨ j = k ∧ q < i) → cur[q]? = some (.int .i64 ((j : Int) + 1))
theorem Fill.drew {w wr : World} {base m k i : Nat} {ad : Addr} {gs ns cs : Nat → Nat} (h : Fill w wr base m k i ad gs ns cs) (q : Nat) : Fill w (wr.drewN q) base m k i ad gs ns cs :=
  ⟨below_drewN h.bel q, h.hd, h.bl⟩
theorem Fill.roll {w wr : World} {base m k : Nat} {ad : Addr} {gs ns cs : Nat → Nat} (h : Fill w wr base m k (cs k) ad gs ns cs) : Fill w wr base m (k + 1) 0 ad gs ns cs :=
  ⟨h.bel, h.hd, fun j hj => by
    obtain ⟨cur, a, b, c⟩ := h.bl j hj
    refine ⟨cur, a, b, fun q hq hc => c q hq ?_⟩
    by_cases e : j = k
    · subst e; exact .inr ⟨rfl, hq⟩
    · left; omega⟩
theorem Fill.put {w wr : World} {base m k i : Nat} {ad : Addr} {gs ns cs : Nat → Nat} (h : Fill w wr base m k i ad gs ns cs) (hk : k < m) (hi : i < cs k)
    (hd : ∀ i j, i < m → j < m → i ≠ j → gs i ≠ gs j) (hne : ∀ j, j < m → gs j ≠ ad.block) (hb : ∀ j, j < m → base ≤ gs j) :
    Fill w (wr.setCell ⟨gs k, i, none⟩ (.int .i64 ((k : Int) + 1))) base m k (i + 1) ad gs ns cs := by
  obtain ⟨cur, hc, hs, hq⟩ := h.bl k hk
  refine ⟨h.bel.setCell (hb k hk) _, fun j hj => ?_, fun j hj => ?_⟩
  · rw [← h.hd j hj]
    refine World.cell?_of_block ?_
    rw [block_add]
    exact Below.heap_setCell _ _ _ _ (fun e => hne k hk e.symm)
  · by_cases e : j = k
    · subst e
      refine ⟨cur.setIfInBounds i (.int .i64 ((j : Int) + 1)), Go.Joins.block_setCell hc _, by simpa using hs, fun q hq1 hq2 => ?_⟩
      by_cases e : q = i
      · subst e
        rw [Array.getElem?_setIfInBounds_self]
        rw [if_pos (by omega)]
      · rw [Array.getElem?_setIfInBounds_ne (by omega)]
        exact hq q hq1 (by omega)
    · obtain ⟨cur', hc', hs', hq'⟩ := h.bl j hj
      refine ⟨cur', (Below.heap_setCell _ _ _ _ (fun e2 => hd k j hk hj (fun x => e x.symm) e2.symm)).trans hc', hs', fun q hq1 hq2 => hq' q hq1 (by omega)⟩

set_option maxRecDepth 100000 in
set_option maxHeartbeats 8000000 in
theorem apart_any (ad : Addr) (m cap base : Nat) (gs ns cs : Nat → Nat) (w : World) (hm : m ≤ 1000)
    (hF : ∀ j, j < m → w.cell? (ad.add j) = some (.slice (some ⟨gs j, 0, none⟩) (ns j) (cs j))) (hcs : ∀ j, j < m → cs j ≤ 9223372036854775807) (hbl : ∀ j, j < m → ∃ cur, w.heap[gs j]? = some (.cells cur 3 (0, 0)) ∧ cur.size = cs j)
    (hd : ∀ i j, i < m → j < m → i ≠ j → gs i ≠ gs j) (hne : ∀ j, j < m → gs j ≠ ad.block) (hb : ∀ j, j < m → base ≤ gs j) :
    Calls Try.prog 34 #[.slice (some ad) m cap] w fun e w' => e = .returned (.bool true) ∧ Below base w w' := by
  have hstart : Fill w w base m 0 0 ad gs ns cs := ⟨Below.refl _ _, hF, fun j hj => by
    obtain ⟨cur, a, b⟩ := hbl j hj
    exact ⟨cur, a, b, fun q _ h => by omega⟩⟩
  have HF0 := Lib.hid hstart
  have HCS := Lib.hid hcs
  have HD := Lib.hid hd
  have HNE := Lib.hid hne
  have HBS := Lib.hid hb
  have HT0 : Hid (Value.int .i64 0 = .int .i64 (wrap64 (tot cs 0))) := by show _ = _; simp [tot, wrap64]
  clear hF hcs hbl hd hne hb hstart
  go_enter Try.func34, Try.ntmps34
  go_wp2_with fail
  go_loopw [3, 4] (fun s3 s4 wr => ∃ k : Nat, k ≤ m ∧ s3 = .int .i64 (wrap64 (tot cs k)) ∧ s4 = .int .i64 k ∧ Hid (Fill w wr base m k 0 ad gs ns cs)) (fun _ s4 _ => m - (intOf s4).toNat)
  case atStart => exact ⟨0, Nat.zero_le _, HT0.out, rfl, HF0⟩
  case round =>
    obtain ⟨k, hk, rfl, rfl, hK⟩ := hrel
    by_cases h1 : k < m
    · have t1 : decide ((k : Int) < (m : Int)) = true := by simp; omega
      have hk0 : (0 : Int) ≤ (k : Int) := by omega
      have hk1 : (k : Int) < (m : Nat) := by omega
      have c0 := hK.out.hd k h1
      have hc63 := HCS.out k h1
      obtain ⟨g, hg⟩ : ∃ g, gs k = g := ⟨_, rfl⟩
      obtain ⟨c, hc⟩ : ∃ c, cs k = c := ⟨_, rfl⟩
      have HG := Lib.hid hg
      have HC := Lib.hid hc
      rw [hg, hc] at c0
      rw [hc] at hc63
      clear hg hc
      have hC0 : (0 : Int) ≤ (c : Int) := by omega
      have hC1 : (c : Int) ≤ (c : Int) := by omega
      have HQ := Lib.hid (fun q => hK.out.drew q)
      go_upto_region 5 with fail
      go_quiet (fail)
      rename_i nq
      have HQ2 := Lib.hid (HQ.out nq)
      generalize wr.drewN nq = w4 at HQ2 ⊢
      have hkk : (k : Int) + 1 ≤ 1001 := by omega
      go_wp2_with fail
      clear c0 HQ hK
      go_loopw [6] (fun s6 wq => ∃ i : Nat, i ≤ c ∧ s6 = .int .i64 i ∧ Hid (Fill w wq base m k i ad gs ns cs)) (fun s6 _ => c - (intOf s6).toNat)
      case atStart => exact ⟨0, Nat.zero_le _, rfl, HQ2⟩
      case round =>
        obtain ⟨i, hi, rfl, hI⟩ := hrel
        by_cases h2 : i < c
        · have t2 : decide ((i : Int) < (c : Int)) = true := by simp; omega
          have hi0 : (0 : Int) ≤ (i : Int) := by omega
          have hi1 : (i : Int) < (c : Nat) := by omega
          obtain ⟨cur, hcur, hcs, hcq⟩ := hI.out.bl k h1
          rw [HG.out] at hcur
          rw [HC.out] at hcs
          have hix : i < cur.size := by omega
          have e1 : wr.cell? ⟨g, i, none⟩ = some cur[i] := by rw [cell_of hcur]; exact Array.getElem?_eq_getElem hix
          have e2 : wr.frozen? ⟨g, i, none⟩ = false := free_of hcur i
          have hput := hI.out.put h1 (by rw [HC.out]; exact h2) HD.out HNE.out HBS.out
          rw [HG.out] at hput
          have HP := Lib.hid hput
          generalize cur[i] = old at e1
          clear hput hcur hcs hcq hix
          go_wp2_with fail
          go_roundw
          case rel => exact ⟨i + 1, by omega, by go_num, HP⟩
          case measure => simp [intOf]; omega
        · obtain rfl : i = c := by omega
          have t2 : decide ((i : Int) < (i : Int)) = false := by simp
          have HRL : Hid (Fill w wr base m (k + 1) 0 ad gs ns cs) := by
            refine Fill.roll ?_
            rw [HC.out]
            exact hI.out
          have HTT : Hid (Value.int .i64 (wrap64 (wrap64 (tot cs k) + wrap64 ((i : Int) * ((k : Int) + 1)))) = .int .i64 (wrap64 (tot cs (k + 1)))) := by
            show _ = _
            rw [wadd]
            show _ = Value.int .i64 (wrap64 (tot cs k + (cs k : Int) * ((k : Int) + 1)))
            rw [HC.out]
          go_wp2_with fail
          go_roundw
          case rel => exact ⟨k + 1, by omega, HTT.out, by go_num, HRL⟩
          case measure => simp [intOf]; omega
    · obtain rfl : k = m := by omega
      have t1 : decide ((k : Int) < (k : Int)) = false := by simp
      have HS0 : Hid (Value.int .i64 (wrap64 (tot cs k)) = .int .i64 (wrap64 (tot cs k - tot cs 0))) := by show _ = _; simp [tot]
      go_wp2_with fail
      obtain ⟨wp, rfl⟩ : ∃ wp, wp = wr := ⟨_, rfl⟩
      go_loopw [3, 7] (fun s3 s7 wq => ∃ j : Nat, j ≤ k ∧ s3 = .int .i64 (wrap64 (tot cs k - tot cs j)) ∧ s7 = .int .i64 j ∧ Hid (Fill w wq base k k 0 ad gs ns cs)) (fun _ s7 _ => k - (intOf s7).toNat)
      case atStart => exact ⟨0, Nat.zero_le _, HS0.out, rfl, hK⟩
      case round =>
        obtain ⟨j, hj, rfl, rfl, hJ⟩ := hrel
        by_cases h3 : j < k
        · have t3 : decide ((j : Int) < (k : Int)) = true := by simp; omega
          have hj0 : (0 : Int) ≤ (j : Int) := by omega
          have hj1 : (j : Int) < (k : Nat) := by omega
          have c0 := hJ.out.hd j h3
          have hc63 := HCS.out j h3
          obtain ⟨g, hg⟩ : ∃ g, gs j = g := ⟨_, rfl⟩
          obtain ⟨c, hc⟩ : ∃ c, cs j = c := ⟨_, rfl⟩
          have HG := Lib.hid hg
          have HC := Lib.hid hc
          rw [hg, hc] at c0
          rw [hc] at hc63
          clear hg hc
          have hC0 : (0 : Int) ≤ (c : Int) := by omega
          have hC1 : (c : Int) ≤ (c : Int) := by omega
          have HQ := Lib.hid (fun q => hJ.out.drew q)
          have HS1 : Hid (Value.int .i64 (wrap64 (tot cs k - tot cs j)) = .int .i64 (wrap64 (tot cs k - tot cs j - ((0 : Nat) : Int) * ((j : Int) + 1)))) := by show _ = _; simp
          go_upto_region 14 with fail
          go_quiet (fail)
          rename_i nq
          have HQ2 := Lib.hid (HQ.out nq)
          generalize wr.drewN nq = w4 at HQ2 ⊢
          have hkk : (j : Int) + 1 ≤ 1001 := by omega
          have hne2 : ((j : Int) + 1 != (j : Int) + 1) = false := by simp
          go_wp2_with fail
          clear c0 HQ hJ
          go_loopw [3, 9] (fun s3 s9 wq => ∃ i : Nat, i ≤ c ∧ s3 = .int .i64 (wrap64 (tot cs k - tot cs j - (i : Int) * ((j : Int) + 1))) ∧ s9 = .int .i64 i ∧ Hid (Fill w wq base k k 0 ad gs ns cs)) (fun _ s9 _ => c - (intOf s9).toNat)
          case atStart => exact ⟨0, Nat.zero_le _, HS1.out, rfl, HQ2⟩
          case round =>
            obtain ⟨i, hi, rfl, rfl, hI⟩ := hrel
            by_cases h2 : i < c
            · have t2 : decide ((i : Int) < (c : Int)) = true := by simp; omega
              have hi0 : (0 : Int) ≤ (i : Int) := by omega
              have hi1 : (i : Int) < (c : Nat) := by omega
              obtain ⟨cur, hcur, hcs, hcq⟩ := hI.out.bl j h3
              rw [HG.out] at hcur
              rw [HC.out] at hcs hcq
              have e1 : wr.cell? ⟨g, i, none⟩ = some (.int .i64 ((j : Int) + 1)) := by rw [cell_of hcur]; exact hcq i h2 (.inl h3)
              have HTT : Hid (Value.int .i64 (wrap64 (wrap64 (tot cs k - tot cs j - (i : Int) * ((j : Int) + 1)) - ((j : Int) + 1))) = .int .i64 (wrap64 (tot cs k - tot cs j - ((i + 1 : Nat) : Int) * ((j : Int) + 1)))) := by
                show _ = _
                rw [wsub, Int.natCast_add, Int.add_mul]
                congr 2
                omega
              clear hcur hcs hcq
              go_wp2_with fail
              go_roundw
              case rel => exact ⟨i + 1, by omega, HTT.out, by go_num, hI⟩
              case measure => simp [intOf]; omega
            · obtain rfl : i = c := by omega
              have t2 : decide ((i : Int) < (i : Int)) = false := by simp
              have HTT : Hid (Value.int .i64 (wrap64 (tot cs k - tot cs j - (i : Int) * ((j : Int) + 1))) = .int .i64 (wrap64 (tot cs k - tot cs (j + 1)))) := by
                show _ = Value.int .i64 (wrap64 (tot cs k - (tot cs j + (cs j : Int) * ((j : Int) + 1))))
                rw [HC.out]
                congr 2
                omega
              go_wp2_with fail
              go_roundw
              case rel => exact ⟨j + 1, by omega, HTT.out, by go_num, hI⟩
              case measure => simp [intOf]; omega
        · obtain rfl : j = k := by omega
          have t3 : decide ((j : Int) < (j : Int)) = false := by simp
          have HZ0 : Hid (wrap64 0 = 0) := by show _ = _; simp [wrap64]
          go_wp2_with fail
          go_ret
          exact ⟨by simp [HZ0.out], hJ.out.bel⟩
end Go.Proofs.Ytgldlanfbkgfjaa
