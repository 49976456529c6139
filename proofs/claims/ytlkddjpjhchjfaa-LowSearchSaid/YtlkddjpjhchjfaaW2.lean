/- Is a graph right? -/
import Derived.Test.YtlkddjpjhchjfaaW1
namespace Go.Proofs.Ytlkddjpjhchjfaa
set_option maxRecDepth 100000
open Go.RowKit

def edgeG (N : Int) (e : Int × Int) : Bool := decide (0 ≤ e.1 ∧ e.1 < e.2 ∧ e.2 < N)
/-- Is the k-th edge as it must be, and behind the one ahead of it? -/
def okE (N : Int) (E : List (Int × Int)) (k : Nat) : Bool := edgeG N (E.getD k (0, 0)) && (k == 0 || decide (cmpP (E.getD (k - 1) (0, 0)) (E.getD k (0, 0)) < 0))
def rightG (N : Int) (E : List (Int × Int)) : Bool := decide (0 ≤ N ∧ N ≤ 200 ∧ E.length ≤ 594) && (List.range E.length).all (okE N E)
theorem rightG_no {N : Int} {E : List (Int × Int)} {k : Nat} (hk : k < E.length) (h : okE N E k = false) : rightG N E = false := by
  have : (List.range E.length).all (okE N E) = false := by
    rw [List.all_eq_false]
    exact ⟨k, List.mem_range.2 hk, by simp [h]⟩
  simp [rightG, this]
theorem rightG_yes {N : Int} {E : List (Int × Int)} (h1 : 0 ≤ N ∧ N ≤ 200 ∧ E.length ≤ 594) (h : ∀ k, k < E.length → okE N E k = true) : rightG N E = true := by
  have : (List.range E.length).all (okE N E) = true := by
    rw [List.all_eq_true]
    exact fun k hk => h k (List.mem_range.1 hk)
  simp [rightG, this, h1]

set_option maxHeartbeats 4000000 in
theorem right_any (A : Option Addr) (c n : Nat) (N : Int) (E : List (Int × Int)) (w : World) (hr : RdP w A E) (hn : n = E.length) :
    Calls Try.prog 44 #[.agg #[.int .i64 N, .slice A n c]] w fun e w' => e = .returned (.bool (rightG N E)) ∧ Below w.heap.size w w' := by
  have hb0 : Below w.heap.size w (w.alloc (.cells #[.int .i64 N, .slice A n c] 24)) := (Below.refl _ _).alloc (Nat.le_refl _) _
  by_cases h1 : N < 0
  · have hf : Hid (rightG N E = false) := by show _ = _; simp [rightG]; omega
    have d1 : decide (N < 0) = true := by simpa using h1
    clear hr hn
    go_enter Try.func44, Try.ntmps44
    go_wp2_with fail
    go_ret
    rw [hf.out]
    exact ⟨rfl, hb0⟩
  by_cases h2 : 200 < N
  · have hf : Hid (rightG N E = false) := by show _ = _; simp [rightG]; omega
    have d1 : decide (N < 0) = false := by simpa using h1
    have d2 : decide (200 < N) = true := by simpa using h2
    clear hr hn
    go_enter Try.func44, Try.ntmps44
    go_wp2_with fail
    go_ret
    rw [hf.out]
    exact ⟨rfl, hb0⟩
  by_cases h3 : 594 < n
  · have hf : Hid (rightG N E = false) := by show _ = _; simp [rightG]; omega
    have d1 : decide (N < 0) = false := by simpa using h1
    have d2 : decide (200 < N) = false := by simpa using h2
    have d3 : decide ((594 : Int) < (n : Int)) = true := by simp; omega
    clear hr hn
    go_enter Try.func44, Try.ntmps44
    go_wp2_with fail
    go_ret
    rw [hf.out]
    exact ⟨rfl, hb0⟩
  have d1 : decide (N < 0) = false := by simpa using h1
  have d2 : decide (200 < N) = false := by simpa using h2
  have d3 : decide ((594 : Int) < (n : Int)) = false := by simp; omega
  have HR := Lib.hid (hr.below hb0)
  have HN := Lib.hid hn
  have HL : Hid (0 ≤ N ∧ N ≤ 200 ∧ E.length ≤ 594) := by show _ ∧ _ ∧ _; omega
  have hn6 : n ≤ 594 := by omega
  have HB := Lib.hid hb0
  clear hr hn h1 h2 h3 hb0
  obtain ⟨W, hW⟩ : ∃ W, W = w.alloc (.cells #[.int .i64 N, .slice A n c] 24) := ⟨_, rfl⟩
  rw [← hW] at HR HB
  have HWS : Hid (w.heap.size < W.heap.size) := by show _ < _; rw [hW]; simp
  obtain ⟨i0, i1, _, _⟩ := cells_two (w := W) (by rw [hW]; exact heap_alloc_new w _)
  have HW := Lib.hid hW
  clear hW
  go_enter Try.func44, Try.ntmps44
  go_wp2_with fail
  rw [← HW.out]
  go_loopw [22] (fun s wr => ∃ k : Nat, k ≤ n ∧ s = .int .i64 k ∧ Hid (∀ q, q < k → okE N E q = true) ∧ Hid (Below W.heap.size W wr)) (fun s _ => n - (intOf s).toNat)
  case atStart => exact ⟨0, Nat.zero_le _, rfl, fun q h => absurd h (by omega), Lib.hid (Below.refl _ _)⟩
  case round =>
    obtain ⟨k, hk, rfl, hK, hbel⟩ := hrel
    by_cases hlt : k < n
    · obtain ⟨e, he⟩ : ∃ e, E[k]? = some e := ⟨_, List.getElem?_eq_getElem (by rw [← HN.out]; exact hlt)⟩
      have HE : Hid (E.getD k (0, 0) = e) := by show _ = _; simp [List.getD, he]
      obtain ⟨ad, rfl, hal, c1, c2⟩ := (HR.out.below hbel.out) k e he
      obtain ⟨e0, e1⟩ := e
      have hI0 : (0 : Int) ≤ (k : Int) := by omega
      have hI1 : (k : Int) < (n : Nat) := by omega
      obtain ⟨ho, _⟩ := old_cells hbel.out
      have j0 : wr.cell? ⟨w.heap.size, 0, none⟩ = some (.int .i64 N) := by rw [ho _ _ HWS.out]; exact i0
      have j1 : wr.cell? ⟨w.heap.size, 1, none⟩ = some (.slice (some ad) n c) := by rw [ho _ _ HWS.out]; exact i1
      have hwr : w.heap.size < wr.heap.size := Nat.lt_of_lt_of_le HWS.out hbel.out.size
      clear ho
      have hno : okE N E k = false → rightG N E = false := fun h => rightG_no (by rw [← HN.out]; exact hlt) h
      have HNO := Lib.hid hno
      clear hno
      have HBA : Hid (∀ o, Below w.heap.size w (wr.alloc o)) := fun o => HB.out.trans ((hbel.out.alloc hbel.out.size o).mono (Nat.le_of_lt HWS.out))
      by_cases q1 : e0 < 0
      · have d4 : decide (e0 < 0) = true := by simpa using q1
        have hk0 : okE N E k = false := by unfold okE; rw [HE.out]; simp [edgeG]; omega
        have HF := Lib.hid (HNO.out hk0)
        clear hk0
        go_wp2_with fail
        go_ret
        rw [HF.out]
        exact ⟨rfl, HBA.out _⟩
      by_cases q2 : e1 ≤ e0
      · have d4 : decide (e0 < 0) = false := by simpa using q1
        have d5 : decide (e1 ≤ e0) = true := by simpa using q2
        have hk0 : okE N E k = false := by unfold okE; rw [HE.out]; simp [edgeG]; omega
        have HF := Lib.hid (HNO.out hk0)
        clear hk0
        go_wp2_with fail
        go_ret
        rw [HF.out]
        exact ⟨rfl, HBA.out _⟩
      by_cases q3 : N ≤ e1
      · have d4 : decide (e0 < 0) = false := by simpa using q1
        have d5 : decide (e1 ≤ e0) = false := by simpa using q2
        have d6 : decide (N ≤ e1) = true := by simpa using q3
        have hk0 : okE N E k = false := by unfold okE; rw [HE.out]; simp [edgeG]; omega
        have HF := Lib.hid (HNO.out hk0)
        clear hk0
        go_wp2_with fail
        go_ret
        rw [HF.out]
        exact ⟨rfl, HBA.out _⟩
      have d4 : decide (e0 < 0) = false := by simpa using q1
      have d5 : decide (e1 ≤ e0) = false := by simpa using q2
      have d6 : decide (N ≤ e1) = false := by simpa using q3
      have HEG : Hid (edgeG N (e0, e1) = true) := by show _ = _; simp [edgeG]; omega
      clear q1 q2 q3
      by_cases hk0 : k = 0
      · subst hk0
        simp only [Nat.zero_mul, add_none] at c1 c2
        go_upto_region 8 with fail
        go_quiet (fail)
        go_wp2_with fail
        go_roundw
        case rel =>
          refine ⟨1, by omega, by go_num, fun q hq => ?_, Lib.hid ?_⟩
          · obtain rfl : q = 0 := by omega
            unfold okE
            rw [HE.out, HEG.out]
            rfl
          · exact below_drewN (hbel.out.alloc hbel.out.size _) _
        case measure => simp [intOf]; omega
      · obtain ⟨q, rfl⟩ : ∃ q, k = q + 1 := ⟨k - 1, by omega⟩
        obtain ⟨ep, hep⟩ : ∃ ep, E[q]? = some ep := ⟨_, List.getElem?_eq_getElem (by rw [← HN.out]; omega)⟩
        have HEP : Hid (E.getD q (0, 0) = ep) := by show _ = _; simp [List.getD, hep]
        obtain ⟨ad', ead, hal', p1, p2⟩ := (HR.out.below hbel.out) q ep hep
        injection ead with ead
        subst ead
        have hI2 : (0 : Int) ≤ (q : Int) := by omega
        have hI3 : (q : Int) < (n : Nat) := by omega
        have hwr1 : IntKind.i64.wrap ((q : Int) + 1 - 1) = (q : Int) := by rw [show (q : Int) + 1 - 1 = q by omega]; exact IntWalk.i64_in _ (by omega)
        have hwr2 : IntKind.i64.wrap (q : Int) = (q : Int) := IntWalk.i64_in _ (by omega)
        obtain ⟨p0, pp⟩ := ep
        have r1 : (wr.alloc (.cells #[.int .i64 e0, .int .i64 e1] 51)).cell? ⟨w.heap.size, 1, none⟩ = some (.slice (some ad) n c) := (World.cell?_alloc_lt _ _ _ hwr).trans j1
        have r2 : (wr.alloc (.cells #[.int .i64 e0, .int .i64 e1] 51)).cell? (ad.add (q * 2)) = some (.int .i64 p0) := (World.cell?_alloc_lt _ _ _ (by rw [block_add]; exact hal)).trans p1
        have r3 : (wr.alloc (.cells #[.int .i64 e0, .int .i64 e1] 51)).cell? ⟨(ad.add (q * 2)).block, (ad.add (q * 2)).off + 1, none⟩ = some (.int .i64 pp) := (World.cell?_alloc_lt _ _ _ (by show (ad.add (q * 2)).block < _; rw [block_add]; exact hal)).trans p2
        obtain ⟨r4, r5, _, _⟩ := cells_two (heap_alloc_new wr (.cells #[.int .i64 e0, .int .i64 e1] 51))
        have hz : (wr.alloc (.cells #[.int .i64 e0, .int .i64 e1] 51)).heap.size = wr.heap.size + 1 := by simp
        have HXB := Lib.hid (hbel.out.alloc hbel.out.size (.cells #[.int .i64 e0, .int .i64 e1] 51))
        clear p1 p2
        go_upto_region 8 with fail
        generalize wr.alloc (.cells #[.int .i64 e0, .int .i64 e1] 51) = X at *
        have hD : X.drew.cell? ⟨w.heap.size, 1, none⟩ = some (.slice (some ad) n c) ∧ X.drew.cell? (ad.add (q * 2)) = some (.int .i64 p0) ∧ X.drew.cell? ⟨(ad.add (q * 2)).block, (ad.add (q * 2)).off + 1, none⟩ = some (.int .i64 pp) ∧ X.drew.cell? ⟨wr.heap.size, 0, none⟩ = some (.int .i64 e0) ∧ X.drew.cell? ⟨wr.heap.size, 1, none⟩ = some (.int .i64 e1) ∧ Below X.heap.size X X.drew :=
          ⟨r1, r2, r3, r4, r5, (Below.refl _ _).drew⟩
        have HC1 := Lib.hid (compare_any (p0, pp) (e0, e1))
        have hkeep : ∀ w', Below X.heap.size X w' → w'.cell? ⟨w.heap.size, 1, none⟩ = some (.slice (some ad) n c) ∧ w'.cell? (ad.add (q * 2)) = some (.int .i64 p0) ∧ w'.cell? ⟨(ad.add (q * 2)).block, (ad.add (q * 2)).off + 1, none⟩ = some (.int .i64 pp) ∧ w'.cell? ⟨wr.heap.size, 0, none⟩ = some (.int .i64 e0) ∧ w'.cell? ⟨wr.heap.size, 1, none⟩ = some (.int .i64 e1) ∧ Below X.heap.size X w' := fun w' hb =>
          ⟨by rw [hb.cell (by show w.heap.size < _; omega)]; exact r1, by rw [hb.cell (by rw [block_add]; omega)]; exact r2, by rw [hb.cell (by show (ad.add (q * 2)).block < _; rw [block_add]; omega)]; exact r3,
            by rw [hb.cell (by show wr.heap.size < _; omega)]; exact r4, by rw [hb.cell (by show wr.heap.size < _; omega)]; exact r5, hb⟩
        have HKP := Lib.hid hkeep
        clear hkeep
        obtain ⟨cv, hcv⟩ : ∃ cv, cv = cmpP (p0, pp) (e0, e1) := ⟨_, rfl⟩
        have HCV := Lib.hid hcv
        rw [← hcv] at HC1
        clear hcv
        by_cases hge : 0 ≤ cv
        · have d7 : decide (0 ≤ cv) = true := by simpa using hge
          have hok : okE N E (q + 1) = false := by
            unfold okE
            rw [Nat.add_sub_cancel, HE.out, HEP.out, ← HCV.out, decide_eq_false (show ¬ cv < 0 by omega)]
            simp
          have HF := Lib.hid (HNO.out hok)
          clear hok hge
          go_region_held3 (fun w' => w'.cell? ⟨w.heap.size, 1, none⟩ = some (.slice (some ad) n c) ∧ w'.cell? (ad.add (q * 2)) = some (.int .i64 p0) ∧ w'.cell? ⟨(ad.add (q * 2)).block, (ad.add (q * 2)).off + 1, none⟩ = some (.int .i64 pp) ∧ w'.cell? ⟨wr.heap.size, 0, none⟩ = some (.int .i64 e0) ∧ w'.cell? ⟨wr.heap.size, 1, none⟩ = some (.int .i64 e1) ∧ Below X.heap.size X w')
            (first | exact hS | exact hD)
            (first | (go_at_call 62; refine (HC1.out _).mono ?_; rintro e wn ⟨rfl, hb⟩; have hS := HKP.out wn (next_below (‹_ ∧ _ ∧ _ ∧ _ ∧ _ ∧ Below X.heap.size X _›).2.2.2.2.2 hb)))
          all_goals go_wp2_with fail
          all_goals go_ret
          all_goals rw [HF.out]
          all_goals exact ⟨rfl, HB.out.trans ((next_below HXB.out hS.2.2.2.2.2).mono (Nat.le_of_lt HWS.out))⟩
        · have d7 : decide (0 ≤ cv) = false := by simpa using hge
          have hok : okE N E (q + 1) = true := by
            unfold okE
            rw [Nat.add_sub_cancel, HE.out, HEP.out, HEG.out, ← HCV.out, decide_eq_true (show cv < 0 by omega)]
            simp
          have HF := Lib.hid hok
          clear hok hge
          go_region_held3 (fun w' => w'.cell? ⟨w.heap.size, 1, none⟩ = some (.slice (some ad) n c) ∧ w'.cell? (ad.add (q * 2)) = some (.int .i64 p0) ∧ w'.cell? ⟨(ad.add (q * 2)).block, (ad.add (q * 2)).off + 1, none⟩ = some (.int .i64 pp) ∧ w'.cell? ⟨wr.heap.size, 0, none⟩ = some (.int .i64 e0) ∧ w'.cell? ⟨wr.heap.size, 1, none⟩ = some (.int .i64 e1) ∧ Below X.heap.size X w')
            (first | exact hS | exact hD)
            (first | (go_at_call 62; refine (HC1.out _).mono ?_; rintro e wn ⟨rfl, hb⟩; have hS := HKP.out wn (next_below (‹_ ∧ _ ∧ _ ∧ _ ∧ _ ∧ Below X.heap.size X _›).2.2.2.2.2 hb)))
          all_goals go_wp2_with fail
          all_goals go_roundw
          case rel =>
            refine ⟨q + 2, by omega, by go_num, fun q1 hq1 => ?_, Lib.hid (next_below HXB.out hS.2.2.2.2.2)⟩
            by_cases e : q1 = q + 1
            · subst e; exact HF.out
            · exact hK.out q1 (by omega)
          case measure => simp [intOf]; omega
    · obtain rfl : k = n := by omega
      go_wp2_with fail
      go_ret
      have hy := rightG_yes HL.out (fun q hq => hK.out q (by rw [HN.out]; exact hq))
      rw [hy]
      exact ⟨rfl, HB.out.trans (hbel.out.mono (Nat.le_of_lt HWS.out))⟩
end Go.Proofs.Ytlkddjpjhchjfaa
