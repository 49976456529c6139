/- A search in halves. -/
import Derived.Test.YtlkddjpjhchjfaaW22
namespace Go.Proofs.Ytlkddjpjhchjfaa
set_option maxRecDepth 100000
open Go.RowKit

set_option maxRecDepth 100000 in
set_option maxHeartbeats 4000000 in
theorem bsf_any (A : Option Addr) (c n : Nat) (E : List (Int × Int)) (t0 t1 : Int) (w : World) (hr : RdP w A E) (hn : n = E.length) (hn6 : n ≤ 1000) (ho : Ord E) :
    Calls Try.prog 61 #[.slice A n c, .agg #[.int .i64 t0, .int .i64 t1], .func (.func 62) #[] #[]] w fun e w' => ∃ i : Nat, e = .returned (.tuple #[.int .i64 i, .bool (decide ((t0, t1) ∈ E))]) ∧ Below w.heap.size w w' := by
  obtain ⟨W, hW⟩ : ∃ W, W = w.alloc (.cells #[.int .i64 t0, .int .i64 t1] 51) := ⟨_, rfl⟩
  have hb : Below w.heap.size w W := by rw [hW]; exact (Below.refl _ _).alloc (Nat.le_refl _) _
  have hWS : w.heap.size < W.heap.size := by rw [hW]; simp
  obtain ⟨i0, i1, _, _⟩ := cells_two (w := W) (by rw [hW]; exact heap_alloc_new w _)
  have HJ : Hid (∀ w', Below W.heap.size W w' → w'.cell? ⟨w.heap.size, 0, none⟩ = some (.int .i64 t0) ∧ w'.cell? ⟨w.heap.size, 1, none⟩ = some (.int .i64 t1)) := fun w' hb =>
    ⟨by rw [hb.cell (by show w.heap.size < _; omega)]; exact i0, by rw [hb.cell (by show w.heap.size < _; omega)]; exact i1⟩
  have HR := Lib.hid (hr.below hb)
  have HN := Lib.hid hn
  have HB := Lib.hid hb
  have HW := Lib.hid hW
  have HO := Lib.hid ho
  obtain ⟨r, hrr⟩ : ∃ r, decide ((t0, t1) ∈ E) = r := ⟨_, rfl⟩
  have HRR := Lib.hid hrr
  rw [hrr]
  clear hr hn hb hW ho i0 i1 hrr
  go_enter Try.func61, Try.ntmps61
  go_wp2_with fail
  rw [← HW.out]
  go_loopw [9, 10] (fun s9 s10 wr => ∃ i j : Nat, i ≤ j ∧ j ≤ n ∧ s9 = .int .i64 i ∧ s10 = .int .i64 j ∧ Hid (Half E (t0, t1) i j) ∧ Hid (Below W.heap.size W wr)) (fun s9 s10 _ => (intOf s10).toNat - (intOf s9).toNat)
  case atStart => exact ⟨0, n, Nat.zero_le _, Nat.le_refl _, rfl, rfl, ⟨fun q h => absurd h (by omega), fun q h1 h2 => absurd h2 (by have := HN.out; omega)⟩, Lib.hid (Below.refl _ _)⟩
  case round =>
    obtain ⟨i, j, hij, hj, rfl, rfl, hK, hbel⟩ := hrel
    obtain ⟨j0, j1⟩ := HJ.out wr hbel.out
    by_cases h1 : i < j
    · have d1 : decide ((i : Int) < (j : Int)) = true := by simp; omega
      go_upto_region 5 with fail
      rw [show ((i : Int) + (j : Int)) / 2 = (((i + j) / 2 : Nat) : Int) by omega]
      obtain ⟨h, hh⟩ : ∃ h, (i + j) / 2 = h := ⟨_, rfl⟩
      rw [hh]
      have hih : i ≤ h := by omega
      have hhj : h < j := by omega
      have hwr : IntKind.i64.wrap ((h : Int) + 1) = (h : Int) + 1 := IntWalk.i64_in _ (by omega)
      clear hh d1
      obtain ⟨ep, hep⟩ : ∃ ep, E[h]? = some ep := ⟨_, List.getElem?_eq_getElem (by rw [← HN.out]; omega)⟩
      have HEP : Hid (E.getD h (0, 0) = ep) := by show _ = _; simp [List.getD, hep]
      obtain ⟨ad, rfl, hal, p1', p2'⟩ := (HR.out.below hbel.out) h ep hep
      obtain ⟨p0, p1⟩ := ep
      simp only [] at p1' p2'
      have hI0 : (0 : Int) ≤ (h : Int) := by omega
      have hI1 : (h : Int) < (n : Nat) := by omega
      have hwlt : w.heap.size < wr.heap.size := Nat.lt_of_lt_of_le hWS hbel.out.size
      have hD : wr.drew.cell? (ad.add (h * 2)) = some (.int .i64 p0) ∧ wr.drew.cell? ⟨(ad.add (h * 2)).block, (ad.add (h * 2)).off + 1, none⟩ = some (.int .i64 p1) ∧ wr.drew.cell? ⟨w.heap.size, 0, none⟩ = some (.int .i64 t0) ∧ wr.drew.cell? ⟨w.heap.size, 1, none⟩ = some (.int .i64 t1) ∧ Below wr.heap.size wr wr.drew :=
        ⟨p1', p2', j0, j1, (Below.refl _ _).drew⟩
      have HC1 := Lib.hid (compare_any (p0, p1) (t0, t1))
      have hkeep : ∀ w', Below wr.heap.size wr w' → w'.cell? (ad.add (h * 2)) = some (.int .i64 p0) ∧ w'.cell? ⟨(ad.add (h * 2)).block, (ad.add (h * 2)).off + 1, none⟩ = some (.int .i64 p1) ∧ w'.cell? ⟨w.heap.size, 0, none⟩ = some (.int .i64 t0) ∧ w'.cell? ⟨w.heap.size, 1, none⟩ = some (.int .i64 t1) ∧ Below wr.heap.size wr w' := fun w' hb =>
        ⟨by rw [hb.cell (by rw [block_add]; omega)]; exact p1', by rw [hb.cell (by show (ad.add (h * 2)).block < _; rw [block_add]; omega)]; exact p2', by rw [hb.cell (by show w.heap.size < _; omega)]; exact j0, by rw [hb.cell (by show w.heap.size < _; omega)]; exact j1, hb⟩
      have HKP := Lib.hid hkeep
      clear hkeep
      obtain ⟨cv, hcv⟩ : ∃ cv, cv = cmpP (p0, p1) (t0, t1) := ⟨_, rfl⟩
      have HCV := Lib.hid hcv
      rw [← hcv] at HC1
      clear hcv hep p1' p2' j0 j1
      by_cases hneg : cv < 0
      · have d2 : decide (cv < 0) = true := by simpa using hneg
        have HF : Hid (Half E (t0, t1) (h + 1) j) := hK.out.up HO.out (by have := HN.out; omega) (by rw [HEP.out, ← HCV.out]; exact hneg)
        go_region_held3 (fun w' => w'.cell? (ad.add (h * 2)) = some (.int .i64 p0) ∧ w'.cell? ⟨(ad.add (h * 2)).block, (ad.add (h * 2)).off + 1, none⟩ = some (.int .i64 p1) ∧ w'.cell? ⟨w.heap.size, 0, none⟩ = some (.int .i64 t0) ∧ w'.cell? ⟨w.heap.size, 1, none⟩ = some (.int .i64 t1) ∧ Below wr.heap.size wr w')
          (first | exact hS | exact hD)
          (first | (go_at_call 62; refine (HC1.out _).mono ?_; rintro e wn ⟨rfl, hb⟩; have hS := HKP.out wn (next_below (‹_ ∧ _ ∧ _ ∧ _ ∧ Below wr.heap.size wr _›).2.2.2.2 hb)))
        all_goals go_wp2_with fail
        all_goals go_roundw
        case rel => exact ⟨h + 1, j, by omega, by omega, by go_num, by go_num, HF, Lib.hid (next_below hbel.out hS.2.2.2.2)⟩
        case measure => simp [intOf]; omega
      · have d2 : decide (cv < 0) = false := by simpa using hneg
        have HF : Hid (Half E (t0, t1) i h) := hK.out.down HO.out (by rw [HEP.out, ← HCV.out]; exact hneg)
        go_region_held3 (fun w' => w'.cell? (ad.add (h * 2)) = some (.int .i64 p0) ∧ w'.cell? ⟨(ad.add (h * 2)).block, (ad.add (h * 2)).off + 1, none⟩ = some (.int .i64 p1) ∧ w'.cell? ⟨w.heap.size, 0, none⟩ = some (.int .i64 t0) ∧ w'.cell? ⟨w.heap.size, 1, none⟩ = some (.int .i64 t1) ∧ Below wr.heap.size wr w')
          (first | exact hS | exact hD)
          (first | (go_at_call 62; refine (HC1.out _).mono ?_; rintro e wn ⟨rfl, hb⟩; have hS := HKP.out wn (next_below (‹_ ∧ _ ∧ _ ∧ _ ∧ Below wr.heap.size wr _›).2.2.2.2 hb)))
        all_goals go_wp2_with fail
        all_goals go_roundw
        case rel => exact ⟨i, h, by omega, by omega, by go_num, by go_num, HF, Lib.hid (next_below hbel.out hS.2.2.2.2)⟩
        case measure => simp [intOf]; omega
    · obtain rfl : i = j := by omega
      have d1 : decide ((i : Int) < (i : Int)) = false := by simp
      have HFD : Hid ((t0, t1) ∈ E ↔ i < E.length ∧ cmpP (E.getD i (0, 0)) (t0, t1) = 0) := hK.out.found HO.out
      by_cases h2 : i < n
      · have d2 : decide ((i : Int) < (n : Int)) = true := by simp; omega
        obtain ⟨ep, hep⟩ : ∃ ep, E[i]? = some ep := ⟨_, List.getElem?_eq_getElem (by rw [← HN.out]; omega)⟩
        have HEP : Hid (E.getD i (0, 0) = ep) := by show _ = _; simp [List.getD, hep]
        obtain ⟨ad, rfl, hal, p1', p2'⟩ := (HR.out.below hbel.out) i ep hep
        obtain ⟨p0, p1⟩ := ep
        simp only [] at p1' p2'
        have hI0 : (0 : Int) ≤ (i : Int) := by omega
        have hI1 : (i : Int) < (n : Nat) := by omega
        have hwlt : w.heap.size < wr.heap.size := Nat.lt_of_lt_of_le hWS hbel.out.size
        have hD : wr.drew.cell? (ad.add (i * 2)) = some (.int .i64 p0) ∧ wr.drew.cell? ⟨(ad.add (i * 2)).block, (ad.add (i * 2)).off + 1, none⟩ = some (.int .i64 p1) ∧ wr.drew.cell? ⟨w.heap.size, 0, none⟩ = some (.int .i64 t0) ∧ wr.drew.cell? ⟨w.heap.size, 1, none⟩ = some (.int .i64 t1) ∧ Below wr.heap.size wr wr.drew :=
          ⟨p1', p2', j0, j1, (Below.refl _ _).drew⟩
        have HC1 := Lib.hid (compare_any (p0, p1) (t0, t1))
        have hkeep : ∀ w', Below wr.heap.size wr w' → w'.cell? (ad.add (i * 2)) = some (.int .i64 p0) ∧ w'.cell? ⟨(ad.add (i * 2)).block, (ad.add (i * 2)).off + 1, none⟩ = some (.int .i64 p1) ∧ w'.cell? ⟨w.heap.size, 0, none⟩ = some (.int .i64 t0) ∧ w'.cell? ⟨w.heap.size, 1, none⟩ = some (.int .i64 t1) ∧ Below wr.heap.size wr w' := fun w' hb =>
          ⟨by rw [hb.cell (by rw [block_add]; omega)]; exact p1', by rw [hb.cell (by show (ad.add (i * 2)).block < _; rw [block_add]; omega)]; exact p2', by rw [hb.cell (by show w.heap.size < _; omega)]; exact j0, by rw [hb.cell (by show w.heap.size < _; omega)]; exact j1, hb⟩
        have HKP := Lib.hid hkeep
        clear hkeep
        obtain ⟨cv, hcv⟩ : ∃ cv, cv = cmpP (p0, p1) (t0, t1) := ⟨_, rfl⟩
        have HCV := Lib.hid hcv
        rw [← hcv] at HC1
        clear hcv hep p1' p2' j0 j1
        have d3 : (cv == 0) = r := by
          rw [← HRR.out, Bool.eq_iff_iff]
          simp only [beq_iff_eq, decide_eq_true_eq]
          rw [HFD.out, HEP.out, ← HCV.out]
          constructor
          · intro h; exact ⟨by have := HN.out; omega, h⟩
          · intro h; exact h.2
        go_upto_region 8 with fail
        go_region_held3 (fun w' => w'.cell? (ad.add (i * 2)) = some (.int .i64 p0) ∧ w'.cell? ⟨(ad.add (i * 2)).block, (ad.add (i * 2)).off + 1, none⟩ = some (.int .i64 p1) ∧ w'.cell? ⟨w.heap.size, 0, none⟩ = some (.int .i64 t0) ∧ w'.cell? ⟨w.heap.size, 1, none⟩ = some (.int .i64 t1) ∧ Below wr.heap.size wr w')
          (first | exact hS | exact hD)
          (first | (go_at_call 62; refine (HC1.out _).mono ?_; rintro e wn ⟨rfl, hb⟩; have hS := HKP.out wn (next_below (‹_ ∧ _ ∧ _ ∧ _ ∧ Below wr.heap.size wr _›).2.2.2.2 hb)))
        all_goals go_wp2_with fail
        all_goals go_ret2
        all_goals exact ⟨i, rfl, HB.out.trans ((next_below hbel.out hS.2.2.2.2).mono (Nat.le_of_lt hWS))⟩
      · have d2 : decide ((i : Int) < (n : Int)) = false := by simp; omega
        have HF : Hid (r = false) := by
          show _ = _
          rw [← HRR.out, decide_eq_false_iff_not, HFD.out]
          have := HN.out
          omega
        have HBQ := Lib.hid (fun q : Nat => below_drewN hbel.out q)
        go_upto_region 8 with fail
        go_quiet (fail)
        go_wp2_with fail
        go_ret2
        refine ⟨i, ?_, HB.out.trans ((HBQ.out _).mono (Nat.le_of_lt hWS))⟩
        rw [HF.out]
        rfl
end Go.Proofs.Ytlkddjpjhchjfaa
