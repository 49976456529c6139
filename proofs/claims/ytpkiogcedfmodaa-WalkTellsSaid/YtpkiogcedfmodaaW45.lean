/- Who is next, by the reference (fretworkref04.next). -/
import Derived.Test.YtpkiogcedfmodaaW44
namespace Go.Proofs.Ytpkiogcedfmodaa
open Go.RowKit

theorem nextM_hit {N v k : Nat} {E : List (Int × Int)} {met : List Int} (hk : k < N) (h1 : hasG E v k = true) (h2 : (k : Int) ∉ met) (hb : ∀ j : Nat, j < k → hasG E v j = true → (j : Int) ∈ met) : nextM N E v met = (k : Int) := by
  have : (List.range N).find? (fun (w : Nat) => hasG E v w && !decide ((w : Int) ∈ met)) = some k := by
    rw [List.find?_range_eq_some]
    refine ⟨by simp [h1, h2], by simpa using hk, fun j hj => ?_⟩
    cases h : hasG E v j with
    | false => simp
    | true => simp [hb j hj h]
  unfold nextM
  rw [this]
theorem nextM_none {N v : Nat} {E : List (Int × Int)} {met : List Int} (hb : ∀ j : Nat, j < N → hasG E v j = true → (j : Int) ∈ met) : nextM N E v met = -1 := by
  have : (List.range N).find? (fun (w : Nat) => hasG E v w && !decide ((w : Int) ∈ met)) = none := by
    rw [List.find?_range_eq_none]
    intro j hj
    cases h : hasG E v j with
    | false => simp
    | true => simp [hb j hj h]
  unfold nextM
  rw [this]
theorem nextM_cases (N v : Nat) (E : List (Int × Int)) (met : List Int) :
    (nextM N E v met = -1 ∧ ∀ j : Nat, j < N → hasG E v j = true → (j : Int) ∈ met) ∨
    ∃ k : Nat, nextM N E v met = (k : Int) ∧ k < N ∧ hasG E v k = true ∧ (k : Int) ∉ met ∧ ∀ j : Nat, j < k → hasG E v j = true → (j : Int) ∈ met := by
  cases h : (List.range N).find? (fun (w : Nat) => hasG E v w && !decide ((w : Int) ∈ met)) with
  | none =>
    left
    have h0 := h
    rw [List.find?_range_eq_none] at h
    refine ⟨by unfold nextM; rw [h0], fun j hj hh => ?_⟩
    have := h j hj
    simpa [hh] using this
  | some k =>
    right
    have h0 := h
    rw [List.find?_range_eq_some] at h
    obtain ⟨a, b, d⟩ := h
    simp only [Bool.and_eq_true, Bool.not_eq_true', decide_eq_false_iff_not] at a
    refine ⟨k, by unfold nextM; rw [h0], by simpa using b, a.1, a.2, fun j hj hh => ?_⟩
    have := d j hj
    simpa [hh] using this
set_option maxRecDepth 100000 in
set_option maxHeartbeats 4000000 in
theorem next_any (A : Option Addr) (c n N : Nat) (E : List (Int × Int)) (v : Nat) (B : Option Addr) (c2 n2 : Nat) (met : List Int) (w : World) (hr : RdP w A E) (hn : n = E.length) (hg : rightG (N : Nat) E = true) (hz : RdZ w B met) (hn2 : n2 = met.length) (hs : n2 ≤ 1000000) :
    Calls Try.prog 30 #[.agg #[.int .i64 (N : Nat), .slice A n c], .int .i64 (v : Nat), .slice B n2 c2] w fun e w' => e = .returned (.int .i64 (nextM N E v met)) ∧ Below w.heap.size w w' := by
  obtain ⟨W, hW⟩ : ∃ W, W = w.alloc (.cells #[.int .i64 (N : Nat), .slice A n c] 24) := ⟨_, rfl⟩
  have hb : Below w.heap.size w W := by rw [hW]; exact (Below.refl _ _).alloc (Nat.le_refl _) _
  have hWS : w.heap.size < W.heap.size := by rw [hW]; simp
  obtain ⟨i0, i1, _, _⟩ := cells_two (w := W) (by rw [hW]; exact heap_alloc_new w _)
  have HJ : Hid (∀ w', Below W.heap.size W w' → w'.cell? ⟨w.heap.size, 0, none⟩ = some (.int .i64 (N : Nat)) ∧ w'.cell? ⟨w.heap.size, 1, none⟩ = some (.slice A n c)) := fun w' hb =>
    ⟨by rw [hb.cell (by show w.heap.size < _; omega)]; exact i0, by rw [hb.cell (by show w.heap.size < _; omega)]; exact i1⟩
  have hN200 : N ≤ 200 := by have := rightG_bounds hg; omega
  obtain ⟨r, hrr⟩ : ∃ r, nextM N E v met = r := ⟨_, rfl⟩
  have HRR := Lib.hid hrr
  rw [hrr]
  have HR := Lib.hid (hr.below hb)
  have HZ := Lib.hid (hz.below hb)
  have HN := Lib.hid hn
  have HN2 := Lib.hid hn2
  have HS := Lib.hid hs
  have HG := Lib.hid hg
  have HB := Lib.hid hb
  have HW := Lib.hid hW
  have HNO : Hid (∀ j : Nat, j < 0 → hasG E v j = true → (j : Int) ∈ met) := fun j h => by omega
  clear hr hz hb hW hn hn2 hs hrr hg
  go_enter Try.func30, Try.ntmps30
  go_wp2_with fail
  rw [← HW.out]
  go_wp2_with fail
  have HBW0 := Lib.hid (Below.refl W.heap.size W)
  clear i0 i1
  go_loopw [7] (fun s7 wr => ∃ k : Nat, k ≤ N ∧ s7 = .int .i64 k ∧ Hid (∀ j : Nat, j < k → hasG E v j = true → (j : Int) ∈ met) ∧ Hid (Below W.heap.size W wr)) (fun s7 _ => N - (intOf s7).toNat)
  case atStart => exact ⟨0, Nat.zero_le _, rfl, HNO, HBW0⟩
  case round =>
    obtain ⟨k, hk, rfl, hO, hbel⟩ := hrel
    obtain ⟨j0, j1⟩ := HJ.out wr hbel.out
    by_cases h1 : k < N
    · have t1 : decide ((k : Int) < (N : Int)) = true := by simp; omega
      have HRC := Lib.hid (refHas_any A c n N E (v : Int) (k : Int) wr (HR.out.below hbel.out) HN.out HG.out)
      have HNX : Hid ((hasG E v k = true → (k : Int) ∈ met) → ∀ j : Nat, j < k + 1 → hasG E v j = true → (j : Int) ∈ met) := fun h j hj => by
        by_cases e : j = k
        · subst e; exact h
        · exact hO.out j (by omega)
      have HHIT : Hid (hasG E v k = true → (k : Int) ∉ met → r = (k : Int)) := fun h h2 => by
        rw [← HRR.out]
        exact nextM_hit h1 h h2 hO.out
      obtain ⟨hv, hhv⟩ : ∃ hv, hasG E v k = hv := ⟨_, rfl⟩
      rw [hhv] at HRC HNX HHIT
      clear hhv
      go_wp2_with fail
      refine HRC.out.mono ?_
      rintro e w5 ⟨rfl, hb5⟩
      have HB5 := Lib.hid (next_below hbel.out hb5)
      clear hb5 j0 j1
      cases hv with
      | false =>
        have HO1 := Lib.hid (HNX.out (fun h => by cases h))
        go_wp2_with fail
        go_roundw
        case rel => exact ⟨k + 1, by omega, by go_num, HO1, HB5⟩
        case measure => simp [intOf]; omega
      | true =>
        have HIN := Lib.hid (refin_any B c2 n2 met (k : Int) w5 (HZ.out.below HB5.out) HN2.out HS.out)
        by_cases hm : (k : Int) ∈ met
        · have HO1 := Lib.hid (HNX.out (fun _ => hm))
          have hd : decide ((k : Int) ∈ met) = true := decide_eq_true hm
          rw [hd] at HIN
          clear hm hd
          go_wp2_with fail
          refine HIN.out.mono ?_
          rintro e w6 ⟨rfl, hb6⟩
          have HB6 := Lib.hid (next_below HB5.out hb6)
          clear hb6
          go_wp2_with fail
          go_roundw
          case rel => exact ⟨k + 1, by omega, by go_num, HO1, HB6⟩
          case measure => simp [intOf]; omega
        · have HF : Hid (r = (k : Int)) := HHIT.out rfl hm
          have hd : decide ((k : Int) ∈ met) = false := decide_eq_false hm
          rw [hd] at HIN
          clear hm hd
          go_wp2_with fail
          refine HIN.out.mono ?_
          rintro e w6 ⟨rfl, hb6⟩
          have HB6 := Lib.hid (next_below HB5.out hb6)
          clear hb6
          go_wp2_with fail
          go_ret
          exact ⟨by rw [HF.out]; rfl, HB.out.trans (HB6.out.mono (Nat.le_of_lt hWS))⟩
    · obtain rfl : k = N := by omega
      have t1 : decide ((k : Int) < (k : Int)) = false := by simp
      have HF : Hid (r = -1) := by
        show _ = _
        rw [← HRR.out]
        exact nextM_none hO.out
      go_wp2_with fail
      go_ret
      exact ⟨by rw [HF.out]; rfl, HB.out.trans (hbel.out.mono (Nat.le_of_lt hWS))⟩
end Go.Proofs.Ytpkiogcedfmodaa
