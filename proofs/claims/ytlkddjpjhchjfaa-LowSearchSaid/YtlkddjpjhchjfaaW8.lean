/- How far vertices are. -/
import Derived.Test.YtlkddjpjhchjfaaW4
import Derived.Test.YtlkddjpjhchjfaaW7
namespace Go.Proofs.Ytlkddjpjhchjfaa
set_option maxRecDepth 100000
open Go.RowKit

theorem rightG_mem {N : Int} {E : List (Int × Int)} (h : rightG N E = true) {e : Int × Int} (he : e ∈ E) : 0 ≤ e.1 ∧ e.1 < e.2 ∧ e.2 < N := by
  obtain ⟨k, hk⟩ := List.getElem?_of_mem he
  exact rightG_edge h hk
theorem bes_mem {E : List (Int × Int)} {v x : Int} (h : x ∈ bes E v) : (v, x) ∈ E ∨ (x, v) ∈ E := by
  unfold bes at h
  obtain ⟨e, he, ho⟩ := List.mem_filterMap.1 h
  obtain ⟨e1, e2⟩ := e
  unfold other at ho
  split at ho
  · rename_i h1
    simp only [Option.some.injEq] at ho
    simp only at h1
    subst h1; subst ho
    exact .inl he
  · split at ho
    · rename_i h1 h2
      simp only [Option.some.injEq] at ho
      simp only at h2
      subst h2; subst ho
      exact .inr he
    · cases ho
theorem mem_bes {E : List (Int × Int)} {v x : Int} (h : (v, x) ∈ E ∨ ((x, v) ∈ E ∧ x ≠ v)) : x ∈ bes E v := by
  unfold bes
  rcases h with h | ⟨h, hn⟩
  · exact List.mem_filterMap.2 ⟨_, h, by unfold other; simp⟩
  · exact List.mem_filterMap.2 ⟨_, h, by unfold other; simp [hn]⟩
theorem tabG_getD (N : Nat) (E : List (Int × Int)) (u : Nat) : (tabG N E).getD u [] = if u < N then bes E u else [] := by
  unfold List.getD
  by_cases h : u < N
  · rw [tabG_get h]; simp [h]
  · rw [List.getElem?_eq_none (by rw [tabG_length]; omega)]; simp [h]
theorem tabG_mem {N : Nat} {E : List (Int × Int)} (h : rightG (N : Nat) E = true) {u : Nat} {x : Int} (hx : x ∈ (tabG N E).getD u []) : ∃ v : Nat, x = (v : Int) ∧ v < N := by
  rw [tabG_getD] at hx
  split at hx
  · rcases bes_mem hx with h1 | h1
    · have := rightG_mem h h1
      simp only at this
      obtain ⟨v, rfl⟩ := Int.eq_ofNat_of_zero_le (show 0 ≤ x by omega)
      exact ⟨v, rfl, by omega⟩
    · have := rightG_mem h h1
      simp only at this
      obtain ⟨v, rfl⟩ := Int.eq_ofNat_of_zero_le (show 0 ≤ x by omega)
      exact ⟨v, rfl, by omega⟩
  · cases hx
theorem tabG_okT {N : Nat} {E : List (Int × Int)} (h : rightG (N : Nat) E = true) : OkT N (tabG N E) := by
  refine ⟨tabG_length N E, fun u v hv => ?_⟩
  rw [List.contains_iff_mem] at hv
  obtain ⟨w, e, hw⟩ := tabG_mem h hv
  omega
theorem tabG_row {N : Nat} {E : List (Int × Int)} (h : rightG (N : Nat) E = true) (u : Nat) : ((tabG N E).getD u []).length ≤ 1000 := by
  rw [tabG_getD]
  split
  · have := List.length_filterMap_le (other (u : Int)) E
    have := rightG_bounds h
    unfold bes
    omega
  · simp

set_option maxHeartbeats 2000000 in
theorem refused_ok (A : Option Addr) (c n N v : Nat) (E : List (Int × Int)) (w : World) (hr : RdP w A E) (hn : n = E.length) (hg : rightG (N : Nat) E = true) (hv : v < N) :
    Calls Try.prog 59 #[.agg #[.int .i64 (N : Nat), .slice A n c], .int .i64 (v : Nat)] w fun e w' => e = .returned (.int .i64 0) ∧ Below w.heap.size w w' := by
  obtain ⟨W, hW⟩ : ∃ W, W = w.alloc (.cells #[.int .i64 (N : Nat), .slice A n c] 24) := ⟨_, rfl⟩
  have hb : Below w.heap.size w W := by rw [hW]; exact (Below.refl _ _).alloc (Nat.le_refl _) _
  have hWS : w.heap.size < W.heap.size := by rw [hW]; simp
  obtain ⟨j0, j1, _, _⟩ := cells_two (w := W) (by rw [hW]; exact heap_alloc_new w _)
  have HR := Lib.hid (hr.below hb)
  have HN := Lib.hid hn
  have HG := Lib.hid hg
  have HB := Lib.hid hb
  have HW := Lib.hid hW
  have d1 : decide ((v : Int) < 0) = false := by simp
  have d2 : decide ((N : Int) ≤ (v : Int)) = false := by simp; omega
  clear hr hn hg hb hW
  go_enter Try.func59, Try.ntmps59
  go_wp2_with fail
  rw [← HW.out]
  refine (right_any A c n (N : Nat) E W HR.out HN.out).mono ?_
  rintro e w1 ⟨rfl, hb1⟩
  rw [HG.out]
  have c0 : w1.cell? ⟨w.heap.size, 0, none⟩ = some (.int .i64 (N : Nat)) := by rw [hb1.cell (by exact hWS)]; exact j0
  clear j0 j1
  go_wp2_with fail
  go_ret
  exact ⟨rfl, HB.out.trans (hb1.mono (Nat.le_of_lt hWS))⟩

/-- A row of ints in a block of its own. -/
def OwnZ (w : World) (B : Nat) (ds : List Int) : Prop := w.heap[B]? = some (.cells (zs ds).toArray 3 (0, 0))
set_option maxHeartbeats 2000000 in
theorem away_any (A : Option Addr) (c n N v : Nat) (E : List (Int × Int)) (w : World) (hr : RdP w A E) (hn : n = E.length) (hg : rightG (N : Nat) E = true) (hv : v < N) :
    Calls Try.prog 32 #[.agg #[.int .i64 (N : Nat), .slice A n c], .int .i64 (v : Nat)] w fun e w' => ∃ (B : Nat) (ds : List Int), e = .returned (.tuple #[.slice (some ⟨B, 0, none⟩) N N, .int .i64 0]) ∧ OwnZ w' B ds ∧ (Dist (tabG N E) N v ds ∧ ∀ v, v < N → gd ds v < N) ∧ w.heap.size ≤ B ∧ Below w.heap.size w w' := by
  obtain ⟨W, hW⟩ : ∃ W, W = w.alloc (.cells #[.int .i64 (N : Nat), .slice A n c] 24) := ⟨_, rfl⟩
  have hb : Below w.heap.size w W := by rw [hW]; exact (Below.refl _ _).alloc (Nat.le_refl _) _
  have hWS : w.heap.size < W.heap.size := by rw [hW]; simp
  obtain ⟨j0, j1, _, _⟩ := cells_two (w := W) (by rw [hW]; exact heap_alloc_new w _)
  have HR := Lib.hid (hr.below hb)
  have HN := Lib.hid hn
  have HG := Lib.hid hg
  have HB := Lib.hid hb
  have HW := Lib.hid hW
  have hN200 : N ≤ 200 := by have := rightG_bounds hg; omega
  clear hr hn hg hb hW
  go_enter Try.func32, Try.ntmps32
  go_wp2_with fail
  rw [← HW.out]
  refine (refused_ok A c n N v E W HR.out HN.out HG.out hv).mono ?_
  rintro e w1 ⟨rfl, hb1⟩
  have c0 : w1.cell? ⟨w.heap.size, 0, none⟩ = some (.int .i64 (N : Nat)) := by rw [hb1.cell (by exact hWS)]; exact j0
  have c1 : w1.cell? ⟨w.heap.size, 1, none⟩ = some (.slice A n c) := by rw [hb1.cell (by exact hWS)]; exact j1
  have HB1 := Lib.hid hb1
  have HR1 := Lib.hid (HR.out.below hb1)
  clear j0 j1 hb1 HR
  go_wp2_with fail
  refine (beside_any A c n N E w1 HR1.out HN.out HG.out).mono ?_
  rintro e w2 ⟨B0, us, rfl, hrows, hB0, hb2⟩
  have HB2 := Lib.hid (next_below HB1.out hb2)
  have HRR := Lib.hid hrows.rd
  clear hrows hb2 c0 c1
  go_wp2_with fail
  refine (steps_any _ N N v (tabG N E) w2 HRR.out (tabG_okT HG.out) (fun u x hx => by obtain ⟨y, e, _⟩ := tabG_mem HG.out hx; exact ⟨y, e⟩) (tabG_row HG.out) hv (by omega)).mono ?_
  rintro e w3 ⟨B, ds, rfl, hB, hD, hBl, hb3⟩
  have HD := Lib.hid hD
  have HBB := Lib.hid hB
  have h1 := HB2.out.size
  have HB3 := Lib.hid (next_below HB2.out hb3)
  clear hb3 hB hD
  go_wp2_with fail
  go_ret2
  exact ⟨B, ds, rfl, HBB.out, HD.out, by omega, HB.out.trans (HB3.out.mono (Nat.le_of_lt hWS))⟩
end Go.Proofs.Ytlkddjpjhchjfaa
