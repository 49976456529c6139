/- A strand is copied; what is known of a world (Kn): blocks, and rows of bytes that are read. -/
import Derived.Test.YtgljaimoaijcaaaT22
namespace Go.Proofs.Ytgljaimoaijcaaa
open Go.RowKit

theorem own_read {w : World} {base n cap g : Nat} {xs : List Nat} (h : w.ownsRow base 5 1 (.slice (some ⟨g, 0, none⟩) n cap) n (u8s xs)) : RdN w (some ⟨g, 0, none⟩) xs := by
  obtain ⟨_, hgl, _, hc⟩ := own_at h
  intro q x hq
  refine ⟨_, rfl, hgl, ?_⟩
  rw [add_off]
  exact hc q _ (by simp [u8s, hq])

theorem RdN.far {w : World} {A : Option Addr} {xs : List Nat} (h : RdN w A xs) (p : Addr) (hp : ∀ ad, A = some ad → ad.block ≠ p.block) (u : Value) : RdN (w.setCell p u) A xs := by
  intro q x hq
  obtain ⟨ad, e, hb, hc⟩ := h q x hq
  refine ⟨ad, e, by simpa [World.setCell] using hb, ?_⟩
  rw [World.cell?_setCell_other _ _ _ _ (fun e2 => hp ad e (by rw [e2, block_add]))]
  exact hc

theorem copy_rd (A : Option Addr) (xs : List Nat) (n c : Nat) (w : World) (hn : n = xs.length) (hr : RdN w A xs) (hA : A = none → c = 0) (hl : n ≤ 1000000) :
    Calls Try.prog 38 #[.slice A n c] w fun e w' => ∃ g cap, e = .returned (.slice (some ⟨g, 0, none⟩) n cap) ∧ (w.heap.size ≤ g ∧ g < w'.heap.size ∧ RdN w' (some ⟨g, 0, none⟩) xs) ∧ Below w.heap.size w w' := by
  subst hn
  exact (copy_any A xs c w hr hA hl).mono fun _ _ ⟨g, cap, he, ho, hb⟩ => ⟨g, cap, he, ⟨(own_at ho).1, (own_at ho).2.1, own_read ho⟩, hb⟩

set_option maxRecDepth 100000 in
set_option maxHeartbeats 2000000 in
theorem copyS_any (A : Option Addr) (xs : List Nat) (n c : Nat) (L : Int) (w : World) (hn : n = xs.length) (hr : RdN w A xs) (hA : A = none → c = 0) (hl : n ≤ 1000000) :
    Calls Try.prog 12 #[.agg #[.slice A n c, .int .i64 L]] w fun e w' => ∃ g cap, e = .returned (.agg #[.slice (some ⟨g, 0, none⟩) n cap, .int .i64 L]) ∧ (w.heap.size ≤ g ∧ g < w'.heap.size ∧ RdN w' (some ⟨g, 0, none⟩) xs) ∧ Below w.heap.size w w' := by
  obtain ⟨W, hW⟩ : ∃ W, W = w.alloc (.cells #[.slice A n c, .int .i64 L] 24) := ⟨_, rfl⟩
  have HWS : Hid (W.heap.size = w.heap.size + 1) := by show _ = _; rw [hW]; simp
  have HBW : Hid (w.heap.size < W.heap.size) := by show _ < _; rw [HWS.out]; omega
  have HC0 : Hid (Below w.heap.size w W) := by show Below _ _ _; rw [hW]; exact (Below.refl _ _).alloc (Nat.le_refl _) _
  have h1 : W.cell? ⟨w.heap.size, 0, none⟩ = some (.slice A n c) := by rw [hW]; simp
  have h2 : W.cell? ⟨w.heap.size, 1, none⟩ = some (.int .i64 L) := by rw [hW]; simp
  have CL : Hid (∀ w', (w'.cell? ⟨w.heap.size, 0, none⟩ = some (.slice A n c) ∧ w'.cell? ⟨w.heap.size, 1, none⟩ = some (.int .i64 L) ∧ Below W.heap.size W w') →
        Calls Try.prog 38 #[.slice A n c] w' fun e w'' => ∃ g cap, e = .returned (.slice (some ⟨g, 0, none⟩) n cap) ∧ (w'.heap.size ≤ g ∧ g < w''.heap.size ∧ RdN w'' (some ⟨g, 0, none⟩) xs) ∧ Below w'.heap.size w' w'') := by
    intro w' h
    exact copy_rd A xs n c w' hn (hr.below (HC0.out.trans (h.2.2.mono (Nat.le_of_lt HBW.out)))) hA hl
  clear hr hn hA hl
  have hD0 := held_drew (held_alloc (.cells #[.slice none 0 0, .int .i64 0] 24) HBW.out ⟨h1, h2, Below.refl W.heap.size W⟩)
  have HW := Lib.hid hW
  clear hW
  go_enter Try.func12, Try.ntmps12
  go_wp2_with fail
  rw [← HW.out, ← HWS.out]
  go_region_held3 (fun w' => w'.cell? ⟨w.heap.size, 0, none⟩ = some (.slice A n c) ∧ w'.cell? ⟨w.heap.size, 1, none⟩ = some (.int .i64 L) ∧ Below W.heap.size W w')
    (first | exact hS | exact hD0 | exact held_alloc _ HBW.out (by assumption) | exact held_set _ _ HBW.out (Nat.le_refl _) (held_set _ _ HBW.out (Nat.le_refl _) (by assumption)))
    (first | (go_at_call 38; refine (CL.out _ (by assumption)).mono ?_; rintro e w3 ⟨g, cap, rfl, ho, hb⟩; have hS := held_below w3 HBW.out (by assumption) hb; obtain ⟨hc, hf⟩ := old_cells hb))
  all_goals go_wp2_with fail
  have hz : (W.alloc (.cells #[.slice none 0 0, .int .i64 0] 24)).drew.heap.size = W.heap.size + 1 := by simp
  have hw3 : W.heap.size + 1 ≤ w3.heap.size := by rw [← hz]; exact hb.size
  have c0 : w3.cell? ⟨W.heap.size, 0, none⟩ = some (.slice none 0 0) := by rw [hc _ _ (by rw [hz]; omega)]; simp
  have c1 : w3.cell? ⟨W.heap.size, 1, none⟩ = some (.int .i64 0) := by rw [hc _ _ (by rw [hz]; omega)]; simp
  have hg : W.heap.size ≠ g := by have h := ho.1; rw [hz] at h; omega
  refine bodyPost_ret (v := .agg #[.slice (some ⟨g, 0, none⟩) n cap, .int .i64 L]) (by simp [results, Try.results12, go_sem, c0, c1]) rfl ⟨g, cap, rfl, ⟨?_, ?_, (ho.2.2.far _ (fun ad e => ?_) _).far _ (fun ad e => ?_) _⟩, ?_⟩
  · have h := ho.1; rw [hz] at h; have := HBW.out; omega
  · have h := ho.2.1; simpa [World.setCell] using h
  · injection e with e; subst e; exact fun h => hg h.symm
  · injection e with e; subst e; exact fun h => hg h.symm
  · exact HC0.out.trans (((‹_ ∧ _ ∧ Below W.heap.size W (World.setCell (World.setCell w3 _ _) _ _)›).2.2).mono (Nat.le_of_lt HBW.out))
end Go.Proofs.Ytgljaimoaijcaaa
