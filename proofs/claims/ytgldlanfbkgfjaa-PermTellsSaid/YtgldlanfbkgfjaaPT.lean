/- graph.compare, and the world that it leaves: what lay lies as it lay, blocks are laid behind it (layer 3). -/
import Derived.Test.YtgldlanfbkgfjaaPS
namespace Go.Proofs.Ytgldlanfbkgfjaa
open Go.RowKit Go.Sort

/-- Draws, and blocks behind all that lay; nothing else. -/
def Grown (W w' : World) : Prop := ∃ q os, w' = grow (W.drewN q) os
theorem Grown.refl (W : World) : Grown W W := ⟨0, #[], by simp [grow]; rfl⟩
theorem Grown.alloc {W w' : World} (h : Grown W w') (o : Obj) : Grown W (w'.alloc o) := by
  obtain ⟨q, os, rfl⟩ := h
  exact ⟨q, os ++ #[o], by rw [alloc_eq_grow, grow_grow]⟩
theorem Grown.drew {W w' : World} (h : Grown W w') : Grown W w'.drew := by
  obtain ⟨q, os, rfl⟩ := h
  exact ⟨q + 1, os, rfl⟩
theorem Grown.below {W w' : World} (h : Grown W w') : Below W.heap.size W w' := by
  obtain ⟨q, os, rfl⟩ := h
  refine ⟨rfl, rfl, rfl, by simp [grow, World.drewN], fun k hk => ?_⟩
  show (W.heap ++ os)[k]? = _
  exact Array.getElem?_append_left hk
theorem Grown.trans {A B C : World} (h : Grown A B) (k : Grown B C) : Grown A C := by
  obtain ⟨q, os, rfl⟩ := h
  obtain ⟨r, ps, rfl⟩ := k
  refine ⟨q + r, os ++ ps, ?_⟩
  simp [grow, World.drewN, Array.append_assoc, Nat.add_assoc]

theorem or_same (g c : Nat) (a b : Int) (w : World) (h0 : w.cell? ⟨g, 0, none⟩ = some (.int .i64 a)) (h1 : w.cell? ⟨g, 1, none⟩ = some (.int .i64 b)) :
    Calls Try.prog 48 #[.slice (some ⟨g, 0, none⟩) 2 c] w fun e w' => e = .returned (.int .i64 (orZ a b)) ∧ w = w' := by
  by_cases ha : a = 0
  · subst ha
    by_cases hb : b = 0
    · subst hb
      go_enter Try.func48, Try.ntmps48
      go_wp2_with fail
      go_loopw [8] (fun s wr => (s = .int .i64 0 ∨ s = .int .i64 1 ∨ s = .int .i64 2) ∧ wr = w) (fun s _ => 2 - (intOf s).toNat)
      case atStart => exact ⟨.inl rfl, rfl⟩
      case round =>
        obtain ⟨rfl | rfl | rfl, rfl⟩ := hrel
        · go_wp2_with fail
          go_roundw
          case rel => exact ⟨.inr (.inl rfl), by first | rfl | trivial⟩
          case measure => simp [intOf]
        · go_wp2_with fail
          go_roundw
          case rel => exact ⟨.inr (.inr rfl), by first | rfl | trivial⟩
          case measure => simp [intOf]
        · go_wp2_with fail
          go_ret
          exact ⟨rfl, rfl⟩
    · have hd : (b == 0) = false := by simpa using hb
      go_enter Try.func48, Try.ntmps48
      go_wp2_with fail
      go_loopw [8] (fun s wr => (s = .int .i64 0 ∨ s = .int .i64 1) ∧ wr = w) (fun s _ => 2 - (intOf s).toNat)
      case atStart => exact ⟨.inl rfl, rfl⟩
      case round =>
        obtain ⟨rfl | rfl, rfl⟩ := hrel
        · go_wp2_with fail
          go_roundw
          case rel => exact ⟨.inr rfl, by first | rfl | trivial⟩
          case measure => simp [intOf]
        · go_wp2_with fail
          go_ret
          exact ⟨rfl, rfl⟩
  · have hd : (a == 0) = false := by simpa using ha
    have ho : Hid (orZ a b = a) := by show _ = _; simp [orZ, ha]
    go_enter Try.func48, Try.ntmps48
    go_wp2_with fail
    go_loopw [8] (fun s wr => s = .int .i64 0 ∧ wr = w) (fun s _ => 2 - (intOf s).toNat)
    case atStart => exact ⟨rfl, rfl⟩
    case round =>
      obtain ⟨rfl, rfl⟩ := hrel
      go_wp2_with fail
      go_ret
      exact ⟨ret_int ho.out.symm, rfl⟩

section
variable {W w' : World} {b0 b1 : Nat} {v0 v1 u0 u1 : Value}
theorem fourG_alloc (o : Obj) (h0 : b0 < W.heap.size) (h1 : b1 < W.heap.size) (h : w'.cell? ⟨b0, 0, none⟩ = some v0 ∧ w'.cell? ⟨b0, 1, none⟩ = some v1 ∧ w'.cell? ⟨b1, 0, none⟩ = some u0 ∧ w'.cell? ⟨b1, 1, none⟩ = some u1 ∧ Grown W w') :
    (w'.alloc o).cell? ⟨b0, 0, none⟩ = some v0 ∧ (w'.alloc o).cell? ⟨b0, 1, none⟩ = some v1 ∧ (w'.alloc o).cell? ⟨b1, 0, none⟩ = some u0 ∧ (w'.alloc o).cell? ⟨b1, 1, none⟩ = some u1 ∧ Grown W (w'.alloc o) := by
  obtain ⟨a, b, c, d, e⟩ := h
  obtain ⟨a, b, c, d, _⟩ := four_alloc (W := W) o h0 h1 ⟨a, b, c, d, e.below⟩
  exact ⟨a, b, c, d, e.alloc o⟩
end

set_option maxHeartbeats 2000000 in
theorem compare_grown (a b : Int × Int) (w : World) :
    Calls Try.prog 43 #[.agg #[.int .i64 a.1, .int .i64 a.2], .agg #[.int .i64 b.1, .int .i64 b.2]] w fun e w' => e = .returned (.int .i64 (cmpP a b)) ∧ Grown w w' := by
  obtain ⟨a0, a1⟩ := a
  obtain ⟨b0, b1⟩ := b
  have HC : Hid (cmpP (a0, a1) (b0, b1) = orZ (cmpZ a0 b0) (cmpZ a1 b1)) := rfl
  rw [HC.out]
  obtain ⟨W, hW⟩ : ∃ W, W = (w.alloc (.cells #[.int .i64 a0, .int .i64 a1] 56)).alloc (.cells #[.int .i64 b0, .int .i64 b1] 56) := ⟨_, rfl⟩
  have hWS : W.heap.size = w.heap.size + 1 + 1 := by rw [hW]; simp
  have hbW : Grown w W := by rw [hW]; exact ((Grown.refl _).alloc _).alloc _
  obtain ⟨i0, i1, _, _⟩ := cells_two (w := W) (by rw [hW]; exact two_first w _ _)
  obtain ⟨i2, i3, _, _⟩ := cells_two (w := W) (by rw [hW]; exact two_second w _ _)
  have HW := Lib.hid hW
  have HB := Lib.hid hbW
  have H0 : Hid (w.heap.size < W.heap.size) := by show _ < _; omega
  have H1 : Hid (w.heap.size + 1 < W.heap.size) := by show _ < _; omega
  have hD : W.drew.cell? ⟨w.heap.size, 0, none⟩ = some (.int .i64 a0) ∧ W.drew.cell? ⟨w.heap.size, 1, none⟩ = some (.int .i64 a1) ∧ W.drew.cell? ⟨w.heap.size + 1, 0, none⟩ = some (.int .i64 b0) ∧ W.drew.cell? ⟨w.heap.size + 1, 1, none⟩ = some (.int .i64 b1) ∧ Grown W W.drew := ⟨i0, i1, i2, i3, (Grown.refl W).drew⟩
  clear hW hbW hWS
  go_enter Try.func43, Try.ntmps43
  go_wp2_with fail
  rw [← HW.out]
  go_region_held3 (fun w' => w'.cell? ⟨w.heap.size, 0, none⟩ = some (.int .i64 a0) ∧ w'.cell? ⟨w.heap.size, 1, none⟩ = some (.int .i64 a1) ∧ w'.cell? ⟨w.heap.size + 1, 0, none⟩ = some (.int .i64 b0) ∧ w'.cell? ⟨w.heap.size + 1, 1, none⟩ = some (.int .i64 b1) ∧ Grown W w')
    (first | exact hS | exact hD | exact fourG_alloc _ H0.out H1.out (by assumption) | exact fourG_alloc _ H0.out H1.out hD)
    (first
      | (go_at_call 49; refine (cmpZ_any _ _ _).mono ?_; rintro e wn ⟨rfl, rfl⟩)
      | (go_at_call 48; refine (or_same _ _ (cmpZ a0 b0) (cmpZ a1 b1) _ (World.cell?_alloc_at _ _ _ _ rfl) (World.cell?_alloc_at _ _ _ _ rfl)).mono ?_; rintro e wn ⟨rfl, rfl⟩))
  all_goals go_wp2_with fail
  all_goals go_ret
  all_goals exact ⟨rfl, HB.out.trans (fourG_alloc _ H0.out H1.out hD).2.2.2.2⟩

/-- A pair's two cells. -/
def encP (x : Int × Int) : List Value := [.int .i64 x.1, .int .i64 x.2]
theorem cmp_lays (blk off size : Nat) (w : World) : CmpLays Try.prog 43 #[] encP 2 cmpP blk off size w :=
  fun _ _ _ _ x y => compare_grown x y _
theorem cmpP_lt (x y : Int × Int) : ltOf cmpP x y = decide (x.1 < y.1 ∨ (x.1 = y.1 ∧ x.2 < y.2)) := by
  unfold ltOf cmpP orZ cmpZ
  congr 1
  rw [eq_iff_iff]
  by_cases h1 : x.1 < y.1
  · simp [h1]
  · by_cases h2 : y.1 < x.1
    · simp [h1, h2]; omega
    · by_cases h3 : x.2 < y.2
      · simp [h1, h2, h3]; omega
      · by_cases h4 : y.2 < x.2 <;> simp [h1, h2, h3, h4]
theorem cmpP_swo : SWO (ltOf cmpP) where
  irrefl x := by rw [cmpP_lt]; simp
  trans x y z h1 h2 := by rw [cmpP_lt] at *; simp at *; omega
  ntrans x y z h1 h2 := by rw [cmpP_lt] at *; simp at *; omega
end Go.Proofs.Ytgldlanfbkgfjaa
