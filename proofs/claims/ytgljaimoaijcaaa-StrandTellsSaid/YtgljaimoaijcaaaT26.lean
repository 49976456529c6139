/- The walk of StrandTells. -/
import Derived.Test.YtgljaimoaijcaaaT25
namespace Go.Proofs.Ytgljaimoaijcaaa
open Go.RowKit

set_option maxRecDepth 100000 in
set_option maxHeartbeats 4000000 in
theorem tells_slow (As At Ab : Option Addr) (cs ct cb nx ny nz : Nat) (Ls Lt : Int) (n : Nat) (wd fr tt : Int) (w : World)
    (h : gB Ls nx = true ∨ (gB Ls nx = false ∧ gB Lt ny = true) ∨ (gB Ls nx = false ∧ gB Lt ny = false ∧ 250 < nz)) :
    Calls Try.prog 3 #[.agg #[.slice As nx cs, .int .i64 Ls], .agg #[.slice At ny ct, .int .i64 Lt], .agg #[.int .u64 n, .int .i64 wd, .int .i64 fr, .int .i64 tt, .slice Ab nz cb]] w
      fun e w' => e = .returned (.bool true) ∧ Below w.heap.size w w' := by
  obtain ⟨W3, hW3⟩ : ∃ W3, W3 = ((w.alloc (bx As nx cs Ls)).alloc (bx At ny ct Lt)).alloc (bq n wd fr tt Ab nz cb) := ⟨_, rfl⟩
  have hb3 : Below w.heap.size w W3 := by rw [hW3]; exact (((Below.refl _ _).alloc (Nat.le_refl _) _).alloc (by simp) _).alloc (by simp; omega) _
  have hz3 : W3.heap.size = w.heap.size + 1 + 1 + 1 := by rw [hW3]; simp
  have HF : Hid (∀ w', Below W3.heap.size W3 w' → Below w.heap.size w w') := fun w' hb => hb3.trans (hb.mono (by omega))
  have hK : Kn W3 W3 [(w.heap.size + 1 + 1, bq n wd fr tt Ab nz cb), (w.heap.size + 1, bx At ny ct Lt), (w.heap.size, bx As nx cs Ls)] [] := by
    have k : Kn w w [] [] := ⟨Has.nil_ w, (fun r hr => by cases hr), Below.refl _ _⟩
    have k3 := ((k.new (bx As nx cs Ls)).new (bx At ny ct Lt)).new (bq n wd fr tt Ab nz cb)
    simp only [World.size_alloc, ← hW3] at k3
    exact ⟨k3.1, k3.2.1, Below.refl _ _⟩
  have K0 := Lib.hid hK
  have HW3 := Lib.hid hW3
  have GA : Hid (∀ w', Calls Try.prog 10 #[.agg #[.slice As nx cs, .int .i64 Ls]] w' fun e w'' => e = .returned (.bool (gB Ls nx)) ∧ Below w'.heap.size w' w'') := fun w' => great_any As nx cs Ls w'
  have GB : Hid (∀ w', Calls Try.prog 10 #[.agg #[.slice At ny ct, .int .i64 Lt]] w' fun e w'' => e = .returned (.bool (gB Lt ny)) ∧ Below w'.heap.size w' w'') := fun w' => great_any At ny ct Lt w'
  clear hK hW3 hb3 hz3
  obtain ⟨i1, i2, i3, i4⟩ := K0.out.two 2 rfl
  rcases h with h1 | ⟨h1, h2⟩ | ⟨h1, h2, h3⟩
  · rw [h1] at GA
    clear h1
    go_enter Try.func3, Try.ntmps3
    go_wp2_with fail
    rw [← HW3.out]
    refine (GA.out _).mono ?_
    rintro e w1 ⟨rfl, hb⟩
    have K1 := Lib.hid (K0.out.below hb)
    clear hb K0 i1 i2 i3 i4
    go_wp2_with fail
    refine (awake_any _).mono ?_
    rintro e w2 ⟨rfl, hb⟩
    go_wp2_with fail
    go_ret
    exact ⟨rfl, HF.out _ (K1.out.below hb).b⟩
  · rw [h1] at GA
    rw [h2] at GB
    clear h1 h2
    go_enter Try.func3, Try.ntmps3
    go_wp2_with fail
    rw [← HW3.out]
    refine (GA.out _).mono ?_
    rintro e w1 ⟨rfl, hb⟩
    have K1 := Lib.hid (K0.out.below hb)
    clear hb K0 i1 i2 i3 i4
    obtain ⟨i1, i2, i3, i4⟩ := K1.out.two 1 rfl
    go_wp2_with fail
    refine (GB.out _).mono ?_
    rintro e w2 ⟨rfl, hb⟩
    have K2 := Lib.hid (K1.out.below hb)
    clear hb K1 i1 i2 i3 i4
    go_wp2_with fail
    refine (awake_any _).mono ?_
    rintro e w3 ⟨rfl, hb⟩
    go_wp2_with fail
    go_ret
    exact ⟨rfl, HF.out _ (K2.out.below hb).b⟩
  · rw [h1] at GA
    rw [h2] at GB
    have d3 : decide ((250 : Int) < (nz : Int)) = true := by simp; omega
    clear h1 h2 h3
    go_enter Try.func3, Try.ntmps3
    go_wp2_with fail
    rw [← HW3.out]
    refine (GA.out _).mono ?_
    rintro e w1 ⟨rfl, hb⟩
    have K1 := Lib.hid (K0.out.below hb)
    clear hb K0 i1 i2 i3 i4
    obtain ⟨i1, i2, i3, i4⟩ := K1.out.two 1 rfl
    go_wp2_with fail
    refine (GB.out _).mono ?_
    rintro e w2 ⟨rfl, hb⟩
    have K2 := Lib.hid (K1.out.below hb)
    clear hb K1 i1 i2 i3 i4
    obtain ⟨i5, i6, i7, i8, i9⟩ := K2.out.five 0 rfl
    go_wp2_with fail
    refine (awake_any _).mono ?_
    rintro e w3 ⟨rfl, hb⟩
    go_wp2_with fail
    go_ret
    exact ⟨rfl, HF.out _ (K2.out.below hb).b⟩

theorem tells_walk (v0 v1 v2 : Value) (w : World) (h0 : OkStrandL w v0) (h1 : OkStrandL w v1) (h2 : OkAsked w v2) :
    Calls Try.prog 3 #[v0, v1, v2] w fun e w' => e = .returned (.bool true) ∧ Below w.heap.size w w' := by
  obtain ⟨As, cs, Ls, xs, rfl, x1, x2, _, x4, x5, _⟩ := h0
  obtain ⟨At, ct, Lt, ys, rfl, y1, y2, _, y4, y5, _⟩ := h1
  obtain ⟨n, wd, fr, tt, Ab, cb, zs, rfl, hn, z1, z2, _⟩ := h2
  have slow := tells_slow As At Ab cs ct cb xs.length ys.length zs.length Ls Lt n wd fr tt w
  cases g1 : gB Ls xs.length
  case true => exact slow (.inl g1)
  cases g2 : gB Lt ys.length
  case true => exact slow (.inr (.inl ⟨g1, g2⟩))
  by_cases g3 : zs.length ≤ 250
  · exact tells_main As At Ab cs ct cb Ls Lt xs ys zs n wd fr tt w x1 y1 z1 x2 y2 z2 x4 y4 g1 g2 g3 x5 y5 hn
  · exact slow (.inr (.inr ⟨g1, g2, by omega⟩))
end Go.Proofs.Ytgljaimoaijcaaa
