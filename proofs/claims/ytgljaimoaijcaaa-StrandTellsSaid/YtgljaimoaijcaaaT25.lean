/- The walk of StrandTells: the copies. -/
import Derived.Test.YtgljaimoaijcaaaT24
namespace Go.Proofs.Ytgljaimoaijcaaa
open Go.RowKit

/-- The block of a strand that is a variable. -/
abbrev bx (A : Option Addr) (n c : Nat) (L : Int) : Obj := .cells #[.slice A n c, .int .i64 L] 24 (0, 0)
abbrev bq (n : Nat) (wd fr tt : Int) (A : Option Addr) (m c : Nat) : Obj := .cells #[.int .u64 n, .int .i64 wd, .int .i64 fr, .int .i64 tt, .slice A m c] 27 (0, 0)
section
variable {W w' : World} {b0 b1 : Nat} {v0 v1 u0 u1 : Value}
theorem four_alloc (o : Obj) (h0 : b0 < W.heap.size) (h1 : b1 < W.heap.size) (h : w'.cell? ⟨b0, 0, none⟩ = some v0 ∧ w'.cell? ⟨b0, 1, none⟩ = some v1 ∧ w'.cell? ⟨b1, 0, none⟩ = some u0 ∧ w'.cell? ⟨b1, 1, none⟩ = some u1 ∧ Below W.heap.size W w') :
    (w'.alloc o).cell? ⟨b0, 0, none⟩ = some v0 ∧ (w'.alloc o).cell? ⟨b0, 1, none⟩ = some v1 ∧ (w'.alloc o).cell? ⟨b1, 0, none⟩ = some u0 ∧ (w'.alloc o).cell? ⟨b1, 1, none⟩ = some u1 ∧ Below W.heap.size W (w'.alloc o) := by
  obtain ⟨a, b, c, d, e⟩ := h
  have k0 := held_alloc o h0 ⟨a, b, e⟩
  have k1 := held_alloc o h1 ⟨c, d, e⟩
  exact ⟨k0.1, k0.2.1, k1.1, k1.2.1, k1.2.2⟩
theorem four_drew (h : w'.cell? ⟨b0, 0, none⟩ = some v0 ∧ w'.cell? ⟨b0, 1, none⟩ = some v1 ∧ w'.cell? ⟨b1, 0, none⟩ = some u0 ∧ w'.cell? ⟨b1, 1, none⟩ = some u1 ∧ Below W.heap.size W w') :
    w'.drew.cell? ⟨b0, 0, none⟩ = some v0 ∧ w'.drew.cell? ⟨b0, 1, none⟩ = some v1 ∧ w'.drew.cell? ⟨b1, 0, none⟩ = some u0 ∧ w'.drew.cell? ⟨b1, 1, none⟩ = some u1 ∧ Below W.heap.size W w'.drew := by
  obtain ⟨a, b, c, d, e⟩ := h
  exact ⟨a, b, c, d, e.drew⟩
theorem four_set (p : Addr) (u : Value) (h0 : b0 < W.heap.size) (h1 : b1 < W.heap.size) (hp : W.heap.size ≤ p.block) (h : w'.cell? ⟨b0, 0, none⟩ = some v0 ∧ w'.cell? ⟨b0, 1, none⟩ = some v1 ∧ w'.cell? ⟨b1, 0, none⟩ = some u0 ∧ w'.cell? ⟨b1, 1, none⟩ = some u1 ∧ Below W.heap.size W w') :
    (w'.setCell p u).cell? ⟨b0, 0, none⟩ = some v0 ∧ (w'.setCell p u).cell? ⟨b0, 1, none⟩ = some v1 ∧ (w'.setCell p u).cell? ⟨b1, 0, none⟩ = some u0 ∧ (w'.setCell p u).cell? ⟨b1, 1, none⟩ = some u1 ∧ Below W.heap.size W (w'.setCell p u) := by
  obtain ⟨a, b, c, d, e⟩ := h
  have k0 := held_set p u h0 hp ⟨a, b, e⟩
  have k1 := held_set p u h1 hp ⟨c, d, e⟩
  exact ⟨k0.1, k0.2.1, k1.1, k1.2.1, k1.2.2⟩
theorem four_below (w2 : World) (h0 : b0 < W.heap.size) (h1 : b1 < W.heap.size) (h : w'.cell? ⟨b0, 0, none⟩ = some v0 ∧ w'.cell? ⟨b0, 1, none⟩ = some v1 ∧ w'.cell? ⟨b1, 0, none⟩ = some u0 ∧ w'.cell? ⟨b1, 1, none⟩ = some u1 ∧ Below W.heap.size W w') (k : Below w'.heap.size w' w2) :
    w2.cell? ⟨b0, 0, none⟩ = some v0 ∧ w2.cell? ⟨b0, 1, none⟩ = some v1 ∧ w2.cell? ⟨b1, 0, none⟩ = some u0 ∧ w2.cell? ⟨b1, 1, none⟩ = some u1 ∧ Below W.heap.size W w2 := by
  obtain ⟨a, b, c, d, e⟩ := h
  have k0 := held_below w2 h0 ⟨a, b, e⟩ k
  have k1 := held_below w2 h1 ⟨c, d, e⟩ k
  exact ⟨k0.1, k0.2.1, k1.1, k1.2.1, k1.2.2⟩
end

set_option maxRecDepth 100000 in
set_option maxHeartbeats 8000000 in
theorem tells_main (As At Ab : Option Addr) (cs ct cb : Nat) (Ls Lt : Int) (xs ys zs : List Int) (n : Nat) (wd fr tt : Int) (w : World)
    (h1 : isBytes xs) (h2 : isBytes ys) (h3 : isBytes zs) (r1 : RdB w As xs) (r2 : RdB w At ys) (r3 : RdB w Ab zs) (e1 : As = none → cs = 0) (e2 : At = none → ct = 0)
    (g1 : gB Ls xs.length = false) (g2 : gB Lt ys.length = false) (g3 : zs.length ≤ 250) (l1 : -9223372036854775808 ≤ Ls) (l2 : -9223372036854775808 ≤ Lt) (hn : n < 18446744073709551616) :
    Calls Try.prog 3 #[.agg #[.slice As xs.length cs, .int .i64 Ls], .agg #[.slice At ys.length ct, .int .i64 Lt], .agg #[.int .u64 n, .int .i64 wd, .int .i64 fr, .int .i64 tt, .slice Ab zs.length cb]] w
      fun e w' => e = .returned (.bool true) ∧ Below w.heap.size w w' := by
  obtain ⟨ns, n1, n2, n3, n4⟩ := rdn_of h1 r1
  obtain ⟨ms, m1, m2, m3, m4⟩ := rdn_of h2 r2
  obtain ⟨W3, hW3⟩ : ∃ W3, W3 = ((w.alloc (bx As xs.length cs Ls)).alloc (bx At ys.length ct Lt)).alloc (bq n wd fr tt Ab zs.length cb) := ⟨_, rfl⟩
  have hb3 : Below w.heap.size w W3 := by rw [hW3]; exact (((Below.refl _ _).alloc (Nat.le_refl _) _).alloc (by simp) _).alloc (by simp; omega) _
  have K0 : Kn W3 W3 [(w.heap.size + 1 + 1, bq n wd fr tt Ab zs.length cb), (w.heap.size + 1, bx At ys.length ct Lt), (w.heap.size, bx As xs.length cs Ls)] [] := by
    have k : Kn w w [] [] := ⟨Has.nil_ w, (fun r hr => by cases hr), Below.refl _ _⟩
    have k3 := ((k.new (bx As xs.length cs Ls)).new (bx At ys.length ct Lt)).new (bq n wd fr tt Ab zs.length cb)
    simp only [World.size_alloc, ← hW3] at k3
    exact ⟨k3.1, k3.2.1, Below.refl _ _⟩
  have HB3 := Lib.hid hb3
  have HZ3 : Hid (W3.heap.size = w.heap.size + 1 + 1 + 1) := by show _ = _; rw [hW3]; simp
  have GA : ∀ w', Calls Try.prog 10 #[.agg #[.slice As xs.length cs, .int .i64 Ls]] w' fun e w'' => e = .returned (.bool false) ∧ Below w'.heap.size w' w'' := fun w' => by
    have := great_any As xs.length cs Ls w'
    rw [show (decide (2000 < Ls) || decide (250 < xs.length)) = false from g1] at this
    exact this
  have GB : ∀ w', Calls Try.prog 10 #[.agg #[.slice At ys.length ct, .int .i64 Lt]] w' fun e w'' => e = .returned (.bool false) ∧ Below w'.heap.size w' w'' := fun w' => by
    have := great_any At ys.length ct Lt w'
    rw [show (decide (2000 < Lt) || decide (250 < ys.length)) = false from g2] at this
    exact this
  have HGA := Lib.hid GA
  have HGB := Lib.hid GB
  simp only [gB, Bool.or_eq_false_iff, decide_eq_false_iff_not] at g1 g2
  have dB : decide ((250 : Int) < (zs.length : Int)) = false := by simp; omega
  have HX : Hid (xs.length ≤ 250 ∧ Ls ≤ 2000 ∧ -9223372036854775808 ≤ Ls) := by show _ ∧ _ ∧ _; omega
  have HY : Hid (ys.length ≤ 250 ∧ Lt ≤ 2000 ∧ -9223372036854775808 ≤ Lt) := by show _ ∧ _ ∧ _; omega
  have H1 := Lib.hid h1
  have H2 := Lib.hid h2
  have H3 := Lib.hid h3
  have R1 := Lib.hid (n3.below hb3)
  have R2 := Lib.hid (m3.below hb3)
  have R3 := Lib.hid (r3.below hb3)
  have E1 := Lib.hid e1
  have E2 := Lib.hid e2
  have N1 := Lib.hid n1
  have N2 := Lib.hid n2
  have N4 := Lib.hid n4
  have M1 := Lib.hid m1
  have M2 := Lib.hid m2
  have M4 := Lib.hid m4
  have HNN := Lib.hid hn
  have HW3 := Lib.hid hW3
  have HZB := Lib.hid g3
  have K0 := Lib.hid K0
  obtain ⟨i1, i2, _, _⟩ := K0.out.two 2 rfl
  obtain ⟨i3, i4, _, _⟩ := K0.out.two 1 rfl
  obtain ⟨i5, i6, i7, i8, i9⟩ := K0.out.five 0 rfl
  clear h1 h2 h3 r1 r2 r3 e1 e2 n1 n2 n3 n4 m1 m2 m3 m4 hn hW3 hb3 GA GB g1 g2 g3 l1 l2
  generalize hnx : xs.length = nx at *
  generalize hny : ys.length = ny at *
  generalize hnz : zs.length = nz at *
  have HNX := Lib.hid hnx
  have HNY := Lib.hid hny
  have HNZ := Lib.hid hnz
  clear hnx hny hnz
  go_enter Try.func3, Try.ntmps3
  go_wp2_with fail
  rw [← HW3.out]
  refine (HGA.out _).mono ?_
  rintro e w1 ⟨rfl, hb⟩
  have K1 := Lib.hid (K0.out.below hb)
  clear hb K0 i1 i2 i3 i4 i5 i6 i7 i8 i9
  obtain ⟨i1, i2, _, _⟩ := K1.out.two 2 rfl
  obtain ⟨i3, i4, _, _⟩ := K1.out.two 1 rfl
  obtain ⟨i5, i6, i7, i8, i9⟩ := K1.out.five 0 rfl
  go_wp2_with fail
  refine (HGB.out _).mono ?_
  rintro e w2 ⟨rfl, hb⟩
  have K2 := Lib.hid (K1.out.below hb)
  clear hb K1 i1 i2 i3 i4 i5 i6 i7 i8 i9
  obtain ⟨i1, i2, _, _⟩ := K2.out.two 2 rfl
  obtain ⟨i3, i4, _, _⟩ := K2.out.two 1 rfl
  obtain ⟨i5, i6, i7, i8, i9⟩ := K2.out.five 0 rfl
  go_upto_region 3 with fail
  go_cut [7, 8] (fun s7 s8 wx => ∃ p q g1 c1 g2 c2 : Nat, s7 = .pointer (some ⟨p, 0, none⟩) ∧ s8 = .pointer (some ⟨q, 0, none⟩) ∧ p ≠ q ∧ w2.heap.size ≤ p ∧ w2.heap.size ≤ q ∧
    wx.heap[p]? = some (bx (some ⟨g1, 0, none⟩) nx c1 Ls) ∧ wx.heap[q]? = some (bx (some ⟨g2, 0, none⟩) ny c2 Lt) ∧ RdN wx (some ⟨g1, 0, none⟩) ns ∧ RdN wx (some ⟨g2, 0, none⟩) ms ∧ g1 ≠ p ∧ g1 ≠ q ∧ g2 ≠ p ∧ g2 ≠ q ∧ Below w2.heap.size w2 wx)
  case first => as_aux_lemma =>
    have HBW : Hid (w.heap.size + 1 < w2.heap.size) := by have := K2.out.b.size; show _ < _; have := HZ3.out; omega
    have HBV : Hid (w.heap.size < w2.heap.size) := by have := HBW.out; show _ < _; omega
    have CA : Hid (∀ w', Below w2.heap.size w2 w' →
        Calls Try.prog 12 #[.agg #[.slice As nx cs, .int .i64 Ls]] w' fun e w'' => ∃ g cap, e = .returned (.agg #[.slice (some ⟨g, 0, none⟩) nx cap, .int .i64 Ls]) ∧ (w'.heap.size ≤ g ∧ g < w''.heap.size ∧ RdN w'' (some ⟨g, 0, none⟩) ns) ∧ Below w'.heap.size w' w'') := by
      intro w' h
      exact copyS_any As ns nx cs Ls w' N1.out.symm (R1.out.below (next_below K2.out.b h)) E1.out (by have := HX.out.1; omega)
    have CB : Hid (∀ w', Below w2.heap.size w2 w' →
        Calls Try.prog 12 #[.agg #[.slice At ny ct, .int .i64 Lt]] w' fun e w'' => ∃ g cap, e = .returned (.agg #[.slice (some ⟨g, 0, none⟩) ny cap, .int .i64 Lt]) ∧ (w'.heap.size ≤ g ∧ g < w''.heap.size ∧ RdN w'' (some ⟨g, 0, none⟩) ms) ∧ Below w'.heap.size w' w'') := by
      intro w' h
      exact copyS_any At ms ny ct Lt w' M1.out.symm (R2.out.below (next_below K2.out.b h)) E2.out (by have := HY.out.1; omega)
    have Kz : Kn w2 w2.drew [] [] := ⟨Has.nil_ _, (fun r hr => by cases hr), (Below.refl w2.heap.size w2).drew⟩
    have hS := Kz.b
    have Kz := Lib.hid Kz
    clear K2 i5 i6 i7 i8 i9 H1 H2 H3 R1 R2 R3 E1 E2 N1 N2 N4 M1 M2 M4 HNN HW3 HZB HNX HNY HNZ HGA HGB HX HY HB3 HZ3
    refine wp_region_held_drew (S := fun w' => Below w2.heap.size w2 w') (by kernel_rfl) hS (fun hS => ?_)
    refine wpAnyH_take (i := 0) (v := ?_) rfl (by kernel_rfl) (by kernel_rfl) (by kernel_rfl) (fun _ _ _ h => h) (Or.inl ⟨by rfl, ?_⟩) hS ?_
    rotate_left
    · intro wz hSw; have a0 := (hSw.cell (p := ⟨w.heap.size, 0, none⟩) HBV.out).trans i1; have a1 := (hSw.cell (p := ⟨w.heap.size, 1, none⟩) HBV.out).trans i2; go_simp; (try with_reducible rfl)
    try simp only [List.getElem_toArray, List.getElem_cons_zero, List.getElem_cons_succ, Act.put, List.setIfInBounds_toArray, List.set_cons_zero, List.set_cons_succ]
    refine wpAnyH_take (i := 2) (v := ?_) rfl (by kernel_rfl) (by kernel_rfl) (by kernel_rfl) (fun _ _ _ h => h) (Or.inl ⟨by rfl, ?_⟩) hS ?_
    rotate_left
    · intro wz hSw; have a0 := (hSw.cell (p := ⟨w.heap.size + 1, 0, none⟩) HBW.out).trans i3; have a1 := (hSw.cell (p := ⟨w.heap.size + 1, 1, none⟩) HBW.out).trans i4; go_simp; (try with_reducible rfl)
    try simp only [List.getElem_toArray, List.getElem_cons_zero, List.getElem_cons_succ, Act.put, List.setIfInBounds_toArray, List.set_cons_zero, List.set_cons_succ]
    refine wpAnyH_ready (rs := [1, 4, 5]) (by kernel_rfl) (by simp) (AllReadyH.cons rfl (fun K hK => ?_) (AllReadyH.cons rfl (fun K hK => ?_) (AllReadyH.cons rfl (fun K hK => ?_) AllReadyH.nil)))
    · go_simp
      go_at_call 12
      refine (CA.out _ Kz.out.b).mono ?_
      rintro e w3 ⟨ga, ka, rfl, oa, hb⟩
      have K1z : Hid (Kn w2 w3 [] [(some ⟨ga, 0, none⟩, ns, w2.heap.size, w3.heap.size)]) := by
        have h := (Kz.out.below hb).rd (lo := w2.drew.heap.size) oa.2.2 (fun ad e => by injection e with e; subst e; exact oa.1)
        (try simp only [World.size_alloc] at h)
        (try simp only [World.size_drew] at h)
        exact h
      have hsw3 : w2.heap.size ≤ w3.heap.size := by
        have h := hb.size
        (try simp only [World.size_alloc] at h)
        (try simp only [World.size_drew] at h)
        exact h
      have hlw3 : w2.heap.size ≤ ga := by
        have h := oa.1
        (try simp only [World.size_alloc] at h)
        (try simp only [World.size_drew] at h)
        exact h
      have huw3 : ga < w3.heap.size := oa.2.1
      clear hb oa
      go_wp2_with fail
      have hS := K1z.out.b
      refine hK.out _ _ hS (fun _ => ?_)
      clear hK K Kz
      try simp only [List.getElem_toArray, List.getElem_cons_zero, List.getElem_cons_succ, Act.put, List.setIfInBounds_toArray, List.set_cons_zero, List.set_cons_succ]
      refine wpAnyH_ready (rs := [3, 4, 5]) (by kernel_rfl) (by simp) (AllReadyH.cons rfl (fun K hK => ?_) (AllReadyH.cons rfl (fun K hK => ?_) (AllReadyH.cons rfl (fun K hK => ?_) AllReadyH.nil)))
      · go_simp
        go_at_call 12
        refine (CB.out _ K1z.out.b).mono ?_
        rintro e w4 ⟨gb, kb, rfl, oB, hb⟩
        have K2z : Hid (Kn w2 w4 [] [(some ⟨gb, 0, none⟩, ms, w3.heap.size, w4.heap.size), (some ⟨ga, 0, none⟩, ns, w2.heap.size, w3.heap.size)]) := by
          have h := (K1z.out.below hb).rd (lo := w3.heap.size) oB.2.2 (fun ad e => by injection e with e; subst e; exact oB.1)
          (try simp only [World.size_alloc] at h)
          (try simp only [World.size_drew] at h)
          exact h
        have hsw4 : w3.heap.size ≤ w4.heap.size := by
          have h := hb.size
          (try simp only [World.size_alloc] at h)
          (try simp only [World.size_drew] at h)
          exact h
        have hlw4 : w3.heap.size ≤ gb := by
          have h := oB.1
          (try simp only [World.size_alloc] at h)
          (try simp only [World.size_drew] at h)
          exact h
        have huw4 : gb < w4.heap.size := oB.2.1
        clear hb oB
        go_wp2_with fail
        have hS := K2z.out.b
        refine hK.out _ _ hS (fun _ => ?_)
        clear hK K K1z
        try simp only [List.getElem_toArray, List.getElem_cons_zero, List.getElem_cons_succ, Act.put, List.setIfInBounds_toArray, List.set_cons_zero, List.set_cons_succ]
        refine wpAnyH_ready (rs := [4, 5]) (by kernel_rfl) (by simp) (AllReadyH.cons rfl (fun K hK => ?_) (AllReadyH.cons rfl (fun K hK => ?_) AllReadyH.nil))
        · go_simp
          have K3z : Hid (Kn w2 (w4.alloc (.cells #[.slice none 0 0, .int .i64 0] 24 (0, 0))) [(w4.heap.size, (.cells #[.slice none 0 0, .int .i64 0] 24 (0, 0)))] [(some ⟨gb, 0, none⟩, ms, w3.heap.size, w4.heap.size), (some ⟨ga, 0, none⟩, ns, w2.heap.size, w3.heap.size)]) := by
            have h := K2z.out.new (.cells #[.slice none 0 0, .int .i64 0] 24 (0, 0))
            (try simp only [World.size_alloc] at h)
            (try simp only [World.size_drew] at h)
            exact h
          have hS := K3z.out.b
          refine hK.out _ _ hS (fun _ => ?_)
          clear hK K K2z
          try simp only [List.getElem_toArray, List.getElem_cons_zero, List.getElem_cons_succ, Act.put, List.setIfInBounds_toArray, List.set_cons_zero, List.set_cons_succ]
          refine wpAnyH_ready (rs := [5]) (by kernel_rfl) (by simp) (AllReadyH.cons rfl (fun K hK => ?_) AllReadyH.nil)
          go_simp
          have K4z : Hid (Kn w2 ((w4.alloc (.cells #[.slice none 0 0, .int .i64 0] 24 (0, 0))).alloc (.cells #[.slice none 0 0, .int .i64 0] 24 (0, 0))) [(w4.heap.size + 1, (.cells #[.slice none 0 0, .int .i64 0] 24 (0, 0))), (w4.heap.size, (.cells #[.slice none 0 0, .int .i64 0] 24 (0, 0)))] [(some ⟨gb, 0, none⟩, ms, w3.heap.size, w4.heap.size), (some ⟨ga, 0, none⟩, ns, w2.heap.size, w3.heap.size)]) := by
            have h := K3z.out.new (.cells #[.slice none 0 0, .int .i64 0] 24 (0, 0))
            (try simp only [World.size_alloc] at h)
            (try simp only [World.size_drew] at h)
            exact h
          have hS := K4z.out.b
          refine hK.out _ _ hS (fun _ => ?_)
          clear hK K K3z
          try simp only [List.getElem_toArray, List.getElem_cons_zero, List.getElem_cons_succ, Act.put, List.setIfInBounds_toArray, List.set_cons_zero, List.set_cons_succ]
          generalize ((w4.alloc (.cells #[.slice none 0 0, .int .i64 0] 24 (0, 0))).alloc (.cells #[.slice none 0 0, .int .i64 0] 24 (0, 0))) = X at *
          obtain ⟨_, _, _, _⟩ := K4z.out.two 0 rfl
          obtain ⟨_, _, _, _⟩ := K4z.out.two 1 rfl
          refine wpAnyH_ready (rs := [6]) (by kernel_rfl) (by simp) (AllReadyH.cons rfl (fun K hK => ?_) AllReadyH.nil)
          go_simp
          have K5z : Hid (Kn w2 ((X.setCell ⟨w4.heap.size, 0, none⟩ (.slice (some ⟨ga, 0, none⟩) nx ka)).setCell ⟨w4.heap.size, 1, none⟩ (.int .i64 Ls)) [(w4.heap.size + 1, (.cells #[.slice none 0 0, .int .i64 0] 24 (0, 0))), (w4.heap.size, bx (some ⟨ga, 0, none⟩) nx ka Ls)] [(some ⟨gb, 0, none⟩, ms, w3.heap.size, w4.heap.size), (some ⟨ga, 0, none⟩, ns, w2.heap.size, w3.heap.size)]) := by
            refine Kn.store (L1 := [(w4.heap.size + 1, (.cells #[.slice none 0 0, .int .i64 0] 24 (0, 0)))]) (L2 := []) K4z.out (by omega) ?_ ?_ _ _
            · intro r hr
              have hr : r ∈ [(w4.heap.size + 1, (.cells #[.slice none 0 0, .int .i64 0] 24 (0, 0)))] := hr
              simp only [List.mem_singleton] at hr
              subst hr
              show w4.heap.size + 1 ≠ w4.heap.size
              omega
            · intro r hr
              simp only [List.mem_cons, List.not_mem_nil, or_false] at hr
              rcases hr with rfl | rfl
              · show w4.heap.size < w3.heap.size ∨ w4.heap.size ≤ w4.heap.size
                omega
              · show w4.heap.size < w2.heap.size ∨ w3.heap.size ≤ w4.heap.size
                omega
          have hS := K5z.out.b
          refine hK.out _ _ hS (fun _ => ?_)
          clear hK K K4z
          try simp only [List.getElem_toArray, List.getElem_cons_zero, List.getElem_cons_succ, Act.put, List.setIfInBounds_toArray, List.set_cons_zero, List.set_cons_succ]
          generalize ((X.setCell ⟨w4.heap.size, 0, none⟩ (.slice (some ⟨ga, 0, none⟩) nx ka)).setCell ⟨w4.heap.size, 1, none⟩ (.int .i64 Ls)) = Y at *
          obtain ⟨_, _, _, _⟩ := K5z.out.two 0 rfl
          obtain ⟨_, _, _, _⟩ := K5z.out.two 1 rfl
          refine wpAnyH_ready (rs := [7]) (by kernel_rfl) (by simp) (AllReadyH.cons rfl (fun K hK => ?_) AllReadyH.nil)
          go_simp
          have K6z : Hid (Kn w2 ((Y.setCell ⟨w4.heap.size + 1, 0, none⟩ (.slice (some ⟨gb, 0, none⟩) ny kb)).setCell ⟨w4.heap.size + 1, 1, none⟩ (.int .i64 Lt)) [(w4.heap.size + 1, bx (some ⟨gb, 0, none⟩) ny kb Lt), (w4.heap.size, bx (some ⟨ga, 0, none⟩) nx ka Ls)] [(some ⟨gb, 0, none⟩, ms, w3.heap.size, w4.heap.size), (some ⟨ga, 0, none⟩, ns, w2.heap.size, w3.heap.size)]) := by
            refine Kn.store (L1 := []) (L2 := [(w4.heap.size, bx (some ⟨ga, 0, none⟩) nx ka Ls)]) K5z.out (by omega) ?_ ?_ _ _
            · intro r hr
              have hr : r ∈ [(w4.heap.size, bx (some ⟨ga, 0, none⟩) nx ka Ls)] := hr
              simp only [List.mem_singleton] at hr
              subst hr
              show w4.heap.size ≠ w4.heap.size + 1
              omega
            · intro r hr
              simp only [List.mem_cons, List.not_mem_nil, or_false] at hr
              rcases hr with rfl | rfl
              · show w4.heap.size + 1 < w3.heap.size ∨ w4.heap.size ≤ w4.heap.size + 1
                omega
              · show w4.heap.size + 1 < w2.heap.size ∨ w3.heap.size ≤ w4.heap.size + 1
                omega
          have hS := K6z.out.b
          refine hK.out _ _ hS (fun _ => ?_)
          clear hK K K5z
          try simp only [List.getElem_toArray, List.getElem_cons_zero, List.getElem_cons_succ, Act.put, List.setIfInBounds_toArray, List.set_cons_zero, List.set_cons_succ]
          refine wpAnyH_done (by kernel_rfl) ?_ _
          go_wp2_with fail
          go_meet
          exact ⟨_, _, ga, ka, gb, kb, rfl, rfl, by omega, by omega, by omega, K6z.out.blk 1 rfl, K6z.out.blk 0 rfl, K6z.out.row 1 rfl, K6z.out.row 0 rfl, by omega, by omega, by omega, by omega, K6z.out.b⟩
        · go_simp
          have K7z : Hid (Kn w2 (w4.alloc (.cells #[.slice none 0 0, .int .i64 0] 24 (0, 0))) [(w4.heap.size, (.cells #[.slice none 0 0, .int .i64 0] 24 (0, 0)))] [(some ⟨gb, 0, none⟩, ms, w3.heap.size, w4.heap.size), (some ⟨ga, 0, none⟩, ns, w2.heap.size, w3.heap.size)]) := by
            have h := K2z.out.new (.cells #[.slice none 0 0, .int .i64 0] 24 (0, 0))
            (try simp only [World.size_alloc] at h)
            (try simp only [World.size_drew] at h)
            exact h
          have hS := K7z.out.b
          refine hK.out _ _ hS (fun _ => ?_)
          clear hK K K2z
          try simp only [List.getElem_toArray, List.getElem_cons_zero, List.getElem_cons_succ, Act.put, List.setIfInBounds_toArray, List.set_cons_zero, List.set_cons_succ]
          refine wpAnyH_ready (rs := [4]) (by kernel_rfl) (by simp) (AllReadyH.cons rfl (fun K hK => ?_) AllReadyH.nil)
          go_simp
          have K8z : Hid (Kn w2 ((w4.alloc (.cells #[.slice none 0 0, .int .i64 0] 24 (0, 0))).alloc (.cells #[.slice none 0 0, .int .i64 0] 24 (0, 0))) [(w4.heap.size + 1, (.cells #[.slice none 0 0, .int .i64 0] 24 (0, 0))), (w4.heap.size, (.cells #[.slice none 0 0, .int .i64 0] 24 (0, 0)))] [(some ⟨gb, 0, none⟩, ms, w3.heap.size, w4.heap.size), (some ⟨ga, 0, none⟩, ns, w2.heap.size, w3.heap.size)]) := by
            have h := K7z.out.new (.cells #[.slice none 0 0, .int .i64 0] 24 (0, 0))
            (try simp only [World.size_alloc] at h)
            (try simp only [World.size_drew] at h)
            exact h
          have hS := K8z.out.b
          refine hK.out _ _ hS (fun _ => ?_)
          clear hK K K7z
          try simp only [List.getElem_toArray, List.getElem_cons_zero, List.getElem_cons_succ, Act.put, List.setIfInBounds_toArray, List.set_cons_zero, List.set_cons_succ]
          generalize ((w4.alloc (.cells #[.slice none 0 0, .int .i64 0] 24 (0, 0))).alloc (.cells #[.slice none 0 0, .int .i64 0] 24 (0, 0))) = X at *
          obtain ⟨_, _, _, _⟩ := K8z.out.two 0 rfl
          obtain ⟨_, _, _, _⟩ := K8z.out.two 1 rfl
          refine wpAnyH_ready (rs := [6]) (by kernel_rfl) (by simp) (AllReadyH.cons rfl (fun K hK => ?_) AllReadyH.nil)
          go_simp
          have K9z : Hid (Kn w2 ((X.setCell ⟨w4.heap.size + 1, 0, none⟩ (.slice (some ⟨ga, 0, none⟩) nx ka)).setCell ⟨w4.heap.size + 1, 1, none⟩ (.int .i64 Ls)) [(w4.heap.size + 1, bx (some ⟨ga, 0, none⟩) nx ka Ls), (w4.heap.size, (.cells #[.slice none 0 0, .int .i64 0] 24 (0, 0)))] [(some ⟨gb, 0, none⟩, ms, w3.heap.size, w4.heap.size), (some ⟨ga, 0, none⟩, ns, w2.heap.size, w3.heap.size)]) := by
            refine Kn.store (L1 := []) (L2 := [(w4.heap.size, (.cells #[.slice none 0 0, .int .i64 0] 24 (0, 0)))]) K8z.out (by omega) ?_ ?_ _ _
            · intro r hr
              have hr : r ∈ [(w4.heap.size, (.cells #[.slice none 0 0, .int .i64 0] 24 (0, 0)))] := hr
              simp only [List.mem_singleton] at hr
              subst hr
              show w4.heap.size ≠ w4.heap.size + 1
              omega
            · intro r hr
              simp only [List.mem_cons, List.not_mem_nil, or_false] at hr
              rcases hr with rfl | rfl
              · show w4.heap.size + 1 < w3.heap.size ∨ w4.heap.size ≤ w4.heap.size + 1
                omega
              · show w4.heap.size + 1 < w2.heap.size ∨ w3.heap.size ≤ w4.heap.size + 1
                omega
          have hS := K9z.out.b
          refine hK.out _ _ hS (fun _ => ?_)
          clear hK K K8z
          try simp only [List.getElem_toArray, List.getElem_cons_zero, List.getElem_cons_succ, Act.put, List.setIfInBounds_toArray, List.set_cons_zero, List.set_cons_succ]
          generalize ((X.setCell ⟨w4.heap.size + 1, 0, none⟩ (.slice (some ⟨ga, 0, none⟩) nx ka)).setCell ⟨w4.heap.size + 1, 1, none⟩ (.int .i64 Ls)) = Y at *
          obtain ⟨_, _, _, _⟩ := K9z.out.two 0 rfl
          obtain ⟨_, _, _, _⟩ := K9z.out.two 1 rfl
          refine wpAnyH_ready (rs := [7]) (by kernel_rfl) (by simp) (AllReadyH.cons rfl (fun K hK => ?_) AllReadyH.nil)
          go_simp
          have K10z : Hid (Kn w2 ((Y.setCell ⟨w4.heap.size, 0, none⟩ (.slice (some ⟨gb, 0, none⟩) ny kb)).setCell ⟨w4.heap.size, 1, none⟩ (.int .i64 Lt)) [(w4.heap.size + 1, bx (some ⟨ga, 0, none⟩) nx ka Ls), (w4.heap.size, bx (some ⟨gb, 0, none⟩) ny kb Lt)] [(some ⟨gb, 0, none⟩, ms, w3.heap.size, w4.heap.size), (some ⟨ga, 0, none⟩, ns, w2.heap.size, w3.heap.size)]) := by
            refine Kn.store (L1 := [(w4.heap.size + 1, bx (some ⟨ga, 0, none⟩) nx ka Ls)]) (L2 := []) K9z.out (by omega) ?_ ?_ _ _
            · intro r hr
              have hr : r ∈ [(w4.heap.size + 1, bx (some ⟨ga, 0, none⟩) nx ka Ls)] := hr
              simp only [List.mem_singleton] at hr
              subst hr
              show w4.heap.size + 1 ≠ w4.heap.size
              omega
            · intro r hr
              simp only [List.mem_cons, List.not_mem_nil, or_false] at hr
              rcases hr with rfl | rfl
              · show w4.heap.size < w3.heap.size ∨ w4.heap.size ≤ w4.heap.size
                omega
              · show w4.heap.size < w2.heap.size ∨ w3.heap.size ≤ w4.heap.size
                omega
          have hS := K10z.out.b
          refine hK.out _ _ hS (fun _ => ?_)
          clear hK K K9z
          try simp only [List.getElem_toArray, List.getElem_cons_zero, List.getElem_cons_succ, Act.put, List.setIfInBounds_toArray, List.set_cons_zero, List.set_cons_succ]
          refine wpAnyH_done (by kernel_rfl) ?_ _
          go_wp2_with fail
          go_meet
          exact ⟨_, _, ga, ka, gb, kb, rfl, rfl, by omega, by omega, by omega, K10z.out.blk 0 rfl, K10z.out.blk 1 rfl, K10z.out.row 1 rfl, K10z.out.row 0 rfl, by omega, by omega, by omega, by omega, K10z.out.b⟩
      · go_simp
        have K11z : Hid (Kn w2 (w3.alloc (.cells #[.slice none 0 0, .int .i64 0] 24 (0, 0))) [(w3.heap.size, (.cells #[.slice none 0 0, .int .i64 0] 24 (0, 0)))] [(some ⟨ga, 0, none⟩, ns, w2.heap.size, w3.heap.size)]) := by
          have h := K1z.out.new (.cells #[.slice none 0 0, .int .i64 0] 24 (0, 0))
          (try simp only [World.size_alloc] at h)
          (try simp only [World.size_drew] at h)
          exact h
        have hS := K11z.out.b
        refine hK.out _ _ hS (fun _ => ?_)
        clear hK K K1z
        try simp only [List.getElem_toArray, List.getElem_cons_zero, List.getElem_cons_succ, Act.put, List.setIfInBounds_toArray, List.set_cons_zero, List.set_cons_succ]
        refine wpAnyH_ready (rs := [3, 5]) (by kernel_rfl) (by simp) (AllReadyH.cons rfl (fun K hK => ?_) (AllReadyH.cons rfl (fun K hK => ?_) AllReadyH.nil))
        · go_simp
          go_at_call 12
          refine (CB.out _ K11z.out.b).mono ?_
          rintro e w4 ⟨gb, kb, rfl, oB, hb⟩
          have K12z : Hid (Kn w2 w4 [(w3.heap.size, (.cells #[.slice none 0 0, .int .i64 0] 24 (0, 0)))] [(some ⟨gb, 0, none⟩, ms, w3.heap.size + 1, w4.heap.size), (some ⟨ga, 0, none⟩, ns, w2.heap.size, w3.heap.size)]) := by
            have h := (K11z.out.below hb).rd (lo := (w3.alloc (.cells #[.slice none 0 0, .int .i64 0] 24 (0, 0))).heap.size) oB.2.2 (fun ad e => by injection e with e; subst e; exact oB.1)
            (try simp only [World.size_alloc] at h)
            (try simp only [World.size_drew] at h)
            exact h
          have hsw4 : w3.heap.size + 1 ≤ w4.heap.size := by
            have h := hb.size
            (try simp only [World.size_alloc] at h)
            (try simp only [World.size_drew] at h)
            exact h
          have hlw4 : w3.heap.size + 1 ≤ gb := by
            have h := oB.1
            (try simp only [World.size_alloc] at h)
            (try simp only [World.size_drew] at h)
            exact h
          have huw4 : gb < w4.heap.size := oB.2.1
          clear hb oB
          go_wp2_with fail
          have hS := K12z.out.b
          refine hK.out _ _ hS (fun _ => ?_)
          clear hK K K11z
          try simp only [List.getElem_toArray, List.getElem_cons_zero, List.getElem_cons_succ, Act.put, List.setIfInBounds_toArray, List.set_cons_zero, List.set_cons_succ]
          refine wpAnyH_ready (rs := [5]) (by kernel_rfl) (by simp) (AllReadyH.cons rfl (fun K hK => ?_) AllReadyH.nil)
          go_simp
          have K13z : Hid (Kn w2 (w4.alloc (.cells #[.slice none 0 0, .int .i64 0] 24 (0, 0))) [(w4.heap.size, (.cells #[.slice none 0 0, .int .i64 0] 24 (0, 0))), (w3.heap.size, (.cells #[.slice none 0 0, .int .i64 0] 24 (0, 0)))] [(some ⟨gb, 0, none⟩, ms, w3.heap.size + 1, w4.heap.size), (some ⟨ga, 0, none⟩, ns, w2.heap.size, w3.heap.size)]) := by
            have h := K12z.out.new (.cells #[.slice none 0 0, .int .i64 0] 24 (0, 0))
            (try simp only [World.size_alloc] at h)
            (try simp only [World.size_drew] at h)
            exact h
          have hS := K13z.out.b
          refine hK.out _ _ hS (fun _ => ?_)
          clear hK K K12z
          try simp only [List.getElem_toArray, List.getElem_cons_zero, List.getElem_cons_succ, Act.put, List.setIfInBounds_toArray, List.set_cons_zero, List.set_cons_succ]
          generalize (w4.alloc (.cells #[.slice none 0 0, .int .i64 0] 24 (0, 0))) = X at *
          obtain ⟨_, _, _, _⟩ := K13z.out.two 0 rfl
          obtain ⟨_, _, _, _⟩ := K13z.out.two 1 rfl
          refine wpAnyH_ready (rs := [6]) (by kernel_rfl) (by simp) (AllReadyH.cons rfl (fun K hK => ?_) AllReadyH.nil)
          go_simp
          have K14z : Hid (Kn w2 ((X.setCell ⟨w3.heap.size, 0, none⟩ (.slice (some ⟨ga, 0, none⟩) nx ka)).setCell ⟨w3.heap.size, 1, none⟩ (.int .i64 Ls)) [(w4.heap.size, (.cells #[.slice none 0 0, .int .i64 0] 24 (0, 0))), (w3.heap.size, bx (some ⟨ga, 0, none⟩) nx ka Ls)] [(some ⟨gb, 0, none⟩, ms, w3.heap.size + 1, w4.heap.size), (some ⟨ga, 0, none⟩, ns, w2.heap.size, w3.heap.size)]) := by
            refine Kn.store (L1 := [(w4.heap.size, (.cells #[.slice none 0 0, .int .i64 0] 24 (0, 0)))]) (L2 := []) K13z.out (by omega) ?_ ?_ _ _
            · intro r hr
              have hr : r ∈ [(w4.heap.size, (.cells #[.slice none 0 0, .int .i64 0] 24 (0, 0)))] := hr
              simp only [List.mem_singleton] at hr
              subst hr
              show w4.heap.size ≠ w3.heap.size
              omega
            · intro r hr
              simp only [List.mem_cons, List.not_mem_nil, or_false] at hr
              rcases hr with rfl | rfl
              · show w3.heap.size < w3.heap.size + 1 ∨ w4.heap.size ≤ w3.heap.size
                omega
              · show w3.heap.size < w2.heap.size ∨ w3.heap.size ≤ w3.heap.size
                omega
          have hS := K14z.out.b
          refine hK.out _ _ hS (fun _ => ?_)
          clear hK K K13z
          try simp only [List.getElem_toArray, List.getElem_cons_zero, List.getElem_cons_succ, Act.put, List.setIfInBounds_toArray, List.set_cons_zero, List.set_cons_succ]
          generalize ((X.setCell ⟨w3.heap.size, 0, none⟩ (.slice (some ⟨ga, 0, none⟩) nx ka)).setCell ⟨w3.heap.size, 1, none⟩ (.int .i64 Ls)) = Y at *
          obtain ⟨_, _, _, _⟩ := K14z.out.two 0 rfl
          obtain ⟨_, _, _, _⟩ := K14z.out.two 1 rfl
          refine wpAnyH_ready (rs := [7]) (by kernel_rfl) (by simp) (AllReadyH.cons rfl (fun K hK => ?_) AllReadyH.nil)
          go_simp
          have K15z : Hid (Kn w2 ((Y.setCell ⟨w4.heap.size, 0, none⟩ (.slice (some ⟨gb, 0, none⟩) ny kb)).setCell ⟨w4.heap.size, 1, none⟩ (.int .i64 Lt)) [(w4.heap.size, bx (some ⟨gb, 0, none⟩) ny kb Lt), (w3.heap.size, bx (some ⟨ga, 0, none⟩) nx ka Ls)] [(some ⟨gb, 0, none⟩, ms, w3.heap.size + 1, w4.heap.size), (some ⟨ga, 0, none⟩, ns, w2.heap.size, w3.heap.size)]) := by
            refine Kn.store (L1 := []) (L2 := [(w3.heap.size, bx (some ⟨ga, 0, none⟩) nx ka Ls)]) K14z.out (by omega) ?_ ?_ _ _
            · intro r hr
              have hr : r ∈ [(w3.heap.size, bx (some ⟨ga, 0, none⟩) nx ka Ls)] := hr
              simp only [List.mem_singleton] at hr
              subst hr
              show w3.heap.size ≠ w4.heap.size
              omega
            · intro r hr
              simp only [List.mem_cons, List.not_mem_nil, or_false] at hr
              rcases hr with rfl | rfl
              · show w4.heap.size < w3.heap.size + 1 ∨ w4.heap.size ≤ w4.heap.size
                omega
              · show w4.heap.size < w2.heap.size ∨ w3.heap.size ≤ w4.heap.size
                omega
          have hS := K15z.out.b
          refine hK.out _ _ hS (fun _ => ?_)
          clear hK K K14z
          try simp only [List.getElem_toArray, List.getElem_cons_zero, List.getElem_cons_succ, Act.put, List.setIfInBounds_toArray, List.set_cons_zero, List.set_cons_succ]
          refine wpAnyH_done (by kernel_rfl) ?_ _
          go_wp2_with fail
          go_meet
          exact ⟨_, _, ga, ka, gb, kb, rfl, rfl, by omega, by omega, by omega, K15z.out.blk 1 rfl, K15z.out.blk 0 rfl, K15z.out.row 1 rfl, K15z.out.row 0 rfl, by omega, by omega, by omega, by omega, K15z.out.b⟩
        · go_simp
          have K16z : Hid (Kn w2 ((w3.alloc (.cells #[.slice none 0 0, .int .i64 0] 24 (0, 0))).alloc (.cells #[.slice none 0 0, .int .i64 0] 24 (0, 0))) [(w3.heap.size + 1, (.cells #[.slice none 0 0, .int .i64 0] 24 (0, 0))), (w3.heap.size, (.cells #[.slice none 0 0, .int .i64 0] 24 (0, 0)))] [(some ⟨ga, 0, none⟩, ns, w2.heap.size, w3.heap.size)]) := by
            have h := K11z.out.new (.cells #[.slice none 0 0, .int .i64 0] 24 (0, 0))
            (try simp only [World.size_alloc] at h)
            (try simp only [World.size_drew] at h)
            exact h
          have hS := K16z.out.b
          refine hK.out _ _ hS (fun _ => ?_)
          clear hK K K11z
          try simp only [List.getElem_toArray, List.getElem_cons_zero, List.getElem_cons_succ, Act.put, List.setIfInBounds_toArray, List.set_cons_zero, List.set_cons_succ]
          refine wpAnyH_ready (rs := [3]) (by kernel_rfl) (by simp) (AllReadyH.cons rfl (fun K hK => ?_) AllReadyH.nil)
          go_simp
          go_at_call 12
          refine (CB.out _ K16z.out.b).mono ?_
          rintro e w4 ⟨gb, kb, rfl, oB, hb⟩
          have K17z : Hid (Kn w2 w4 [(w3.heap.size + 1, (.cells #[.slice none 0 0, .int .i64 0] 24 (0, 0))), (w3.heap.size, (.cells #[.slice none 0 0, .int .i64 0] 24 (0, 0)))] [(some ⟨gb, 0, none⟩, ms, w3.heap.size + 1 + 1, w4.heap.size), (some ⟨ga, 0, none⟩, ns, w2.heap.size, w3.heap.size)]) := by
            have h := (K16z.out.below hb).rd (lo := ((w3.alloc (.cells #[.slice none 0 0, .int .i64 0] 24 (0, 0))).alloc (.cells #[.slice none 0 0, .int .i64 0] 24 (0, 0))).heap.size) oB.2.2 (fun ad e => by injection e with e; subst e; exact oB.1)
            (try simp only [World.size_alloc] at h)
            (try simp only [World.size_drew] at h)
            exact h
          have hsw4 : w3.heap.size + 1 + 1 ≤ w4.heap.size := by
            have h := hb.size
            (try simp only [World.size_alloc] at h)
            (try simp only [World.size_drew] at h)
            exact h
          have hlw4 : w3.heap.size + 1 + 1 ≤ gb := by
            have h := oB.1
            (try simp only [World.size_alloc] at h)
            (try simp only [World.size_drew] at h)
            exact h
          have huw4 : gb < w4.heap.size := oB.2.1
          clear hb oB
          go_wp2_with fail
          have hS := K17z.out.b
          refine hK.out _ _ hS (fun _ => ?_)
          clear hK K K16z
          try simp only [List.getElem_toArray, List.getElem_cons_zero, List.getElem_cons_succ, Act.put, List.setIfInBounds_toArray, List.set_cons_zero, List.set_cons_succ]
          obtain ⟨_, _, _, _⟩ := K17z.out.two 0 rfl
          obtain ⟨_, _, _, _⟩ := K17z.out.two 1 rfl
          refine wpAnyH_ready (rs := [6]) (by kernel_rfl) (by simp) (AllReadyH.cons rfl (fun K hK => ?_) AllReadyH.nil)
          go_simp
          have K18z : Hid (Kn w2 ((w4.setCell ⟨w3.heap.size, 0, none⟩ (.slice (some ⟨ga, 0, none⟩) nx ka)).setCell ⟨w3.heap.size, 1, none⟩ (.int .i64 Ls)) [(w3.heap.size + 1, (.cells #[.slice none 0 0, .int .i64 0] 24 (0, 0))), (w3.heap.size, bx (some ⟨ga, 0, none⟩) nx ka Ls)] [(some ⟨gb, 0, none⟩, ms, w3.heap.size + 1 + 1, w4.heap.size), (some ⟨ga, 0, none⟩, ns, w2.heap.size, w3.heap.size)]) := by
            refine Kn.store (L1 := [(w3.heap.size + 1, (.cells #[.slice none 0 0, .int .i64 0] 24 (0, 0)))]) (L2 := []) K17z.out (by omega) ?_ ?_ _ _
            · intro r hr
              have hr : r ∈ [(w3.heap.size + 1, (.cells #[.slice none 0 0, .int .i64 0] 24 (0, 0)))] := hr
              simp only [List.mem_singleton] at hr
              subst hr
              show w3.heap.size + 1 ≠ w3.heap.size
              omega
            · intro r hr
              simp only [List.mem_cons, List.not_mem_nil, or_false] at hr
              rcases hr with rfl | rfl
              · show w3.heap.size < w3.heap.size + 1 + 1 ∨ w4.heap.size ≤ w3.heap.size
                omega
              · show w3.heap.size < w2.heap.size ∨ w3.heap.size ≤ w3.heap.size
                omega
          have hS := K18z.out.b
          refine hK.out _ _ hS (fun _ => ?_)
          clear hK K K17z
          try simp only [List.getElem_toArray, List.getElem_cons_zero, List.getElem_cons_succ, Act.put, List.setIfInBounds_toArray, List.set_cons_zero, List.set_cons_succ]
          generalize ((w4.setCell ⟨w3.heap.size, 0, none⟩ (.slice (some ⟨ga, 0, none⟩) nx ka)).setCell ⟨w3.heap.size, 1, none⟩ (.int .i64 Ls)) = Y at *
          obtain ⟨_, _, _, _⟩ := K18z.out.two 0 rfl
          obtain ⟨_, _, _, _⟩ := K18z.out.two 1 rfl
          refine wpAnyH_ready (rs := [7]) (by kernel_rfl) (by simp) (AllReadyH.cons rfl (fun K hK => ?_) AllReadyH.nil)
          go_simp
          have K19z : Hid (Kn w2 ((Y.setCell ⟨w3.heap.size + 1, 0, none⟩ (.slice (some ⟨gb, 0, none⟩) ny kb)).setCell ⟨w3.heap.size + 1, 1, none⟩ (.int .i64 Lt)) [(w3.heap.size + 1, bx (some ⟨gb, 0, none⟩) ny kb Lt), (w3.heap.size, bx (some ⟨ga, 0, none⟩) nx ka Ls)] [(some ⟨gb, 0, none⟩, ms, w3.heap.size + 1 + 1, w4.heap.size), (some ⟨ga, 0, none⟩, ns, w2.heap.size, w3.heap.size)]) := by
            refine Kn.store (L1 := []) (L2 := [(w3.heap.size, bx (some ⟨ga, 0, none⟩) nx ka Ls)]) K18z.out (by omega) ?_ ?_ _ _
            · intro r hr
              have hr : r ∈ [(w3.heap.size, bx (some ⟨ga, 0, none⟩) nx ka Ls)] := hr
              simp only [List.mem_singleton] at hr
              subst hr
              show w3.heap.size ≠ w3.heap.size + 1
              omega
            · intro r hr
              simp only [List.mem_cons, List.not_mem_nil, or_false] at hr
              rcases hr with rfl | rfl
              · show w3.heap.size + 1 < w3.heap.size + 1 + 1 ∨ w4.heap.size ≤ w3.heap.size + 1
                omega
              · show w3.heap.size + 1 < w2.heap.size ∨ w3.heap.size ≤ w3.heap.size + 1
                omega
          have hS := K19z.out.b
          refine hK.out _ _ hS (fun _ => ?_)
          clear hK K K18z
          try simp only [List.getElem_toArray, List.getElem_cons_zero, List.getElem_cons_succ, Act.put, List.setIfInBounds_toArray, List.set_cons_zero, List.set_cons_succ]
          refine wpAnyH_done (by kernel_rfl) ?_ _
          go_wp2_with fail
          go_meet
          exact ⟨_, _, ga, ka, gb, kb, rfl, rfl, by omega, by omega, by omega, K19z.out.blk 1 rfl, K19z.out.blk 0 rfl, K19z.out.row 1 rfl, K19z.out.row 0 rfl, by omega, by omega, by omega, by omega, K19z.out.b⟩
      · go_simp
        have K20z : Hid (Kn w2 (w3.alloc (.cells #[.slice none 0 0, .int .i64 0] 24 (0, 0))) [(w3.heap.size, (.cells #[.slice none 0 0, .int .i64 0] 24 (0, 0)))] [(some ⟨ga, 0, none⟩, ns, w2.heap.size, w3.heap.size)]) := by
          have h := K1z.out.new (.cells #[.slice none 0 0, .int .i64 0] 24 (0, 0))
          (try simp only [World.size_alloc] at h)
          (try simp only [World.size_drew] at h)
          exact h
        have hS := K20z.out.b
        refine hK.out _ _ hS (fun _ => ?_)
        clear hK K K1z
        try simp only [List.getElem_toArray, List.getElem_cons_zero, List.getElem_cons_succ, Act.put, List.setIfInBounds_toArray, List.set_cons_zero, List.set_cons_succ]
        refine wpAnyH_ready (rs := [3, 4]) (by kernel_rfl) (by simp) (AllReadyH.cons rfl (fun K hK => ?_) (AllReadyH.cons rfl (fun K hK => ?_) AllReadyH.nil))
        · go_simp
          go_at_call 12
          refine (CB.out _ K20z.out.b).mono ?_
          rintro e w4 ⟨gb, kb, rfl, oB, hb⟩
          have K21z : Hid (Kn w2 w4 [(w3.heap.size, (.cells #[.slice none 0 0, .int .i64 0] 24 (0, 0)))] [(some ⟨gb, 0, none⟩, ms, w3.heap.size + 1, w4.heap.size), (some ⟨ga, 0, none⟩, ns, w2.heap.size, w3.heap.size)]) := by
            have h := (K20z.out.below hb).rd (lo := (w3.alloc (.cells #[.slice none 0 0, .int .i64 0] 24 (0, 0))).heap.size) oB.2.2 (fun ad e => by injection e with e; subst e; exact oB.1)
            (try simp only [World.size_alloc] at h)
            (try simp only [World.size_drew] at h)
            exact h
          have hsw4 : w3.heap.size + 1 ≤ w4.heap.size := by
            have h := hb.size
            (try simp only [World.size_alloc] at h)
            (try simp only [World.size_drew] at h)
            exact h
          have hlw4 : w3.heap.size + 1 ≤ gb := by
            have h := oB.1
            (try simp only [World.size_alloc] at h)
            (try simp only [World.size_drew] at h)
            exact h
          have huw4 : gb < w4.heap.size := oB.2.1
          clear hb oB
          go_wp2_with fail
          have hS := K21z.out.b
          refine hK.out _ _ hS (fun _ => ?_)
          clear hK K K20z
          try simp only [List.getElem_toArray, List.getElem_cons_zero, List.getElem_cons_succ, Act.put, List.setIfInBounds_toArray, List.set_cons_zero, List.set_cons_succ]
          refine wpAnyH_ready (rs := [4]) (by kernel_rfl) (by simp) (AllReadyH.cons rfl (fun K hK => ?_) AllReadyH.nil)
          go_simp
          have K22z : Hid (Kn w2 (w4.alloc (.cells #[.slice none 0 0, .int .i64 0] 24 (0, 0))) [(w4.heap.size, (.cells #[.slice none 0 0, .int .i64 0] 24 (0, 0))), (w3.heap.size, (.cells #[.slice none 0 0, .int .i64 0] 24 (0, 0)))] [(some ⟨gb, 0, none⟩, ms, w3.heap.size + 1, w4.heap.size), (some ⟨ga, 0, none⟩, ns, w2.heap.size, w3.heap.size)]) := by
            have h := K21z.out.new (.cells #[.slice none 0 0, .int .i64 0] 24 (0, 0))
            (try simp only [World.size_alloc] at h)
            (try simp only [World.size_drew] at h)
            exact h
          have hS := K22z.out.b
          refine hK.out _ _ hS (fun _ => ?_)
          clear hK K K21z
          try simp only [List.getElem_toArray, List.getElem_cons_zero, List.getElem_cons_succ, Act.put, List.setIfInBounds_toArray, List.set_cons_zero, List.set_cons_succ]
          generalize (w4.alloc (.cells #[.slice none 0 0, .int .i64 0] 24 (0, 0))) = X at *
          obtain ⟨_, _, _, _⟩ := K22z.out.two 0 rfl
          obtain ⟨_, _, _, _⟩ := K22z.out.two 1 rfl
          refine wpAnyH_ready (rs := [6]) (by kernel_rfl) (by simp) (AllReadyH.cons rfl (fun K hK => ?_) AllReadyH.nil)
          go_simp
          have K23z : Hid (Kn w2 ((X.setCell ⟨w4.heap.size, 0, none⟩ (.slice (some ⟨ga, 0, none⟩) nx ka)).setCell ⟨w4.heap.size, 1, none⟩ (.int .i64 Ls)) [(w4.heap.size, bx (some ⟨ga, 0, none⟩) nx ka Ls), (w3.heap.size, (.cells #[.slice none 0 0, .int .i64 0] 24 (0, 0)))] [(some ⟨gb, 0, none⟩, ms, w3.heap.size + 1, w4.heap.size), (some ⟨ga, 0, none⟩, ns, w2.heap.size, w3.heap.size)]) := by
            refine Kn.store (L1 := []) (L2 := [(w3.heap.size, (.cells #[.slice none 0 0, .int .i64 0] 24 (0, 0)))]) K22z.out (by omega) ?_ ?_ _ _
            · intro r hr
              have hr : r ∈ [(w3.heap.size, (.cells #[.slice none 0 0, .int .i64 0] 24 (0, 0)))] := hr
              simp only [List.mem_singleton] at hr
              subst hr
              show w3.heap.size ≠ w4.heap.size
              omega
            · intro r hr
              simp only [List.mem_cons, List.not_mem_nil, or_false] at hr
              rcases hr with rfl | rfl
              · show w4.heap.size < w3.heap.size + 1 ∨ w4.heap.size ≤ w4.heap.size
                omega
              · show w4.heap.size < w2.heap.size ∨ w3.heap.size ≤ w4.heap.size
                omega
          have hS := K23z.out.b
          refine hK.out _ _ hS (fun _ => ?_)
          clear hK K K22z
          try simp only [List.getElem_toArray, List.getElem_cons_zero, List.getElem_cons_succ, Act.put, List.setIfInBounds_toArray, List.set_cons_zero, List.set_cons_succ]
          generalize ((X.setCell ⟨w4.heap.size, 0, none⟩ (.slice (some ⟨ga, 0, none⟩) nx ka)).setCell ⟨w4.heap.size, 1, none⟩ (.int .i64 Ls)) = Y at *
          obtain ⟨_, _, _, _⟩ := K23z.out.two 0 rfl
          obtain ⟨_, _, _, _⟩ := K23z.out.two 1 rfl
          refine wpAnyH_ready (rs := [7]) (by kernel_rfl) (by simp) (AllReadyH.cons rfl (fun K hK => ?_) AllReadyH.nil)
          go_simp
          have K24z : Hid (Kn w2 ((Y.setCell ⟨w3.heap.size, 0, none⟩ (.slice (some ⟨gb, 0, none⟩) ny kb)).setCell ⟨w3.heap.size, 1, none⟩ (.int .i64 Lt)) [(w4.heap.size, bx (some ⟨ga, 0, none⟩) nx ka Ls), (w3.heap.size, bx (some ⟨gb, 0, none⟩) ny kb Lt)] [(some ⟨gb, 0, none⟩, ms, w3.heap.size + 1, w4.heap.size), (some ⟨ga, 0, none⟩, ns, w2.heap.size, w3.heap.size)]) := by
            refine Kn.store (L1 := [(w4.heap.size, bx (some ⟨ga, 0, none⟩) nx ka Ls)]) (L2 := []) K23z.out (by omega) ?_ ?_ _ _
            · intro r hr
              have hr : r ∈ [(w4.heap.size, bx (some ⟨ga, 0, none⟩) nx ka Ls)] := hr
              simp only [List.mem_singleton] at hr
              subst hr
              show w4.heap.size ≠ w3.heap.size
              omega
            · intro r hr
              simp only [List.mem_cons, List.not_mem_nil, or_false] at hr
              rcases hr with rfl | rfl
              · show w3.heap.size < w3.heap.size + 1 ∨ w4.heap.size ≤ w3.heap.size
                omega
              · show w3.heap.size < w2.heap.size ∨ w3.heap.size ≤ w3.heap.size
                omega
          have hS := K24z.out.b
          refine hK.out _ _ hS (fun _ => ?_)
          clear hK K K23z
          try simp only [List.getElem_toArray, List.getElem_cons_zero, List.getElem_cons_succ, Act.put, List.setIfInBounds_toArray, List.set_cons_zero, List.set_cons_succ]
          refine wpAnyH_done (by kernel_rfl) ?_ _
          go_wp2_with fail
          go_meet
          exact ⟨_, _, ga, ka, gb, kb, rfl, rfl, by omega, by omega, by omega, K24z.out.blk 0 rfl, K24z.out.blk 1 rfl, K24z.out.row 1 rfl, K24z.out.row 0 rfl, by omega, by omega, by omega, by omega, K24z.out.b⟩
        · go_simp
          have K25z : Hid (Kn w2 ((w3.alloc (.cells #[.slice none 0 0, .int .i64 0] 24 (0, 0))).alloc (.cells #[.slice none 0 0, .int .i64 0] 24 (0, 0))) [(w3.heap.size + 1, (.cells #[.slice none 0 0, .int .i64 0] 24 (0, 0))), (w3.heap.size, (.cells #[.slice none 0 0, .int .i64 0] 24 (0, 0)))] [(some ⟨ga, 0, none⟩, ns, w2.heap.size, w3.heap.size)]) := by
            have h := K20z.out.new (.cells #[.slice none 0 0, .int .i64 0] 24 (0, 0))
            (try simp only [World.size_alloc] at h)
            (try simp only [World.size_drew] at h)
            exact h
          have hS := K25z.out.b
          refine hK.out _ _ hS (fun _ => ?_)
          clear hK K K20z
          try simp only [List.getElem_toArray, List.getElem_cons_zero, List.getElem_cons_succ, Act.put, List.setIfInBounds_toArray, List.set_cons_zero, List.set_cons_succ]
          refine wpAnyH_ready (rs := [3]) (by kernel_rfl) (by simp) (AllReadyH.cons rfl (fun K hK => ?_) AllReadyH.nil)
          go_simp
          go_at_call 12
          refine (CB.out _ K25z.out.b).mono ?_
          rintro e w4 ⟨gb, kb, rfl, oB, hb⟩
          have K26z : Hid (Kn w2 w4 [(w3.heap.size + 1, (.cells #[.slice none 0 0, .int .i64 0] 24 (0, 0))), (w3.heap.size, (.cells #[.slice none 0 0, .int .i64 0] 24 (0, 0)))] [(some ⟨gb, 0, none⟩, ms, w3.heap.size + 1 + 1, w4.heap.size), (some ⟨ga, 0, none⟩, ns, w2.heap.size, w3.heap.size)]) := by
            have h := (K25z.out.below hb).rd (lo := ((w3.alloc (.cells #[.slice none 0 0, .int .i64 0] 24 (0, 0))).alloc (.cells #[.slice none 0 0, .int .i64 0] 24 (0, 0))).heap.size) oB.2.2 (fun ad e => by injection e with e; subst e; exact oB.1)
            (try simp only [World.size_alloc] at h)
            (try simp only [World.size_drew] at h)
            exact h
          have hsw4 : w3.heap.size + 1 + 1 ≤ w4.heap.size := by
            have h := hb.size
            (try simp only [World.size_alloc] at h)
            (try simp only [World.size_drew] at h)
            exact h
          have hlw4 : w3.heap.size + 1 + 1 ≤ gb := by
            have h := oB.1
            (try simp only [World.size_alloc] at h)
            (try simp only [World.size_drew] at h)
            exact h
          have huw4 : gb < w4.heap.size := oB.2.1
          clear hb oB
          go_wp2_with fail
          have hS := K26z.out.b
          refine hK.out _ _ hS (fun _ => ?_)
          clear hK K K25z
          try simp only [List.getElem_toArray, List.getElem_cons_zero, List.getElem_cons_succ, Act.put, List.setIfInBounds_toArray, List.set_cons_zero, List.set_cons_succ]
          obtain ⟨_, _, _, _⟩ := K26z.out.two 0 rfl
          obtain ⟨_, _, _, _⟩ := K26z.out.two 1 rfl
          refine wpAnyH_ready (rs := [6]) (by kernel_rfl) (by simp) (AllReadyH.cons rfl (fun K hK => ?_) AllReadyH.nil)
          go_simp
          have K27z : Hid (Kn w2 ((w4.setCell ⟨w3.heap.size + 1, 0, none⟩ (.slice (some ⟨ga, 0, none⟩) nx ka)).setCell ⟨w3.heap.size + 1, 1, none⟩ (.int .i64 Ls)) [(w3.heap.size + 1, bx (some ⟨ga, 0, none⟩) nx ka Ls), (w3.heap.size, (.cells #[.slice none 0 0, .int .i64 0] 24 (0, 0)))] [(some ⟨gb, 0, none⟩, ms, w3.heap.size + 1 + 1, w4.heap.size), (some ⟨ga, 0, none⟩, ns, w2.heap.size, w3.heap.size)]) := by
            refine Kn.store (L1 := []) (L2 := [(w3.heap.size, (.cells #[.slice none 0 0, .int .i64 0] 24 (0, 0)))]) K26z.out (by omega) ?_ ?_ _ _
            · intro r hr
              have hr : r ∈ [(w3.heap.size, (.cells #[.slice none 0 0, .int .i64 0] 24 (0, 0)))] := hr
              simp only [List.mem_singleton] at hr
              subst hr
              show w3.heap.size ≠ w3.heap.size + 1
              omega
            · intro r hr
              simp only [List.mem_cons, List.not_mem_nil, or_false] at hr
              rcases hr with rfl | rfl
              · show w3.heap.size + 1 < w3.heap.size + 1 + 1 ∨ w4.heap.size ≤ w3.heap.size + 1
                omega
              · show w3.heap.size + 1 < w2.heap.size ∨ w3.heap.size ≤ w3.heap.size + 1
                omega
          have hS := K27z.out.b
          refine hK.out _ _ hS (fun _ => ?_)
          clear hK K K26z
          try simp only [List.getElem_toArray, List.getElem_cons_zero, List.getElem_cons_succ, Act.put, List.setIfInBounds_toArray, List.set_cons_zero, List.set_cons_succ]
          generalize ((w4.setCell ⟨w3.heap.size + 1, 0, none⟩ (.slice (some ⟨ga, 0, none⟩) nx ka)).setCell ⟨w3.heap.size + 1, 1, none⟩ (.int .i64 Ls)) = Y at *
          obtain ⟨_, _, _, _⟩ := K27z.out.two 0 rfl
          obtain ⟨_, _, _, _⟩ := K27z.out.two 1 rfl
          refine wpAnyH_ready (rs := [7]) (by kernel_rfl) (by simp) (AllReadyH.cons rfl (fun K hK => ?_) AllReadyH.nil)
          go_simp
          have K28z : Hid (Kn w2 ((Y.setCell ⟨w3.heap.size, 0, none⟩ (.slice (some ⟨gb, 0, none⟩) ny kb)).setCell ⟨w3.heap.size, 1, none⟩ (.int .i64 Lt)) [(w3.heap.size + 1, bx (some ⟨ga, 0, none⟩) nx ka Ls), (w3.heap.size, bx (some ⟨gb, 0, none⟩) ny kb Lt)] [(some ⟨gb, 0, none⟩, ms, w3.heap.size + 1 + 1, w4.heap.size), (some ⟨ga, 0, none⟩, ns, w2.heap.size, w3.heap.size)]) := by
            refine Kn.store (L1 := [(w3.heap.size + 1, bx (some ⟨ga, 0, none⟩) nx ka Ls)]) (L2 := []) K27z.out (by omega) ?_ ?_ _ _
            · intro r hr
              have hr : r ∈ [(w3.heap.size + 1, bx (some ⟨ga, 0, none⟩) nx ka Ls)] := hr
              simp only [List.mem_singleton] at hr
              subst hr
              show w3.heap.size + 1 ≠ w3.heap.size
              omega
            · intro r hr
              simp only [List.mem_cons, List.not_mem_nil, or_false] at hr
              rcases hr with rfl | rfl
              · show w3.heap.size < w3.heap.size + 1 + 1 ∨ w4.heap.size ≤ w3.heap.size
                omega
              · show w3.heap.size < w2.heap.size ∨ w3.heap.size ≤ w3.heap.size
                omega
          have hS := K28z.out.b
          refine hK.out _ _ hS (fun _ => ?_)
          clear hK K K27z
          try simp only [List.getElem_toArray, List.getElem_cons_zero, List.getElem_cons_succ, Act.put, List.setIfInBounds_toArray, List.set_cons_zero, List.set_cons_succ]
          refine wpAnyH_done (by kernel_rfl) ?_ _
          go_wp2_with fail
          go_meet
          exact ⟨_, _, ga, ka, gb, kb, rfl, rfl, by omega, by omega, by omega, K28z.out.blk 0 rfl, K28z.out.blk 1 rfl, K28z.out.row 1 rfl, K28z.out.row 0 rfl, by omega, by omega, by omega, by omega, K28z.out.b⟩
    · go_simp
      have K29z : Hid (Kn w2 (w2.drew.alloc (.cells #[.slice none 0 0, .int .i64 0] 24 (0, 0))) [(w2.heap.size, (.cells #[.slice none 0 0, .int .i64 0] 24 (0, 0)))] []) := by
        have h := Kz.out.new (.cells #[.slice none 0 0, .int .i64 0] 24 (0, 0))
        (try simp only [World.size_alloc] at h)
        (try simp only [World.size_drew] at h)
        exact h
      have hS := K29z.out.b
      refine hK.out _ _ hS (fun _ => ?_)
      clear hK K Kz
      try simp only [List.getElem_toArray, List.getElem_cons_zero, List.getElem_cons_succ, Act.put, List.setIfInBounds_toArray, List.set_cons_zero, List.set_cons_succ]
      refine wpAnyH_ready (rs := [1, 5]) (by kernel_rfl) (by simp) (AllReadyH.cons rfl (fun K hK => ?_) (AllReadyH.cons rfl (fun K hK => ?_) AllReadyH.nil))
      · go_simp
        go_at_call 12
        refine (CA.out _ K29z.out.b).mono ?_
        rintro e w3 ⟨ga, ka, rfl, oa, hb⟩
        have K30z : Hid (Kn w2 w3 [(w2.heap.size, (.cells #[.slice none 0 0, .int .i64 0] 24 (0, 0)))] [(some ⟨ga, 0, none⟩, ns, w2.heap.size + 1, w3.heap.size)]) := by
          have h := (K29z.out.below hb).rd (lo := (w2.drew.alloc (.cells #[.slice none 0 0, .int .i64 0] 24 (0, 0))).heap.size) oa.2.2 (fun ad e => by injection e with e; subst e; exact oa.1)
          (try simp only [World.size_alloc] at h)
          (try simp only [World.size_drew] at h)
          exact h
        have hsw3 : w2.heap.size + 1 ≤ w3.heap.size := by
          have h := hb.size
          (try simp only [World.size_alloc] at h)
          (try simp only [World.size_drew] at h)
          exact h
        have hlw3 : w2.heap.size + 1 ≤ ga := by
          have h := oa.1
          (try simp only [World.size_alloc] at h)
          (try simp only [World.size_drew] at h)
          exact h
        have huw3 : ga < w3.heap.size := oa.2.1
        clear hb oa
        go_wp2_with fail
        have hS := K30z.out.b
        refine hK.out _ _ hS (fun _ => ?_)
        clear hK K K29z
        try simp only [List.getElem_toArray, List.getElem_cons_zero, List.getElem_cons_succ, Act.put, List.setIfInBounds_toArray, List.set_cons_zero, List.set_cons_succ]
        refine wpAnyH_ready (rs := [3, 5]) (by kernel_rfl) (by simp) (AllReadyH.cons rfl (fun K hK => ?_) (AllReadyH.cons rfl (fun K hK => ?_) AllReadyH.nil))
        · go_simp
          go_at_call 12
          refine (CB.out _ K30z.out.b).mono ?_
          rintro e w4 ⟨gb, kb, rfl, oB, hb⟩
          have K31z : Hid (Kn w2 w4 [(w2.heap.size, (.cells #[.slice none 0 0, .int .i64 0] 24 (0, 0)))] [(some ⟨gb, 0, none⟩, ms, w3.heap.size, w4.heap.size), (some ⟨ga, 0, none⟩, ns, w2.heap.size + 1, w3.heap.size)]) := by
            have h := (K30z.out.below hb).rd (lo := w3.heap.size) oB.2.2 (fun ad e => by injection e with e; subst e; exact oB.1)
            (try simp only [World.size_alloc] at h)
            (try simp only [World.size_drew] at h)
            exact h
          have hsw4 : w3.heap.size ≤ w4.heap.size := by
            have h := hb.size
            (try simp only [World.size_alloc] at h)
            (try simp only [World.size_drew] at h)
            exact h
          have hlw4 : w3.heap.size ≤ gb := by
            have h := oB.1
            (try simp only [World.size_alloc] at h)
            (try simp only [World.size_drew] at h)
            exact h
          have huw4 : gb < w4.heap.size := oB.2.1
          clear hb oB
          go_wp2_with fail
          have hS := K31z.out.b
          refine hK.out _ _ hS (fun _ => ?_)
          clear hK K K30z
          try simp only [List.getElem_toArray, List.getElem_cons_zero, List.getElem_cons_succ, Act.put, List.setIfInBounds_toArray, List.set_cons_zero, List.set_cons_succ]
          refine wpAnyH_ready (rs := [5]) (by kernel_rfl) (by simp) (AllReadyH.cons rfl (fun K hK => ?_) AllReadyH.nil)
          go_simp
          have K32z : Hid (Kn w2 (w4.alloc (.cells #[.slice none 0 0, .int .i64 0] 24 (0, 0))) [(w4.heap.size, (.cells #[.slice none 0 0, .int .i64 0] 24 (0, 0))), (w2.heap.size, (.cells #[.slice none 0 0, .int .i64 0] 24 (0, 0)))] [(some ⟨gb, 0, none⟩, ms, w3.heap.size, w4.heap.size), (some ⟨ga, 0, none⟩, ns, w2.heap.size + 1, w3.heap.size)]) := by
            have h := K31z.out.new (.cells #[.slice none 0 0, .int .i64 0] 24 (0, 0))
            (try simp only [World.size_alloc] at h)
            (try simp only [World.size_drew] at h)
            exact h
          have hS := K32z.out.b
          refine hK.out _ _ hS (fun _ => ?_)
          clear hK K K31z
          try simp only [List.getElem_toArray, List.getElem_cons_zero, List.getElem_cons_succ, Act.put, List.setIfInBounds_toArray, List.set_cons_zero, List.set_cons_succ]
          generalize (w4.alloc (.cells #[.slice none 0 0, .int .i64 0] 24 (0, 0))) = X at *
          obtain ⟨_, _, _, _⟩ := K32z.out.two 0 rfl
          obtain ⟨_, _, _, _⟩ := K32z.out.two 1 rfl
          refine wpAnyH_ready (rs := [6]) (by kernel_rfl) (by simp) (AllReadyH.cons rfl (fun K hK => ?_) AllReadyH.nil)
          go_simp
          have K33z : Hid (Kn w2 ((X.setCell ⟨w2.heap.size, 0, none⟩ (.slice (some ⟨ga, 0, none⟩) nx ka)).setCell ⟨w2.heap.size, 1, none⟩ (.int .i64 Ls)) [(w4.heap.size, (.cells #[.slice none 0 0, .int .i64 0] 24 (0, 0))), (w2.heap.size, bx (some ⟨ga, 0, none⟩) nx ka Ls)] [(some ⟨gb, 0, none⟩, ms, w3.heap.size, w4.heap.size), (some ⟨ga, 0, none⟩, ns, w2.heap.size + 1, w3.heap.size)]) := by
            refine Kn.store (L1 := [(w4.heap.size, (.cells #[.slice none 0 0, .int .i64 0] 24 (0, 0)))]) (L2 := []) K32z.out (by omega) ?_ ?_ _ _
            · intro r hr
              have hr : r ∈ [(w4.heap.size, (.cells #[.slice none 0 0, .int .i64 0] 24 (0, 0)))] := hr
              simp only [List.mem_singleton] at hr
              subst hr
              show w4.heap.size ≠ w2.heap.size
              omega
            · intro r hr
              simp only [List.mem_cons, List.not_mem_nil, or_false] at hr
              rcases hr with rfl | rfl
              · show w2.heap.size < w3.heap.size ∨ w4.heap.size ≤ w2.heap.size
                omega
              · show w2.heap.size < w2.heap.size + 1 ∨ w3.heap.size ≤ w2.heap.size
                omega
          have hS := K33z.out.b
          refine hK.out _ _ hS (fun _ => ?_)
          clear hK K K32z
          try simp only [List.getElem_toArray, List.getElem_cons_zero, List.getElem_cons_succ, Act.put, List.setIfInBounds_toArray, List.set_cons_zero, List.set_cons_succ]
          generalize ((X.setCell ⟨w2.heap.size, 0, none⟩ (.slice (some ⟨ga, 0, none⟩) nx ka)).setCell ⟨w2.heap.size, 1, none⟩ (.int .i64 Ls)) = Y at *
          obtain ⟨_, _, _, _⟩ := K33z.out.two 0 rfl
          obtain ⟨_, _, _, _⟩ := K33z.out.two 1 rfl
          refine wpAnyH_ready (rs := [7]) (by kernel_rfl) (by simp) (AllReadyH.cons rfl (fun K hK => ?_) AllReadyH.nil)
          go_simp
          have K34z : Hid (Kn w2 ((Y.setCell ⟨w4.heap.size, 0, none⟩ (.slice (some ⟨gb, 0, none⟩) ny kb)).setCell ⟨w4.heap.size, 1, none⟩ (.int .i64 Lt)) [(w4.heap.size, bx (some ⟨gb, 0, none⟩) ny kb Lt), (w2.heap.size, bx (some ⟨ga, 0, none⟩) nx ka Ls)] [(some ⟨gb, 0, none⟩, ms, w3.heap.size, w4.heap.size), (some ⟨ga, 0, none⟩, ns, w2.heap.size + 1, w3.heap.size)]) := by
            refine Kn.store (L1 := []) (L2 := [(w2.heap.size, bx (some ⟨ga, 0, none⟩) nx ka Ls)]) K33z.out (by omega) ?_ ?_ _ _
            · intro r hr
              have hr : r ∈ [(w2.heap.size, bx (some ⟨ga, 0, none⟩) nx ka Ls)] := hr
              simp only [List.mem_singleton] at hr
              subst hr
              show w2.heap.size ≠ w4.heap.size
              omega
            · intro r hr
              simp only [List.mem_cons, List.not_mem_nil, or_false] at hr
              rcases hr with rfl | rfl
              · show w4.heap.size < w3.heap.size ∨ w4.heap.size ≤ w4.heap.size
                omega
              · show w4.heap.size < w2.heap.size + 1 ∨ w3.heap.size ≤ w4.heap.size
                omega
          have hS := K34z.out.b
          refine hK.out _ _ hS (fun _ => ?_)
          clear hK K K33z
          try simp only [List.getElem_toArray, List.getElem_cons_zero, List.getElem_cons_succ, Act.put, List.setIfInBounds_toArray, List.set_cons_zero, List.set_cons_succ]
          refine wpAnyH_done (by kernel_rfl) ?_ _
          go_wp2_with fail
          go_meet
          exact ⟨_, _, ga, ka, gb, kb, rfl, rfl, by omega, by omega, by omega, K34z.out.blk 1 rfl, K34z.out.blk 0 rfl, K34z.out.row 1 rfl, K34z.out.row 0 rfl, by omega, by omega, by omega, by omega, K34z.out.b⟩
        · go_simp
          have K35z : Hid (Kn w2 (w3.alloc (.cells #[.slice none 0 0, .int .i64 0] 24 (0, 0))) [(w3.heap.size, (.cells #[.slice none 0 0, .int .i64 0] 24 (0, 0))), (w2.heap.size, (.cells #[.slice none 0 0, .int .i64 0] 24 (0, 0)))] [(some ⟨ga, 0, none⟩, ns, w2.heap.size + 1, w3.heap.size)]) := by
            have h := K30z.out.new (.cells #[.slice none 0 0, .int .i64 0] 24 (0, 0))
            (try simp only [World.size_alloc] at h)
            (try simp only [World.size_drew] at h)
            exact h
          have hS := K35z.out.b
          refine hK.out _ _ hS (fun _ => ?_)
          clear hK K K30z
          try simp only [List.getElem_toArray, List.getElem_cons_zero, List.getElem_cons_succ, Act.put, List.setIfInBounds_toArray, List.set_cons_zero, List.set_cons_succ]
          refine wpAnyH_ready (rs := [3]) (by kernel_rfl) (by simp) (AllReadyH.cons rfl (fun K hK => ?_) AllReadyH.nil)
          go_simp
          go_at_call 12
          refine (CB.out _ K35z.out.b).mono ?_
          rintro e w4 ⟨gb, kb, rfl, oB, hb⟩
          have K36z : Hid (Kn w2 w4 [(w3.heap.size, (.cells #[.slice none 0 0, .int .i64 0] 24 (0, 0))), (w2.heap.size, (.cells #[.slice none 0 0, .int .i64 0] 24 (0, 0)))] [(some ⟨gb, 0, none⟩, ms, w3.heap.size + 1, w4.heap.size), (some ⟨ga, 0, none⟩, ns, w2.heap.size + 1, w3.heap.size)]) := by
            have h := (K35z.out.below hb).rd (lo := (w3.alloc (.cells #[.slice none 0 0, .int .i64 0] 24 (0, 0))).heap.size) oB.2.2 (fun ad e => by injection e with e; subst e; exact oB.1)
            (try simp only [World.size_alloc] at h)
            (try simp only [World.size_drew] at h)
            exact h
          have hsw4 : w3.heap.size + 1 ≤ w4.heap.size := by
            have h := hb.size
            (try simp only [World.size_alloc] at h)
            (try simp only [World.size_drew] at h)
            exact h
          have hlw4 : w3.heap.size + 1 ≤ gb := by
            have h := oB.1
            (try simp only [World.size_alloc] at h)
            (try simp only [World.size_drew] at h)
            exact h
          have huw4 : gb < w4.heap.size := oB.2.1
          clear hb oB
          go_wp2_with fail
          have hS := K36z.out.b
          refine hK.out _ _ hS (fun _ => ?_)
          clear hK K K35z
          try simp only [List.getElem_toArray, List.getElem_cons_zero, List.getElem_cons_succ, Act.put, List.setIfInBounds_toArray, List.set_cons_zero, List.set_cons_succ]
          obtain ⟨_, _, _, _⟩ := K36z.out.two 0 rfl
          obtain ⟨_, _, _, _⟩ := K36z.out.two 1 rfl
          refine wpAnyH_ready (rs := [6]) (by kernel_rfl) (by simp) (AllReadyH.cons rfl (fun K hK => ?_) AllReadyH.nil)
          go_simp
          have K37z : Hid (Kn w2 ((w4.setCell ⟨w2.heap.size, 0, none⟩ (.slice (some ⟨ga, 0, none⟩) nx ka)).setCell ⟨w2.heap.size, 1, none⟩ (.int .i64 Ls)) [(w3.heap.size, (.cells #[.slice none 0 0, .int .i64 0] 24 (0, 0))), (w2.heap.size, bx (some ⟨ga, 0, none⟩) nx ka Ls)] [(some ⟨gb, 0, none⟩, ms, w3.heap.size + 1, w4.heap.size), (some ⟨ga, 0, none⟩, ns, w2.heap.size + 1, w3.heap.size)]) := by
            refine Kn.store (L1 := [(w3.heap.size, (.cells #[.slice none 0 0, .int .i64 0] 24 (0, 0)))]) (L2 := []) K36z.out (by omega) ?_ ?_ _ _
            · intro r hr
              have hr : r ∈ [(w3.heap.size, (.cells #[.slice none 0 0, .int .i64 0] 24 (0, 0)))] := hr
              simp only [List.mem_singleton] at hr
              subst hr
              show w3.heap.size ≠ w2.heap.size
              omega
            · intro r hr
              simp only [List.mem_cons, List.not_mem_nil, or_false] at hr
              rcases hr with rfl | rfl
              · show w2.heap.size < w3.heap.size + 1 ∨ w4.heap.size ≤ w2.heap.size
                omega
              · show w2.heap.size < w2.heap.size + 1 ∨ w3.heap.size ≤ w2.heap.size
                omega
          have hS := K37z.out.b
          refine hK.out _ _ hS (fun _ => ?_)
          clear hK K K36z
          try simp only [List.getElem_toArray, List.getElem_cons_zero, List.getElem_cons_succ, Act.put, List.setIfInBounds_toArray, List.set_cons_zero, List.set_cons_succ]
          generalize ((w4.setCell ⟨w2.heap.size, 0, none⟩ (.slice (some ⟨ga, 0, none⟩) nx ka)).setCell ⟨w2.heap.size, 1, none⟩ (.int .i64 Ls)) = Y at *
          obtain ⟨_, _, _, _⟩ := K37z.out.two 0 rfl
          obtain ⟨_, _, _, _⟩ := K37z.out.two 1 rfl
          refine wpAnyH_ready (rs := [7]) (by kernel_rfl) (by simp) (AllReadyH.cons rfl (fun K hK => ?_) AllReadyH.nil)
          go_simp
          have K38z : Hid (Kn w2 ((Y.setCell ⟨w3.heap.size, 0, none⟩ (.slice (some ⟨gb, 0, none⟩) ny kb)).setCell ⟨w3.heap.size, 1, none⟩ (.int .i64 Lt)) [(w3.heap.size, bx (some ⟨gb, 0, none⟩) ny kb Lt), (w2.heap.size, bx (some ⟨ga, 0, none⟩) nx ka Ls)] [(some ⟨gb, 0, none⟩, ms, w3.heap.size + 1, w4.heap.size), (some ⟨ga, 0, none⟩, ns, w2.heap.size + 1, w3.heap.size)]) := by
            refine Kn.store (L1 := []) (L2 := [(w2.heap.size, bx (some ⟨ga, 0, none⟩) nx ka Ls)]) K37z.out (by omega) ?_ ?_ _ _
            · intro r hr
              have hr : r ∈ [(w2.heap.size, bx (some ⟨ga, 0, none⟩) nx ka Ls)] := hr
              simp only [List.mem_singleton] at hr
              subst hr
              show w2.heap.size ≠ w3.heap.size
              omega
            · intro r hr
              simp only [List.mem_cons, List.not_mem_nil, or_false] at hr
              rcases hr with rfl | rfl
              · show w3.heap.size < w3.heap.size + 1 ∨ w4.heap.size ≤ w3.heap.size
                omega
              · show w3.heap.size < w2.heap.size + 1 ∨ w3.heap.size ≤ w3.heap.size
                omega
          have hS := K38z.out.b
          refine hK.out _ _ hS (fun _ => ?_)
          clear hK K K37z
          try simp only [List.getElem_toArray, List.getElem_cons_zero, List.getElem_cons_succ, Act.put, List.setIfInBounds_toArray, List.set_cons_zero, List.set_cons_succ]
          refine wpAnyH_done (by kernel_rfl) ?_ _
          go_wp2_with fail
          go_meet
          exact ⟨_, _, ga, ka, gb, kb, rfl, rfl, by omega, by omega, by omega, K38z.out.blk 1 rfl, K38z.out.blk 0 rfl, K38z.out.row 1 rfl, K38z.out.row 0 rfl, by omega, by omega, by omega, by omega, K38z.out.b⟩
      · go_simp
        have K39z : Hid (Kn w2 ((w2.drew.alloc (.cells #[.slice none 0 0, .int .i64 0] 24 (0, 0))).alloc (.cells #[.slice none 0 0, .int .i64 0] 24 (0, 0))) [(w2.heap.size + 1, (.cells #[.slice none 0 0, .int .i64 0] 24 (0, 0))), (w2.heap.size, (.cells #[.slice none 0 0, .int .i64 0] 24 (0, 0)))] []) := by
          have h := K29z.out.new (.cells #[.slice none 0 0, .int .i64 0] 24 (0, 0))
          (try simp only [World.size_alloc] at h)
          (try simp only [World.size_drew] at h)
          exact h
        have hS := K39z.out.b
        refine hK.out _ _ hS (fun _ => ?_)
        clear hK K K29z
        try simp only [List.getElem_toArray, List.getElem_cons_zero, List.getElem_cons_succ, Act.put, List.setIfInBounds_toArray, List.set_cons_zero, List.set_cons_succ]
        refine wpAnyH_ready (rs := [1]) (by kernel_rfl) (by simp) (AllReadyH.cons rfl (fun K hK => ?_) AllReadyH.nil)
        go_simp
        go_at_call 12
        refine (CA.out _ K39z.out.b).mono ?_
        rintro e w3 ⟨ga, ka, rfl, oa, hb⟩
        have K40z : Hid (Kn w2 w3 [(w2.heap.size + 1, (.cells #[.slice none 0 0, .int .i64 0] 24 (0, 0))), (w2.heap.size, (.cells #[.slice none 0 0, .int .i64 0] 24 (0, 0)))] [(some ⟨ga, 0, none⟩, ns, w2.heap.size + 1 + 1, w3.heap.size)]) := by
          have h := (K39z.out.below hb).rd (lo := ((w2.drew.alloc (.cells #[.slice none 0 0, .int .i64 0] 24 (0, 0))).alloc (.cells #[.slice none 0 0, .int .i64 0] 24 (0, 0))).heap.size) oa.2.2 (fun ad e => by injection e with e; subst e; exact oa.1)
          (try simp only [World.size_alloc] at h)
          (try simp only [World.size_drew] at h)
          exact h
        have hsw3 : w2.heap.size + 1 + 1 ≤ w3.heap.size := by
          have h := hb.size
          (try simp only [World.size_alloc] at h)
          (try simp only [World.size_drew] at h)
          exact h
        have hlw3 : w2.heap.size + 1 + 1 ≤ ga := by
          have h := oa.1
          (try simp only [World.size_alloc] at h)
          (try simp only [World.size_drew] at h)
          exact h
        have huw3 : ga < w3.heap.size := oa.2.1
        clear hb oa
        go_wp2_with fail
        have hS := K40z.out.b
        refine hK.out _ _ hS (fun _ => ?_)
        clear hK K K39z
        try simp only [List.getElem_toArray, List.getElem_cons_zero, List.getElem_cons_succ, Act.put, List.setIfInBounds_toArray, List.set_cons_zero, List.set_cons_succ]
        refine wpAnyH_ready (rs := [3]) (by kernel_rfl) (by simp) (AllReadyH.cons rfl (fun K hK => ?_) AllReadyH.nil)
        go_simp
        go_at_call 12
        refine (CB.out _ K40z.out.b).mono ?_
        rintro e w4 ⟨gb, kb, rfl, oB, hb⟩
        have K41z : Hid (Kn w2 w4 [(w2.heap.size + 1, (.cells #[.slice none 0 0, .int .i64 0] 24 (0, 0))), (w2.heap.size, (.cells #[.slice none 0 0, .int .i64 0] 24 (0, 0)))] [(some ⟨gb, 0, none⟩, ms, w3.heap.size, w4.heap.size), (some ⟨ga, 0, none⟩, ns, w2.heap.size + 1 + 1, w3.heap.size)]) := by
          have h := (K40z.out.below hb).rd (lo := w3.heap.size) oB.2.2 (fun ad e => by injection e with e; subst e; exact oB.1)
          (try simp only [World.size_alloc] at h)
          (try simp only [World.size_drew] at h)
          exact h
        have hsw4 : w3.heap.size ≤ w4.heap.size := by
          have h := hb.size
          (try simp only [World.size_alloc] at h)
          (try simp only [World.size_drew] at h)
          exact h
        have hlw4 : w3.heap.size ≤ gb := by
          have h := oB.1
          (try simp only [World.size_alloc] at h)
          (try simp only [World.size_drew] at h)
          exact h
        have huw4 : gb < w4.heap.size := oB.2.1
        clear hb oB
        go_wp2_with fail
        have hS := K41z.out.b
        refine hK.out _ _ hS (fun _ => ?_)
        clear hK K K40z
        try simp only [List.getElem_toArray, List.getElem_cons_zero, List.getElem_cons_succ, Act.put, List.setIfInBounds_toArray, List.set_cons_zero, List.set_cons_succ]
        obtain ⟨_, _, _, _⟩ := K41z.out.two 0 rfl
        obtain ⟨_, _, _, _⟩ := K41z.out.two 1 rfl
        refine wpAnyH_ready (rs := [6]) (by kernel_rfl) (by simp) (AllReadyH.cons rfl (fun K hK => ?_) AllReadyH.nil)
        go_simp
        have K42z : Hid (Kn w2 ((w4.setCell ⟨w2.heap.size, 0, none⟩ (.slice (some ⟨ga, 0, none⟩) nx ka)).setCell ⟨w2.heap.size, 1, none⟩ (.int .i64 Ls)) [(w2.heap.size + 1, (.cells #[.slice none 0 0, .int .i64 0] 24 (0, 0))), (w2.heap.size, bx (some ⟨ga, 0, none⟩) nx ka Ls)] [(some ⟨gb, 0, none⟩, ms, w3.heap.size, w4.heap.size), (some ⟨ga, 0, none⟩, ns, w2.heap.size + 1 + 1, w3.heap.size)]) := by
          refine Kn.store (L1 := [(w2.heap.size + 1, (.cells #[.slice none 0 0, .int .i64 0] 24 (0, 0)))]) (L2 := []) K41z.out (by omega) ?_ ?_ _ _
          · intro r hr
            have hr : r ∈ [(w2.heap.size + 1, (.cells #[.slice none 0 0, .int .i64 0] 24 (0, 0)))] := hr
            simp only [List.mem_singleton] at hr
            subst hr
            show w2.heap.size + 1 ≠ w2.heap.size
            omega
          · intro r hr
            simp only [List.mem_cons, List.not_mem_nil, or_false] at hr
            rcases hr with rfl | rfl
            · show w2.heap.size < w3.heap.size ∨ w4.heap.size ≤ w2.heap.size
              omega
            · show w2.heap.size < w2.heap.size + 1 + 1 ∨ w3.heap.size ≤ w2.heap.size
              omega
        have hS := K42z.out.b
        refine hK.out _ _ hS (fun _ => ?_)
        clear hK K K41z
        try simp only [List.getElem_toArray, List.getElem_cons_zero, List.getElem_cons_succ, Act.put, List.setIfInBounds_toArray, List.set_cons_zero, List.set_cons_succ]
        generalize ((w4.setCell ⟨w2.heap.size, 0, none⟩ (.slice (some ⟨ga, 0, none⟩) nx ka)).setCell ⟨w2.heap.size, 1, none⟩ (.int .i64 Ls)) = Y at *
        obtain ⟨_, _, _, _⟩ := K42z.out.two 0 rfl
        obtain ⟨_, _, _, _⟩ := K42z.out.two 1 rfl
        refine wpAnyH_ready (rs := [7]) (by kernel_rfl) (by simp) (AllReadyH.cons rfl (fun K hK => ?_) AllReadyH.nil)
        go_simp
        have K43z : Hid (Kn w2 ((Y.setCell ⟨w2.heap.size + 1, 0, none⟩ (.slice (some ⟨gb, 0, none⟩) ny kb)).setCell ⟨w2.heap.size + 1, 1, none⟩ (.int .i64 Lt)) [(w2.heap.size + 1, bx (some ⟨gb, 0, none⟩) ny kb Lt), (w2.heap.size, bx (some ⟨ga, 0, none⟩) nx ka Ls)] [(some ⟨gb, 0, none⟩, ms, w3.heap.size, w4.heap.size), (some ⟨ga, 0, none⟩, ns, w2.heap.size + 1 + 1, w3.heap.size)]) := by
          refine Kn.store (L1 := []) (L2 := [(w2.heap.size, bx (some ⟨ga, 0, none⟩) nx ka Ls)]) K42z.out (by omega) ?_ ?_ _ _
          · intro r hr
            have hr : r ∈ [(w2.heap.size, bx (some ⟨ga, 0, none⟩) nx ka Ls)] := hr
            simp only [List.mem_singleton] at hr
            subst hr
            show w2.heap.size ≠ w2.heap.size + 1
            omega
          · intro r hr
            simp only [List.mem_cons, List.not_mem_nil, or_false] at hr
            rcases hr with rfl | rfl
            · show w2.heap.size + 1 < w3.heap.size ∨ w4.heap.size ≤ w2.heap.size + 1
              omega
            · show w2.heap.size + 1 < w2.heap.size + 1 + 1 ∨ w3.heap.size ≤ w2.heap.size + 1
              omega
        have hS := K43z.out.b
        refine hK.out _ _ hS (fun _ => ?_)
        clear hK K K42z
        try simp only [List.getElem_toArray, List.getElem_cons_zero, List.getElem_cons_succ, Act.put, List.setIfInBounds_toArray, List.set_cons_zero, List.set_cons_succ]
        refine wpAnyH_done (by kernel_rfl) ?_ _
        go_wp2_with fail
        go_meet
        exact ⟨_, _, ga, ka, gb, kb, rfl, rfl, by omega, by omega, by omega, K43z.out.blk 1 rfl, K43z.out.blk 0 rfl, K43z.out.row 1 rfl, K43z.out.row 0 rfl, by omega, by omega, by omega, by omega, K43z.out.b⟩
    · go_simp
      have K44z : Hid (Kn w2 (w2.drew.alloc (.cells #[.slice none 0 0, .int .i64 0] 24 (0, 0))) [(w2.heap.size, (.cells #[.slice none 0 0, .int .i64 0] 24 (0, 0)))] []) := by
        have h := Kz.out.new (.cells #[.slice none 0 0, .int .i64 0] 24 (0, 0))
        (try simp only [World.size_alloc] at h)
        (try simp only [World.size_drew] at h)
        exact h
      have hS := K44z.out.b
      refine hK.out _ _ hS (fun _ => ?_)
      clear hK K Kz
      try simp only [List.getElem_toArray, List.getElem_cons_zero, List.getElem_cons_succ, Act.put, List.setIfInBounds_toArray, List.set_cons_zero, List.set_cons_succ]
      refine wpAnyH_ready (rs := [1, 4]) (by kernel_rfl) (by simp) (AllReadyH.cons rfl (fun K hK => ?_) (AllReadyH.cons rfl (fun K hK => ?_) AllReadyH.nil))
      · go_simp
        go_at_call 12
        refine (CA.out _ K44z.out.b).mono ?_
        rintro e w3 ⟨ga, ka, rfl, oa, hb⟩
        have K45z : Hid (Kn w2 w3 [(w2.heap.size, (.cells #[.slice none 0 0, .int .i64 0] 24 (0, 0)))] [(some ⟨ga, 0, none⟩, ns, w2.heap.size + 1, w3.heap.size)]) := by
          have h := (K44z.out.below hb).rd (lo := (w2.drew.alloc (.cells #[.slice none 0 0, .int .i64 0] 24 (0, 0))).heap.size) oa.2.2 (fun ad e => by injection e with e; subst e; exact oa.1)
          (try simp only [World.size_alloc] at h)
          (try simp only [World.size_drew] at h)
          exact h
        have hsw3 : w2.heap.size + 1 ≤ w3.heap.size := by
          have h := hb.size
          (try simp only [World.size_alloc] at h)
          (try simp only [World.size_drew] at h)
          exact h
        have hlw3 : w2.heap.size + 1 ≤ ga := by
          have h := oa.1
          (try simp only [World.size_alloc] at h)
          (try simp only [World.size_drew] at h)
          exact h
        have huw3 : ga < w3.heap.size := oa.2.1
        clear hb oa
        go_wp2_with fail
        have hS := K45z.out.b
        refine hK.out _ _ hS (fun _ => ?_)
        clear hK K K44z
        try simp only [List.getElem_toArray, List.getElem_cons_zero, List.getElem_cons_succ, Act.put, List.setIfInBounds_toArray, List.set_cons_zero, List.set_cons_succ]
        refine wpAnyH_ready (rs := [3, 4]) (by kernel_rfl) (by simp) (AllReadyH.cons rfl (fun K hK => ?_) (AllReadyH.cons rfl (fun K hK => ?_) AllReadyH.nil))
        · go_simp
          go_at_call 12
          refine (CB.out _ K45z.out.b).mono ?_
          rintro e w4 ⟨gb, kb, rfl, oB, hb⟩
          have K46z : Hid (Kn w2 w4 [(w2.heap.size, (.cells #[.slice none 0 0, .int .i64 0] 24 (0, 0)))] [(some ⟨gb, 0, none⟩, ms, w3.heap.size, w4.heap.size), (some ⟨ga, 0, none⟩, ns, w2.heap.size + 1, w3.heap.size)]) := by
            have h := (K45z.out.below hb).rd (lo := w3.heap.size) oB.2.2 (fun ad e => by injection e with e; subst e; exact oB.1)
            (try simp only [World.size_alloc] at h)
            (try simp only [World.size_drew] at h)
            exact h
          have hsw4 : w3.heap.size ≤ w4.heap.size := by
            have h := hb.size
            (try simp only [World.size_alloc] at h)
            (try simp only [World.size_drew] at h)
            exact h
          have hlw4 : w3.heap.size ≤ gb := by
            have h := oB.1
            (try simp only [World.size_alloc] at h)
            (try simp only [World.size_drew] at h)
            exact h
          have huw4 : gb < w4.heap.size := oB.2.1
          clear hb oB
          go_wp2_with fail
          have hS := K46z.out.b
          refine hK.out _ _ hS (fun _ => ?_)
          clear hK K K45z
          try simp only [List.getElem_toArray, List.getElem_cons_zero, List.getElem_cons_succ, Act.put, List.setIfInBounds_toArray, List.set_cons_zero, List.set_cons_succ]
          refine wpAnyH_ready (rs := [4]) (by kernel_rfl) (by simp) (AllReadyH.cons rfl (fun K hK => ?_) AllReadyH.nil)
          go_simp
          have K47z : Hid (Kn w2 (w4.alloc (.cells #[.slice none 0 0, .int .i64 0] 24 (0, 0))) [(w4.heap.size, (.cells #[.slice none 0 0, .int .i64 0] 24 (0, 0))), (w2.heap.size, (.cells #[.slice none 0 0, .int .i64 0] 24 (0, 0)))] [(some ⟨gb, 0, none⟩, ms, w3.heap.size, w4.heap.size), (some ⟨ga, 0, none⟩, ns, w2.heap.size + 1, w3.heap.size)]) := by
            have h := K46z.out.new (.cells #[.slice none 0 0, .int .i64 0] 24 (0, 0))
            (try simp only [World.size_alloc] at h)
            (try simp only [World.size_drew] at h)
            exact h
          have hS := K47z.out.b
          refine hK.out _ _ hS (fun _ => ?_)
          clear hK K K46z
          try simp only [List.getElem_toArray, List.getElem_cons_zero, List.getElem_cons_succ, Act.put, List.setIfInBounds_toArray, List.set_cons_zero, List.set_cons_succ]
          generalize (w4.alloc (.cells #[.slice none 0 0, .int .i64 0] 24 (0, 0))) = X at *
          obtain ⟨_, _, _, _⟩ := K47z.out.two 0 rfl
          obtain ⟨_, _, _, _⟩ := K47z.out.two 1 rfl
          refine wpAnyH_ready (rs := [6]) (by kernel_rfl) (by simp) (AllReadyH.cons rfl (fun K hK => ?_) AllReadyH.nil)
          go_simp
          have K48z : Hid (Kn w2 ((X.setCell ⟨w4.heap.size, 0, none⟩ (.slice (some ⟨ga, 0, none⟩) nx ka)).setCell ⟨w4.heap.size, 1, none⟩ (.int .i64 Ls)) [(w4.heap.size, bx (some ⟨ga, 0, none⟩) nx ka Ls), (w2.heap.size, (.cells #[.slice none 0 0, .int .i64 0] 24 (0, 0)))] [(some ⟨gb, 0, none⟩, ms, w3.heap.size, w4.heap.size), (some ⟨ga, 0, none⟩, ns, w2.heap.size + 1, w3.heap.size)]) := by
            refine Kn.store (L1 := []) (L2 := [(w2.heap.size, (.cells #[.slice none 0 0, .int .i64 0] 24 (0, 0)))]) K47z.out (by omega) ?_ ?_ _ _
            · intro r hr
              have hr : r ∈ [(w2.heap.size, (.cells #[.slice none 0 0, .int .i64 0] 24 (0, 0)))] := hr
              simp only [List.mem_singleton] at hr
              subst hr
              show w2.heap.size ≠ w4.heap.size
              omega
            · intro r hr
              simp only [List.mem_cons, List.not_mem_nil, or_false] at hr
              rcases hr with rfl | rfl
              · show w4.heap.size < w3.heap.size ∨ w4.heap.size ≤ w4.heap.size
                omega
              · show w4.heap.size < w2.heap.size + 1 ∨ w3.heap.size ≤ w4.heap.size
                omega
          have hS := K48z.out.b
          refine hK.out _ _ hS (fun _ => ?_)
          clear hK K K47z
          try simp only [List.getElem_toArray, List.getElem_cons_zero, List.getElem_cons_succ, Act.put, List.setIfInBounds_toArray, List.set_cons_zero, List.set_cons_succ]
          generalize ((X.setCell ⟨w4.heap.size, 0, none⟩ (.slice (some ⟨ga, 0, none⟩) nx ka)).setCell ⟨w4.heap.size, 1, none⟩ (.int .i64 Ls)) = Y at *
          obtain ⟨_, _, _, _⟩ := K48z.out.two 0 rfl
          obtain ⟨_, _, _, _⟩ := K48z.out.two 1 rfl
          refine wpAnyH_ready (rs := [7]) (by kernel_rfl) (by simp) (AllReadyH.cons rfl (fun K hK => ?_) AllReadyH.nil)
          go_simp
          have K49z : Hid (Kn w2 ((Y.setCell ⟨w2.heap.size, 0, none⟩ (.slice (some ⟨gb, 0, none⟩) ny kb)).setCell ⟨w2.heap.size, 1, none⟩ (.int .i64 Lt)) [(w4.heap.size, bx (some ⟨ga, 0, none⟩) nx ka Ls), (w2.heap.size, bx (some ⟨gb, 0, none⟩) ny kb Lt)] [(some ⟨gb, 0, none⟩, ms, w3.heap.size, w4.heap.size), (some ⟨ga, 0, none⟩, ns, w2.heap.size + 1, w3.heap.size)]) := by
            refine Kn.store (L1 := [(w4.heap.size, bx (some ⟨ga, 0, none⟩) nx ka Ls)]) (L2 := []) K48z.out (by omega) ?_ ?_ _ _
            · intro r hr
              have hr : r ∈ [(w4.heap.size, bx (some ⟨ga, 0, none⟩) nx ka Ls)] := hr
              simp only [List.mem_singleton] at hr
              subst hr
              show w4.heap.size ≠ w2.heap.size
              omega
            · intro r hr
              simp only [List.mem_cons, List.not_mem_nil, or_false] at hr
              rcases hr with rfl | rfl
              · show w2.heap.size < w3.heap.size ∨ w4.heap.size ≤ w2.heap.size
                omega
              · show w2.heap.size < w2.heap.size + 1 ∨ w3.heap.size ≤ w2.heap.size
                omega
          have hS := K49z.out.b
          refine hK.out _ _ hS (fun _ => ?_)
          clear hK K K48z
          try simp only [List.getElem_toArray, List.getElem_cons_zero, List.getElem_cons_succ, Act.put, List.setIfInBounds_toArray, List.set_cons_zero, List.set_cons_succ]
          refine wpAnyH_done (by kernel_rfl) ?_ _
          go_wp2_with fail
          go_meet
          exact ⟨_, _, ga, ka, gb, kb, rfl, rfl, by omega, by omega, by omega, K49z.out.blk 0 rfl, K49z.out.blk 1 rfl, K49z.out.row 1 rfl, K49z.out.row 0 rfl, by omega, by omega, by omega, by omega, K49z.out.b⟩
        · go_simp
          have K50z : Hid (Kn w2 (w3.alloc (.cells #[.slice none 0 0, .int .i64 0] 24 (0, 0))) [(w3.heap.size, (.cells #[.slice none 0 0, .int .i64 0] 24 (0, 0))), (w2.heap.size, (.cells #[.slice none 0 0, .int .i64 0] 24 (0, 0)))] [(some ⟨ga, 0, none⟩, ns, w2.heap.size + 1, w3.heap.size)]) := by
            have h := K45z.out.new (.cells #[.slice none 0 0, .int .i64 0] 24 (0, 0))
            (try simp only [World.size_alloc] at h)
            (try simp only [World.size_drew] at h)
            exact h
          have hS := K50z.out.b
          refine hK.out _ _ hS (fun _ => ?_)
          clear hK K K45z
          try simp only [List.getElem_toArray, List.getElem_cons_zero, List.getElem_cons_succ, Act.put, List.setIfInBounds_toArray, List.set_cons_zero, List.set_cons_succ]
          refine wpAnyH_ready (rs := [3]) (by kernel_rfl) (by simp) (AllReadyH.cons rfl (fun K hK => ?_) AllReadyH.nil)
          go_simp
          go_at_call 12
          refine (CB.out _ K50z.out.b).mono ?_
          rintro e w4 ⟨gb, kb, rfl, oB, hb⟩
          have K51z : Hid (Kn w2 w4 [(w3.heap.size, (.cells #[.slice none 0 0, .int .i64 0] 24 (0, 0))), (w2.heap.size, (.cells #[.slice none 0 0, .int .i64 0] 24 (0, 0)))] [(some ⟨gb, 0, none⟩, ms, w3.heap.size + 1, w4.heap.size), (some ⟨ga, 0, none⟩, ns, w2.heap.size + 1, w3.heap.size)]) := by
            have h := (K50z.out.below hb).rd (lo := (w3.alloc (.cells #[.slice none 0 0, .int .i64 0] 24 (0, 0))).heap.size) oB.2.2 (fun ad e => by injection e with e; subst e; exact oB.1)
            (try simp only [World.size_alloc] at h)
            (try simp only [World.size_drew] at h)
            exact h
          have hsw4 : w3.heap.size + 1 ≤ w4.heap.size := by
            have h := hb.size
            (try simp only [World.size_alloc] at h)
            (try simp only [World.size_drew] at h)
            exact h
          have hlw4 : w3.heap.size + 1 ≤ gb := by
            have h := oB.1
            (try simp only [World.size_alloc] at h)
            (try simp only [World.size_drew] at h)
            exact h
          have huw4 : gb < w4.heap.size := oB.2.1
          clear hb oB
          go_wp2_with fail
          have hS := K51z.out.b
          refine hK.out _ _ hS (fun _ => ?_)
          clear hK K K50z
          try simp only [List.getElem_toArray, List.getElem_cons_zero, List.getElem_cons_succ, Act.put, List.setIfInBounds_toArray, List.set_cons_zero, List.set_cons_succ]
          obtain ⟨_, _, _, _⟩ := K51z.out.two 0 rfl
          obtain ⟨_, _, _, _⟩ := K51z.out.two 1 rfl
          refine wpAnyH_ready (rs := [6]) (by kernel_rfl) (by simp) (AllReadyH.cons rfl (fun K hK => ?_) AllReadyH.nil)
          go_simp
          have K52z : Hid (Kn w2 ((w4.setCell ⟨w3.heap.size, 0, none⟩ (.slice (some ⟨ga, 0, none⟩) nx ka)).setCell ⟨w3.heap.size, 1, none⟩ (.int .i64 Ls)) [(w3.heap.size, bx (some ⟨ga, 0, none⟩) nx ka Ls), (w2.heap.size, (.cells #[.slice none 0 0, .int .i64 0] 24 (0, 0)))] [(some ⟨gb, 0, none⟩, ms, w3.heap.size + 1, w4.heap.size), (some ⟨ga, 0, none⟩, ns, w2.heap.size + 1, w3.heap.size)]) := by
            refine Kn.store (L1 := []) (L2 := [(w2.heap.size, (.cells #[.slice none 0 0, .int .i64 0] 24 (0, 0)))]) K51z.out (by omega) ?_ ?_ _ _
            · intro r hr
              have hr : r ∈ [(w2.heap.size, (.cells #[.slice none 0 0, .int .i64 0] 24 (0, 0)))] := hr
              simp only [List.mem_singleton] at hr
              subst hr
              show w2.heap.size ≠ w3.heap.size
              omega
            · intro r hr
              simp only [List.mem_cons, List.not_mem_nil, or_false] at hr
              rcases hr with rfl | rfl
              · show w3.heap.size < w3.heap.size + 1 ∨ w4.heap.size ≤ w3.heap.size
                omega
              · show w3.heap.size < w2.heap.size + 1 ∨ w3.heap.size ≤ w3.heap.size
                omega
          have hS := K52z.out.b
          refine hK.out _ _ hS (fun _ => ?_)
          clear hK K K51z
          try simp only [List.getElem_toArray, List.getElem_cons_zero, List.getElem_cons_succ, Act.put, List.setIfInBounds_toArray, List.set_cons_zero, List.set_cons_succ]
          generalize ((w4.setCell ⟨w3.heap.size, 0, none⟩ (.slice (some ⟨ga, 0, none⟩) nx ka)).setCell ⟨w3.heap.size, 1, none⟩ (.int .i64 Ls)) = Y at *
          obtain ⟨_, _, _, _⟩ := K52z.out.two 0 rfl
          obtain ⟨_, _, _, _⟩ := K52z.out.two 1 rfl
          refine wpAnyH_ready (rs := [7]) (by kernel_rfl) (by simp) (AllReadyH.cons rfl (fun K hK => ?_) AllReadyH.nil)
          go_simp
          have K53z : Hid (Kn w2 ((Y.setCell ⟨w2.heap.size, 0, none⟩ (.slice (some ⟨gb, 0, none⟩) ny kb)).setCell ⟨w2.heap.size, 1, none⟩ (.int .i64 Lt)) [(w3.heap.size, bx (some ⟨ga, 0, none⟩) nx ka Ls), (w2.heap.size, bx (some ⟨gb, 0, none⟩) ny kb Lt)] [(some ⟨gb, 0, none⟩, ms, w3.heap.size + 1, w4.heap.size), (some ⟨ga, 0, none⟩, ns, w2.heap.size + 1, w3.heap.size)]) := by
            refine Kn.store (L1 := [(w3.heap.size, bx (some ⟨ga, 0, none⟩) nx ka Ls)]) (L2 := []) K52z.out (by omega) ?_ ?_ _ _
            · intro r hr
              have hr : r ∈ [(w3.heap.size, bx (some ⟨ga, 0, none⟩) nx ka Ls)] := hr
              simp only [List.mem_singleton] at hr
              subst hr
              show w3.heap.size ≠ w2.heap.size
              omega
            · intro r hr
              simp only [List.mem_cons, List.not_mem_nil, or_false] at hr
              rcases hr with rfl | rfl
              · show w2.heap.size < w3.heap.size + 1 ∨ w4.heap.size ≤ w2.heap.size
                omega
              · show w2.heap.size < w2.heap.size + 1 ∨ w3.heap.size ≤ w2.heap.size
                omega
          have hS := K53z.out.b
          refine hK.out _ _ hS (fun _ => ?_)
          clear hK K K52z
          try simp only [List.getElem_toArray, List.getElem_cons_zero, List.getElem_cons_succ, Act.put, List.setIfInBounds_toArray, List.set_cons_zero, List.set_cons_succ]
          refine wpAnyH_done (by kernel_rfl) ?_ _
          go_wp2_with fail
          go_meet
          exact ⟨_, _, ga, ka, gb, kb, rfl, rfl, by omega, by omega, by omega, K53z.out.blk 0 rfl, K53z.out.blk 1 rfl, K53z.out.row 1 rfl, K53z.out.row 0 rfl, by omega, by omega, by omega, by omega, K53z.out.b⟩
      · go_simp
        have K54z : Hid (Kn w2 ((w2.drew.alloc (.cells #[.slice none 0 0, .int .i64 0] 24 (0, 0))).alloc (.cells #[.slice none 0 0, .int .i64 0] 24 (0, 0))) [(w2.heap.size + 1, (.cells #[.slice none 0 0, .int .i64 0] 24 (0, 0))), (w2.heap.size, (.cells #[.slice none 0 0, .int .i64 0] 24 (0, 0)))] []) := by
          have h := K44z.out.new (.cells #[.slice none 0 0, .int .i64 0] 24 (0, 0))
          (try simp only [World.size_alloc] at h)
          (try simp only [World.size_drew] at h)
          exact h
        have hS := K54z.out.b
        refine hK.out _ _ hS (fun _ => ?_)
        clear hK K K44z
        try simp only [List.getElem_toArray, List.getElem_cons_zero, List.getElem_cons_succ, Act.put, List.setIfInBounds_toArray, List.set_cons_zero, List.set_cons_succ]
        refine wpAnyH_ready (rs := [1]) (by kernel_rfl) (by simp) (AllReadyH.cons rfl (fun K hK => ?_) AllReadyH.nil)
        go_simp
        go_at_call 12
        refine (CA.out _ K54z.out.b).mono ?_
        rintro e w3 ⟨ga, ka, rfl, oa, hb⟩
        have K55z : Hid (Kn w2 w3 [(w2.heap.size + 1, (.cells #[.slice none 0 0, .int .i64 0] 24 (0, 0))), (w2.heap.size, (.cells #[.slice none 0 0, .int .i64 0] 24 (0, 0)))] [(some ⟨ga, 0, none⟩, ns, w2.heap.size + 1 + 1, w3.heap.size)]) := by
          have h := (K54z.out.below hb).rd (lo := ((w2.drew.alloc (.cells #[.slice none 0 0, .int .i64 0] 24 (0, 0))).alloc (.cells #[.slice none 0 0, .int .i64 0] 24 (0, 0))).heap.size) oa.2.2 (fun ad e => by injection e with e; subst e; exact oa.1)
          (try simp only [World.size_alloc] at h)
          (try simp only [World.size_drew] at h)
          exact h
        have hsw3 : w2.heap.size + 1 + 1 ≤ w3.heap.size := by
          have h := hb.size
          (try simp only [World.size_alloc] at h)
          (try simp only [World.size_drew] at h)
          exact h
        have hlw3 : w2.heap.size + 1 + 1 ≤ ga := by
          have h := oa.1
          (try simp only [World.size_alloc] at h)
          (try simp only [World.size_drew] at h)
          exact h
        have huw3 : ga < w3.heap.size := oa.2.1
        clear hb oa
        go_wp2_with fail
        have hS := K55z.out.b
        refine hK.out _ _ hS (fun _ => ?_)
        clear hK K K54z
        try simp only [List.getElem_toArray, List.getElem_cons_zero, List.getElem_cons_succ, Act.put, List.setIfInBounds_toArray, List.set_cons_zero, List.set_cons_succ]
        refine wpAnyH_ready (rs := [3]) (by kernel_rfl) (by simp) (AllReadyH.cons rfl (fun K hK => ?_) AllReadyH.nil)
        go_simp
        go_at_call 12
        refine (CB.out _ K55z.out.b).mono ?_
        rintro e w4 ⟨gb, kb, rfl, oB, hb⟩
        have K56z : Hid (Kn w2 w4 [(w2.heap.size + 1, (.cells #[.slice none 0 0, .int .i64 0] 24 (0, 0))), (w2.heap.size, (.cells #[.slice none 0 0, .int .i64 0] 24 (0, 0)))] [(some ⟨gb, 0, none⟩, ms, w3.heap.size, w4.heap.size), (some ⟨ga, 0, none⟩, ns, w2.heap.size + 1 + 1, w3.heap.size)]) := by
          have h := (K55z.out.below hb).rd (lo := w3.heap.size) oB.2.2 (fun ad e => by injection e with e; subst e; exact oB.1)
          (try simp only [World.size_alloc] at h)
          (try simp only [World.size_drew] at h)
          exact h
        have hsw4 : w3.heap.size ≤ w4.heap.size := by
          have h := hb.size
          (try simp only [World.size_alloc] at h)
          (try simp only [World.size_drew] at h)
          exact h
        have hlw4 : w3.heap.size ≤ gb := by
          have h := oB.1
          (try simp only [World.size_alloc] at h)
          (try simp only [World.size_drew] at h)
          exact h
        have huw4 : gb < w4.heap.size := oB.2.1
        clear hb oB
        go_wp2_with fail
        have hS := K56z.out.b
        refine hK.out _ _ hS (fun _ => ?_)
        clear hK K K55z
        try simp only [List.getElem_toArray, List.getElem_cons_zero, List.getElem_cons_succ, Act.put, List.setIfInBounds_toArray, List.set_cons_zero, List.set_cons_succ]
        obtain ⟨_, _, _, _⟩ := K56z.out.two 0 rfl
        obtain ⟨_, _, _, _⟩ := K56z.out.two 1 rfl
        refine wpAnyH_ready (rs := [6]) (by kernel_rfl) (by simp) (AllReadyH.cons rfl (fun K hK => ?_) AllReadyH.nil)
        go_simp
        have K57z : Hid (Kn w2 ((w4.setCell ⟨w2.heap.size + 1, 0, none⟩ (.slice (some ⟨ga, 0, none⟩) nx ka)).setCell ⟨w2.heap.size + 1, 1, none⟩ (.int .i64 Ls)) [(w2.heap.size + 1, bx (some ⟨ga, 0, none⟩) nx ka Ls), (w2.heap.size, (.cells #[.slice none 0 0, .int .i64 0] 24 (0, 0)))] [(some ⟨gb, 0, none⟩, ms, w3.heap.size, w4.heap.size), (some ⟨ga, 0, none⟩, ns, w2.heap.size + 1 + 1, w3.heap.size)]) := by
          refine Kn.store (L1 := []) (L2 := [(w2.heap.size, (.cells #[.slice none 0 0, .int .i64 0] 24 (0, 0)))]) K56z.out (by omega) ?_ ?_ _ _
          · intro r hr
            have hr : r ∈ [(w2.heap.size, (.cells #[.slice none 0 0, .int .i64 0] 24 (0, 0)))] := hr
            simp only [List.mem_singleton] at hr
            subst hr
            show w2.heap.size ≠ w2.heap.size + 1
            omega
          · intro r hr
            simp only [List.mem_cons, List.not_mem_nil, or_false] at hr
            rcases hr with rfl | rfl
            · show w2.heap.size + 1 < w3.heap.size ∨ w4.heap.size ≤ w2.heap.size + 1
              omega
            · show w2.heap.size + 1 < w2.heap.size + 1 + 1 ∨ w3.heap.size ≤ w2.heap.size + 1
              omega
        have hS := K57z.out.b
        refine hK.out _ _ hS (fun _ => ?_)
        clear hK K K56z
        try simp only [List.getElem_toArray, List.getElem_cons_zero, List.getElem_cons_succ, Act.put, List.setIfInBounds_toArray, List.set_cons_zero, List.set_cons_succ]
        generalize ((w4.setCell ⟨w2.heap.size + 1, 0, none⟩ (.slice (some ⟨ga, 0, none⟩) nx ka)).setCell ⟨w2.heap.size + 1, 1, none⟩ (.int .i64 Ls)) = Y at *
        obtain ⟨_, _, _, _⟩ := K57z.out.two 0 rfl
        obtain ⟨_, _, _, _⟩ := K57z.out.two 1 rfl
        refine wpAnyH_ready (rs := [7]) (by kernel_rfl) (by simp) (AllReadyH.cons rfl (fun K hK => ?_) AllReadyH.nil)
        go_simp
        have K58z : Hid (Kn w2 ((Y.setCell ⟨w2.heap.size, 0, none⟩ (.slice (some ⟨gb, 0, none⟩) ny kb)).setCell ⟨w2.heap.size, 1, none⟩ (.int .i64 Lt)) [(w2.heap.size + 1, bx (some ⟨ga, 0, none⟩) nx ka Ls), (w2.heap.size, bx (some ⟨gb, 0, none⟩) ny kb Lt)] [(some ⟨gb, 0, none⟩, ms, w3.heap.size, w4.heap.size), (some ⟨ga, 0, none⟩, ns, w2.heap.size + 1 + 1, w3.heap.size)]) := by
          refine Kn.store (L1 := [(w2.heap.size + 1, bx (some ⟨ga, 0, none⟩) nx ka Ls)]) (L2 := []) K57z.out (by omega) ?_ ?_ _ _
          · intro r hr
            have hr : r ∈ [(w2.heap.size + 1, bx (some ⟨ga, 0, none⟩) nx ka Ls)] := hr
            simp only [List.mem_singleton] at hr
            subst hr
            show w2.heap.size + 1 ≠ w2.heap.size
            omega
          · intro r hr
            simp only [List.mem_cons, List.not_mem_nil, or_false] at hr
            rcases hr with rfl | rfl
            · show w2.heap.size < w3.heap.size ∨ w4.heap.size ≤ w2.heap.size
              omega
            · show w2.heap.size < w2.heap.size + 1 + 1 ∨ w3.heap.size ≤ w2.heap.size
              omega
        have hS := K58z.out.b
        refine hK.out _ _ hS (fun _ => ?_)
        clear hK K K57z
        try simp only [List.getElem_toArray, List.getElem_cons_zero, List.getElem_cons_succ, Act.put, List.setIfInBounds_toArray, List.set_cons_zero, List.set_cons_succ]
        refine wpAnyH_done (by kernel_rfl) ?_ _
        go_wp2_with fail
        go_meet
        exact ⟨_, _, ga, ka, gb, kb, rfl, rfl, by omega, by omega, by omega, K58z.out.blk 0 rfl, K58z.out.blk 1 rfl, K58z.out.row 1 rfl, K58z.out.row 0 rfl, by omega, by omega, by omega, by omega, K58z.out.b⟩
  case rest => as_aux_lemma =>
    obtain ⟨p, q, g1, c1, g2, c2, rfl, rfl, hpq, hp, hq, hbp, hbq, ra, rb, g1p, g1q, g2p, g2q, hbw⟩ := hcut
    have KC := K2.out.below hbw
    have hf : Below w.heap.size w wc := HB3.out.trans (KC.b.mono (by have := HZ3.out; omega))
    have HF := Lib.hid hf
    have hsz : w.heap.size + 1 + 1 + 1 ≤ wc.heap.size := by have := KC.b.size; have := HZ3.out; omega
    have hsp : w.heap.size + 1 + 1 + 1 ≤ p ∧ p < wc.heap.size := ⟨by have := K2.out.b.size; have := HZ3.out; omega, lt_of_block hbp⟩
    have hsq : w.heap.size + 1 + 1 + 1 ≤ q ∧ q < wc.heap.size := ⟨by have := K2.out.b.size; have := HZ3.out; omega, lt_of_block hbq⟩
    have RA := R1.out.below KC.b
    have RB := R2.out.below KC.b
    have RZ := R3.out.below KC.b
    have KA : Hid (Kn wc wc [(p, bx (some ⟨g1, 0, none⟩) nx c1 Ls), (q, bx (some ⟨g2, 0, none⟩) ny c2 Lt), (w.heap.size + 1 + 1, bq n wd fr tt Ab nz cb), (w.heap.size + 1, bx At ny ct Lt), (w.heap.size, bx As nx cs Ls)] [(some ⟨g1, 0, none⟩, ns, 0, wc.heap.size), (some ⟨g2, 0, none⟩, ms, 0, wc.heap.size), (As, ns, 0, wc.heap.size), (At, ms, 0, wc.heap.size)]) := by
      have h1 : Kn wc wc _ [] := ⟨(KC.1.cons hbq).cons hbp, (fun r hr => by cases hr), Below.refl _ _⟩
      exact (((h1.rd (lo := 0) RB (fun _ _ => Nat.zero_le _)).rd (lo := 0) RA (fun _ _ => Nat.zero_le _)).rd (lo := 0) rb (fun _ _ => Nat.zero_le _)).rd (lo := 0) ra (fun _ _ => Nat.zero_le _)
    obtain ⟨o1, k1, PA, QA⟩ := sides (W := wc) (A := some ⟨g1, 0, none⟩) (B := As) (c := c1) (d := cs) (L := Ls) (xs := xs) H1.out (N4.out _ _ ra) (N4.out _ _ RA) (by rw [HNX.out]; exact HX.out.1) HX.out.2.1 HX.out.2.2
    obtain ⟨o2, k2, PB, QB⟩ := sides (W := wc) (A := some ⟨g2, 0, none⟩) (B := At) (c := c2) (d := ct) (L := Lt) (xs := ys) H2.out (M4.out _ _ rb) (M4.out _ _ RB) (by rw [HNY.out]; exact HY.out.1) HY.out.2.1 HY.out.2.2
    obtain ⟨rt, hrt⟩ : ∃ rt, rt = o1.isSome := ⟨_, rfl⟩
    obtain ⟨st, hst⟩ : ∃ st, st = sOf o1 := ⟨_, rfl⟩
    have hT := QA.1
    have hR := PA.right
    unfold TextIs at hT
    rw [← hrt] at hR hT
    rw [← hst, HNX.out] at hT
    rw [HNX.out] at hR
    have HT := Lib.hid hT
    have HR := Lib.hid hR
    obtain ⟨xj, Lj, kj, bj, a1, a2⟩ := pairJoin PA QA PB QB
    obtain ⟨xc, Lc, kc, bc, a3, a4⟩ := pairCut PA QA fr tt
    obtain ⟨xf, Lf, kf, bf, a5, a6⟩ := pairField PA QA n wd HNN.out
    obtain ⟨xk, Lk, kk, bk, a7, a8⟩ := pairKnot PA QA n HNN.out
    obtain ⟨xu, Lu, ku, bu, a9, a10⟩ := pairUnpack (c := cb) H3.out RZ (by rw [HNZ.out]; exact HZB.out)
    obtain ⟨va, vb, vk, a11, a12⟩ := pairGetField PA QA fr wd
    obtain ⟨ua, ub, uk, a13, a14⟩ := pairGetKnot PA QA fr
    obtain ⟨xp, kp, bp, a15, a16⟩ := pairPack PA QA
    rw [HNX.out] at a1 a2 a3 a4 a5 a6 a7 a8 a11 a12 a13 a14 a15 a16
    rw [HNY.out] at a1 a2
    rw [HNZ.out] at a9 a10
    have HA1 := Lib.hid a1
    have HA2 := Lib.hid a2
    have HA3 := Lib.hid a3
    have HA4 := Lib.hid a4
    have HA5 := Lib.hid a5
    have HA6 := Lib.hid a6
    have HA7 := Lib.hid a7
    have HA8 := Lib.hid a8
    have HA9 := Lib.hid a9
    have HA10 := Lib.hid a10
    have HA11 := Lib.hid a11
    have HA12 := Lib.hid a12
    have HA13 := Lib.hid a13
    have HA14 := Lib.hid a14
    have HA15 := Lib.hid a15
    have HA16 := Lib.hid a16
    have HMS := Lib.hid (⟨N2.out, M2.out, N1.out, M1.out⟩ : _ ∧ _ ∧ _ ∧ _)
    clear a1 a2 a3 a4 a5 a6 a7 a8 a9 a10 a11 a12 a13 a14 a15 a16 PA QA PB QB k1 k2 hT hR hrt hst KC K2 hbp hbq ra rb RA RB RZ hbw hf i1 i2 i3 i4 i5 i6 i7 i8 i9 H1 H2 H3 R1 R2 R3 E1 E2 N4 M4 N1 N2 M1 M2 HNN HW3 HZB HNX HNY HNZ HGA HGB HX HY HB3 HZ3 dB
    obtain ⟨hcs0, hcs1, hcs2, hcs3⟩ := KA.out.two 4 rfl
    go_wp2_with fail
    refine (HT.out _ KA.out.b).mono ?_
    rintro e y1 ⟨rfl, hb⟩
    clear hcs0 hcs1 hcs2 hcs3
    have hsy1 : wc.heap.size ≤ y1.heap.size := by
      have h := hb.size
      (try simp only [World.size_alloc] at h)
      (try simp only [World.setCell, Array.size_modify] at h)
      exact h
    have KN1 := Lib.hid (KA.out.below hb)
    clear hb KA
    obtain ⟨hy1p0, hy1p1, hy1p2, hy1p3⟩ := KN1.out.two 0 rfl
    obtain ⟨hy1q0, hy1q1, hy1q2, hy1q3⟩ := KN1.out.two 1 rfl
    go_wp2_with fail
    refine (HA1.out _ KN1.out.b).mono ?_
    rintro e y2 ⟨P1, c3, rfl, hr, hlo, hb⟩
    clear hy1p0 hy1p1 hy1p2 hy1p3 hy1q0 hy1q1 hy1q2 hy1q3
    have hsy2 : y1.heap.size ≤ y2.heap.size := by
      have h := hb.size
      (try simp only [World.size_alloc] at h)
      (try simp only [World.setCell, Array.size_modify] at h)
      exact h
    have KN2 : Hid (Kn wc (y2.alloc (bx P1 xj.length c3 Lj)) [(y2.heap.size, bx P1 xj.length c3 Lj), (p, bx (some ⟨g1, 0, none⟩) nx c1 Ls), (q, bx (some ⟨g2, 0, none⟩) ny c2 Lt), (w.heap.size + 1 + 1, bq n wd fr tt Ab nz cb), (w.heap.size + 1, bx At ny ct Lt), (w.heap.size, bx As nx cs Ls)] [(P1, xj, y1.heap.size, y2.heap.size), (some ⟨g1, 0, none⟩, ns, 0, wc.heap.size), (some ⟨g2, 0, none⟩, ms, 0, wc.heap.size), (As, ns, 0, wc.heap.size), (At, ms, 0, wc.heap.size)]) := by
      have h := ((KN1.out.below hb).rd hr hlo).new (bx P1 xj.length c3 Lj)
      (try simp only [World.size_alloc] at h)
      (try simp only [World.setCell, Array.size_modify] at h)
      exact h
    clear hb hr hlo KN1
    obtain ⟨hy2s0, hy2s1, hy2s2, hy2s3⟩ := KN2.out.two 5 rfl
    obtain ⟨hy2t0, hy2t1, hy2t2, hy2t3⟩ := KN2.out.two 4 rfl
    go_wp2_with fail
    refine (HA2.out _ KN2.out.b).mono ?_
    rintro e y3 ⟨P2, c4, rfl, hr, hlo, hb⟩
    clear hy2s0 hy2s1 hy2s2 hy2s3 hy2t0 hy2t1 hy2t2 hy2t3
    have hsy3 : y2.heap.size + 1 ≤ y3.heap.size := by
      have h := hb.size
      (try simp only [World.size_alloc] at h)
      (try simp only [World.setCell, Array.size_modify] at h)
      exact h
    have KN3 : Hid (Kn wc (y3.alloc (bx P2 xj.length c4 Lj)) [(y3.heap.size, bx P2 xj.length c4 Lj), (y2.heap.size, bx P1 xj.length c3 Lj), (p, bx (some ⟨g1, 0, none⟩) nx c1 Ls), (q, bx (some ⟨g2, 0, none⟩) ny c2 Lt), (w.heap.size + 1 + 1, bq n wd fr tt Ab nz cb), (w.heap.size + 1, bx At ny ct Lt), (w.heap.size, bx As nx cs Ls)] [(P2, xj, y2.heap.size + 1, y3.heap.size), (P1, xj, y1.heap.size, y2.heap.size), (some ⟨g1, 0, none⟩, ns, 0, wc.heap.size), (some ⟨g2, 0, none⟩, ms, 0, wc.heap.size), (As, ns, 0, wc.heap.size), (At, ms, 0, wc.heap.size)]) := by
      have h := ((KN2.out.below hb).rd hr hlo).new (bx P2 xj.length c4 Lj)
      (try simp only [World.size_alloc] at h)
      (try simp only [World.setCell, Array.size_modify] at h)
      exact h
    clear hb hr hlo KN2
    obtain ⟨hy3p0, hy3p1, hy3p2, hy3p3⟩ := KN3.out.two 2 rfl
    go_wp2_with fail
    refine (HR.out _ KN3.out.b).mono ?_
    rintro e y4 ⟨rfl, hb⟩
    clear hy3p0 hy3p1 hy3p2 hy3p3
    have hsy4 : y3.heap.size + 1 ≤ y4.heap.size := by
      have h := hb.size
      (try simp only [World.size_alloc] at h)
      (try simp only [World.setCell, Array.size_modify] at h)
      exact h
    have KN4 := Lib.hid (KN3.out.below hb)
    clear hb KN3
    obtain ⟨hy4a0, hy4a1, hy4a2, hy4a3⟩ := KN4.out.two 1 rfl
    obtain ⟨hy4b0, hy4b1, hy4b2, hy4b3⟩ := KN4.out.two 0 rfl
    go_wp2_with fail
    refine (same_n _ _ _ _ _ _ xj _ (KN4.out.row 1 rfl) (KN4.out.row 0 rfl) rfl bj).mono ?_
    rintro e y5 ⟨rfl, hb⟩
    clear hy4a0 hy4a1 hy4a2 hy4a3 hy4b0 hy4b1 hy4b2 hy4b3
    have hsy5 : y4.heap.size ≤ y5.heap.size := by
      have h := hb.size
      (try simp only [World.size_alloc] at h)
      (try simp only [World.setCell, Array.size_modify] at h)
      exact h
    have KN5 := Lib.hid (KN4.out.below hb)
    clear hb KN4
    obtain ⟨hy5p0, hy5p1, hy5p2, hy5p3⟩ := KN5.out.two 2 rfl
    obtain ⟨hy5x0, hy5x1, hy5x2, hy5x3, hy5x4⟩ := KN5.out.five 4 rfl
    go_wp2_with fail
    refine (HA3.out _ KN5.out.b).mono ?_
    rintro e y6 ⟨P3, c5, rfl, hr, hlo, hb⟩
    clear hy5p0 hy5p1 hy5p2 hy5p3 hy5x0 hy5x1 hy5x2 hy5x3 hy5x4
    have hsy6 : y5.heap.size ≤ y6.heap.size := by
      have h := hb.size
      (try simp only [World.size_alloc] at h)
      (try simp only [World.setCell, Array.size_modify] at h)
      exact h
    have KN7 : Hid (Kn wc y6 [(y3.heap.size, bx P2 xj.length c4 Lj), (y2.heap.size, bx P1 xj.length c3 Lj), (p, bx (some ⟨g1, 0, none⟩) nx c1 Ls), (q, bx (some ⟨g2, 0, none⟩) ny c2 Lt), (w.heap.size + 1 + 1, bq n wd fr tt Ab nz cb), (w.heap.size + 1, bx At ny ct Lt), (w.heap.size, bx As nx cs Ls)] [(P3, xc, y5.heap.size, y6.heap.size), (P2, xj, y2.heap.size + 1, y3.heap.size), (P1, xj, y1.heap.size, y2.heap.size), (some ⟨g1, 0, none⟩, ns, 0, wc.heap.size), (some ⟨g2, 0, none⟩, ms, 0, wc.heap.size), (As, ns, 0, wc.heap.size), (At, ms, 0, wc.heap.size)]) := by
      have h := (KN5.out.below hb).rd hr hlo
      (try simp only [World.size_alloc] at h)
      (try simp only [World.setCell, Array.size_modify] at h)
      exact h
    clear hb hr hlo KN5
    have KN6 : Hid (Kn wc ((y6.setCell ⟨y2.heap.size, 0, none⟩ (.slice P3 xc.length c5)).setCell ⟨y2.heap.size, 1, none⟩ (.int .i64 Lc)) [(y3.heap.size, bx P2 xj.length c4 Lj), (y2.heap.size, bx P3 xc.length c5 Lc), (p, bx (some ⟨g1, 0, none⟩) nx c1 Ls), (q, bx (some ⟨g2, 0, none⟩) ny c2 Lt), (w.heap.size + 1 + 1, bq n wd fr tt Ab nz cb), (w.heap.size + 1, bx At ny ct Lt), (w.heap.size, bx As nx cs Ls)] [(P3, xc, y5.heap.size, y6.heap.size), (P2, xj, y2.heap.size + 1, y3.heap.size), (P1, xj, y1.heap.size, y2.heap.size), (some ⟨g1, 0, none⟩, ns, 0, wc.heap.size), (some ⟨g2, 0, none⟩, ms, 0, wc.heap.size), (As, ns, 0, wc.heap.size), (At, ms, 0, wc.heap.size)]) := by
      refine Kn.store (L1 := [(y3.heap.size, bx P2 xj.length c4 Lj)]) (L2 := [(p, bx (some ⟨g1, 0, none⟩) nx c1 Ls), (q, bx (some ⟨g2, 0, none⟩) ny c2 Lt), (w.heap.size + 1 + 1, bq n wd fr tt Ab nz cb), (w.heap.size + 1, bx At ny ct Lt), (w.heap.size, bx As nx cs Ls)]) KN7.out (by omega) ?_ ?_ _ _
      · intro r hr
        have hr : r ∈ [(y3.heap.size, bx P2 xj.length c4 Lj), (p, bx (some ⟨g1, 0, none⟩) nx c1 Ls), (q, bx (some ⟨g2, 0, none⟩) ny c2 Lt), (w.heap.size + 1 + 1, bq n wd fr tt Ab nz cb), (w.heap.size + 1, bx At ny ct Lt), (w.heap.size, bx As nx cs Ls)] := hr
        simp only [List.mem_cons, List.not_mem_nil, or_false] at hr
        rcases hr with rfl | rfl | rfl | rfl | rfl | rfl
        · show y3.heap.size ≠ y2.heap.size
          omega
        · show p ≠ y2.heap.size
          omega
        · show q ≠ y2.heap.size
          omega
        · show w.heap.size + 1 + 1 ≠ y2.heap.size
          omega
        · show w.heap.size + 1 ≠ y2.heap.size
          omega
        · show w.heap.size ≠ y2.heap.size
          omega
      · intro r hr
        simp only [List.mem_cons, List.not_mem_nil, or_false] at hr
        rcases hr with rfl | rfl | rfl | rfl | rfl | rfl | rfl
        · show y2.heap.size < y5.heap.size ∨ y6.heap.size ≤ y2.heap.size
          omega
        · show y2.heap.size < y2.heap.size + 1 ∨ y3.heap.size ≤ y2.heap.size
          omega
        · show y2.heap.size < y1.heap.size ∨ y2.heap.size ≤ y2.heap.size
          omega
        · show y2.heap.size < 0 ∨ wc.heap.size ≤ y2.heap.size
          omega
        · show y2.heap.size < 0 ∨ wc.heap.size ≤ y2.heap.size
          omega
        · show y2.heap.size < 0 ∨ wc.heap.size ≤ y2.heap.size
          omega
        · show y2.heap.size < 0 ∨ wc.heap.size ≤ y2.heap.size
          omega
    obtain ⟨hy6a0, hy6a1, hy6a2, hy6a3⟩ := KN7.out.two 1 rfl
    obtain ⟨hy6s0, hy6s1, hy6s2, hy6s3⟩ := KN7.out.two 6 rfl
    obtain ⟨hy6x0, hy6x1, hy6x2, hy6x3, hy6x4⟩ := KN7.out.five 4 rfl
    obtain ⟨hy6ss0, hy6ss1, hy6ss2, hy6ss3⟩ := KN6.out.two 6 rfl
    obtain ⟨hy6sx0, hy6sx1, hy6sx2, hy6sx3, hy6sx4⟩ := KN6.out.five 4 rfl
    clear KN7
    go_wp2_with fail
    refine (HA4.out _ KN6.out.b).mono ?_
    rintro e y7 ⟨P4, c6, rfl, hr, hlo, hb⟩
    clear hy6a0 hy6a1 hy6a2 hy6a3 hy6s0 hy6s1 hy6s2 hy6s3 hy6x0 hy6x1 hy6x2 hy6x3 hy6x4 hy6ss0 hy6ss1 hy6ss2 hy6ss3 hy6sx0 hy6sx1 hy6sx2 hy6sx3 hy6sx4
    have hsy7 : y6.heap.size ≤ y7.heap.size := by
      have h := hb.size
      (try simp only [World.size_alloc] at h)
      (try simp only [World.setCell, Array.size_modify] at h)
      exact h
    have KN9 : Hid (Kn wc y7 [(y3.heap.size, bx P2 xj.length c4 Lj), (y2.heap.size, bx P3 xc.length c5 Lc), (p, bx (some ⟨g1, 0, none⟩) nx c1 Ls), (q, bx (some ⟨g2, 0, none⟩) ny c2 Lt), (w.heap.size + 1 + 1, bq n wd fr tt Ab nz cb), (w.heap.size + 1, bx At ny ct Lt), (w.heap.size, bx As nx cs Ls)] [(P4, xc, y6.heap.size, y7.heap.size), (P3, xc, y5.heap.size, y6.heap.size), (P2, xj, y2.heap.size + 1, y3.heap.size), (P1, xj, y1.heap.size, y2.heap.size), (some ⟨g1, 0, none⟩, ns, 0, wc.heap.size), (some ⟨g2, 0, none⟩, ms, 0, wc.heap.size), (As, ns, 0, wc.heap.size), (At, ms, 0, wc.heap.size)]) := by
      have h := (KN6.out.below hb).rd hr hlo
      (try simp only [World.size_alloc] at h)
      (try simp only [World.setCell, Array.size_modify] at h)
      exact h
    clear hb hr hlo KN6
    have KN8 : Hid (Kn wc ((y7.setCell ⟨y3.heap.size, 0, none⟩ (.slice P4 xc.length c6)).setCell ⟨y3.heap.size, 1, none⟩ (.int .i64 Lc)) [(y3.heap.size, bx P4 xc.length c6 Lc), (y2.heap.size, bx P3 xc.length c5 Lc), (p, bx (some ⟨g1, 0, none⟩) nx c1 Ls), (q, bx (some ⟨g2, 0, none⟩) ny c2 Lt), (w.heap.size + 1 + 1, bq n wd fr tt Ab nz cb), (w.heap.size + 1, bx At ny ct Lt), (w.heap.size, bx As nx cs Ls)] [(P4, xc, y6.heap.size, y7.heap.size), (P3, xc, y5.heap.size, y6.heap.size), (P2, xj, y2.heap.size + 1, y3.heap.size), (P1, xj, y1.heap.size, y2.heap.size), (some ⟨g1, 0, none⟩, ns, 0, wc.heap.size), (some ⟨g2, 0, none⟩, ms, 0, wc.heap.size), (As, ns, 0, wc.heap.size), (At, ms, 0, wc.heap.size)]) := by
      refine Kn.store (L1 := []) (L2 := [(y2.heap.size, bx P3 xc.length c5 Lc), (p, bx (some ⟨g1, 0, none⟩) nx c1 Ls), (q, bx (some ⟨g2, 0, none⟩) ny c2 Lt), (w.heap.size + 1 + 1, bq n wd fr tt Ab nz cb), (w.heap.size + 1, bx At ny ct Lt), (w.heap.size, bx As nx cs Ls)]) KN9.out (by omega) ?_ ?_ _ _
      · intro r hr
        have hr : r ∈ [(y2.heap.size, bx P3 xc.length c5 Lc), (p, bx (some ⟨g1, 0, none⟩) nx c1 Ls), (q, bx (some ⟨g2, 0, none⟩) ny c2 Lt), (w.heap.size + 1 + 1, bq n wd fr tt Ab nz cb), (w.heap.size + 1, bx At ny ct Lt), (w.heap.size, bx As nx cs Ls)] := hr
        simp only [List.mem_cons, List.not_mem_nil, or_false] at hr
        rcases hr with rfl | rfl | rfl | rfl | rfl | rfl
        · show y2.heap.size ≠ y3.heap.size
          omega
        · show p ≠ y3.heap.size
          omega
        · show q ≠ y3.heap.size
          omega
        · show w.heap.size + 1 + 1 ≠ y3.heap.size
          omega
        · show w.heap.size + 1 ≠ y3.heap.size
          omega
        · show w.heap.size ≠ y3.heap.size
          omega
      · intro r hr
        simp only [List.mem_cons, List.not_mem_nil, or_false] at hr
        rcases hr with rfl | rfl | rfl | rfl | rfl | rfl | rfl | rfl
        · show y3.heap.size < y6.heap.size ∨ y7.heap.size ≤ y3.heap.size
          omega
        · show y3.heap.size < y5.heap.size ∨ y6.heap.size ≤ y3.heap.size
          omega
        · show y3.heap.size < y2.heap.size + 1 ∨ y3.heap.size ≤ y3.heap.size
          omega
        · show y3.heap.size < y1.heap.size ∨ y2.heap.size ≤ y3.heap.size
          omega
        · show y3.heap.size < 0 ∨ wc.heap.size ≤ y3.heap.size
          omega
        · show y3.heap.size < 0 ∨ wc.heap.size ≤ y3.heap.size
          omega
        · show y3.heap.size < 0 ∨ wc.heap.size ≤ y3.heap.size
          omega
        · show y3.heap.size < 0 ∨ wc.heap.size ≤ y3.heap.size
          omega
    obtain ⟨hy7b0, hy7b1, hy7b2, hy7b3⟩ := KN9.out.two 0 rfl
    obtain ⟨hy7p0, hy7p1, hy7p2, hy7p3⟩ := KN9.out.two 2 rfl
    obtain ⟨hy7x0, hy7x1, hy7x2, hy7x3, hy7x4⟩ := KN9.out.five 4 rfl
    obtain ⟨hy7sp0, hy7sp1, hy7sp2, hy7sp3⟩ := KN8.out.two 2 rfl
    obtain ⟨hy7sx0, hy7sx1, hy7sx2, hy7sx3, hy7sx4⟩ := KN8.out.five 4 rfl
    clear KN9
    go_wp2_with fail
    refine (HA5.out _ KN8.out.b).mono ?_
    rintro e y8 ⟨P5, c7, rfl, hr, hlo, hb⟩
    clear hy7b0 hy7b1 hy7b2 hy7b3 hy7p0 hy7p1 hy7p2 hy7p3 hy7x0 hy7x1 hy7x2 hy7x3 hy7x4 hy7sp0 hy7sp1 hy7sp2 hy7sp3 hy7sx0 hy7sx1 hy7sx2 hy7sx3 hy7sx4
    have hsy8 : y7.heap.size ≤ y8.heap.size := by
      have h := hb.size
      (try simp only [World.size_alloc] at h)
      (try simp only [World.setCell, Array.size_modify] at h)
      exact h
    have KN10 : Hid (Kn wc (y8.alloc (bx P5 xf.length c7 Lf)) [(y8.heap.size, bx P5 xf.length c7 Lf), (y3.heap.size, bx P4 xc.length c6 Lc), (y2.heap.size, bx P3 xc.length c5 Lc), (p, bx (some ⟨g1, 0, none⟩) nx c1 Ls), (q, bx (some ⟨g2, 0, none⟩) ny c2 Lt), (w.heap.size + 1 + 1, bq n wd fr tt Ab nz cb), (w.heap.size + 1, bx At ny ct Lt), (w.heap.size, bx As nx cs Ls)] [(P5, xf, y7.heap.size, y8.heap.size), (P4, xc, y6.heap.size, y7.heap.size), (P3, xc, y5.heap.size, y6.heap.size), (P2, xj, y2.heap.size + 1, y3.heap.size), (P1, xj, y1.heap.size, y2.heap.size), (some ⟨g1, 0, none⟩, ns, 0, wc.heap.size), (some ⟨g2, 0, none⟩, ms, 0, wc.heap.size), (As, ns, 0, wc.heap.size), (At, ms, 0, wc.heap.size)]) := by
      have h := ((KN8.out.below hb).rd hr hlo).new (bx P5 xf.length c7 Lf)
      (try simp only [World.size_alloc] at h)
      (try simp only [World.setCell, Array.size_modify] at h)
      exact h
    clear hb hr hlo KN8
    obtain ⟨hy8s0, hy8s1, hy8s2, hy8s3⟩ := KN10.out.two 7 rfl
    obtain ⟨hy8x0, hy8x1, hy8x2, hy8x3, hy8x4⟩ := KN10.out.five 5 rfl
    go_wp2_with fail
    refine (HA6.out _ KN10.out.b).mono ?_
    rintro e y9 ⟨P6, c8, rfl, hr, hlo, hb⟩
    clear hy8s0 hy8s1 hy8s2 hy8s3 hy8x0 hy8x1 hy8x2 hy8x3 hy8x4
    have hsy9 : y8.heap.size + 1 ≤ y9.heap.size := by
      have h := hb.size
      (try simp only [World.size_alloc] at h)
      (try simp only [World.setCell, Array.size_modify] at h)
      exact h
    have KN11 : Hid (Kn wc (y9.alloc (bx P6 xf.length c8 Lf)) [(y9.heap.size, bx P6 xf.length c8 Lf), (y8.heap.size, bx P5 xf.length c7 Lf), (y3.heap.size, bx P4 xc.length c6 Lc), (y2.heap.size, bx P3 xc.length c5 Lc), (p, bx (some ⟨g1, 0, none⟩) nx c1 Ls), (q, bx (some ⟨g2, 0, none⟩) ny c2 Lt), (w.heap.size + 1 + 1, bq n wd fr tt Ab nz cb), (w.heap.size + 1, bx At ny ct Lt), (w.heap.size, bx As nx cs Ls)] [(P6, xf, y8.heap.size + 1, y9.heap.size), (P5, xf, y7.heap.size, y8.heap.size), (P4, xc, y6.heap.size, y7.heap.size), (P3, xc, y5.heap.size, y6.heap.size), (P2, xj, y2.heap.size + 1, y3.heap.size), (P1, xj, y1.heap.size, y2.heap.size), (some ⟨g1, 0, none⟩, ns, 0, wc.heap.size), (some ⟨g2, 0, none⟩, ms, 0, wc.heap.size), (As, ns, 0, wc.heap.size), (At, ms, 0, wc.heap.size)]) := by
      have h := ((KN10.out.below hb).rd hr hlo).new (bx P6 xf.length c8 Lf)
      (try simp only [World.size_alloc] at h)
      (try simp only [World.setCell, Array.size_modify] at h)
      exact h
    clear hb hr hlo KN10
    obtain ⟨hy9a0, hy9a1, hy9a2, hy9a3⟩ := KN11.out.two 3 rfl
    obtain ⟨hy9b0, hy9b1, hy9b2, hy9b3⟩ := KN11.out.two 2 rfl
    go_wp2_with fail
    refine (same_n _ _ _ _ _ _ xc _ (KN11.out.row 3 rfl) (KN11.out.row 2 rfl) rfl bc).mono ?_
    rintro e y10 ⟨rfl, hb⟩
    clear hy9a0 hy9a1 hy9a2 hy9a3 hy9b0 hy9b1 hy9b2 hy9b3
    have hsy10 : y9.heap.size + 1 ≤ y10.heap.size := by
      have h := hb.size
      (try simp only [World.size_alloc] at h)
      (try simp only [World.setCell, Array.size_modify] at h)
      exact h
    have KN12 := Lib.hid (KN11.out.below hb)
    clear hb KN11
    obtain ⟨hy10c0, hy10c1, hy10c2, hy10c3⟩ := KN12.out.two 1 rfl
    obtain ⟨hy10d0, hy10d1, hy10d2, hy10d3⟩ := KN12.out.two 0 rfl
    go_wp2_with fail
    refine (same_n _ _ _ _ _ _ xf _ (KN12.out.row 1 rfl) (KN12.out.row 0 rfl) rfl bf).mono ?_
    rintro e y11 ⟨rfl, hb⟩
    clear hy10c0 hy10c1 hy10c2 hy10c3 hy10d0 hy10d1 hy10d2 hy10d3
    have hsy11 : y10.heap.size ≤ y11.heap.size := by
      have h := hb.size
      (try simp only [World.size_alloc] at h)
      (try simp only [World.setCell, Array.size_modify] at h)
      exact h
    have KN13 := Lib.hid (KN12.out.below hb)
    clear hb KN12
    obtain ⟨hy11p0, hy11p1, hy11p2, hy11p3⟩ := KN13.out.two 4 rfl
    obtain ⟨hy11x0, hy11x1, hy11x2, hy11x3, hy11x4⟩ := KN13.out.five 6 rfl
    go_wp2_with fail
    refine (HA7.out _ KN13.out.b).mono ?_
    rintro e y12 ⟨P7, c9, rfl, hr, hlo, hb⟩
    clear hy11p0 hy11p1 hy11p2 hy11p3 hy11x0 hy11x1 hy11x2 hy11x3 hy11x4
    have hsy12 : y11.heap.size ≤ y12.heap.size := by
      have h := hb.size
      (try simp only [World.size_alloc] at h)
      (try simp only [World.setCell, Array.size_modify] at h)
      exact h
    have KN15 : Hid (Kn wc y12 [(y9.heap.size, bx P6 xf.length c8 Lf), (y8.heap.size, bx P5 xf.length c7 Lf), (y3.heap.size, bx P4 xc.length c6 Lc), (y2.heap.size, bx P3 xc.length c5 Lc), (p, bx (some ⟨g1, 0, none⟩) nx c1 Ls), (q, bx (some ⟨g2, 0, none⟩) ny c2 Lt), (w.heap.size + 1 + 1, bq n wd fr tt Ab nz cb), (w.heap.size + 1, bx At ny ct Lt), (w.heap.size, bx As nx cs Ls)] [(P7, xk, y11.heap.size, y12.heap.size), (P6, xf, y8.heap.size + 1, y9.heap.size), (P5, xf, y7.heap.size, y8.heap.size), (P4, xc, y6.heap.size, y7.heap.size), (P3, xc, y5.heap.size, y6.heap.size), (P2, xj, y2.heap.size + 1, y3.heap.size), (P1, xj, y1.heap.size, y2.heap.size), (some ⟨g1, 0, none⟩, ns, 0, wc.heap.size), (some ⟨g2, 0, none⟩, ms, 0, wc.heap.size), (As, ns, 0, wc.heap.size), (At, ms, 0, wc.heap.size)]) := by
      have h := (KN13.out.below hb).rd hr hlo
      (try simp only [World.size_alloc] at h)
      (try simp only [World.setCell, Array.size_modify] at h)
      exact h
    clear hb hr hlo KN13
    have KN14 : Hid (Kn wc ((y12.setCell ⟨y2.heap.size, 0, none⟩ (.slice P7 xk.length c9)).setCell ⟨y2.heap.size, 1, none⟩ (.int .i64 Lk)) [(y9.heap.size, bx P6 xf.length c8 Lf), (y8.heap.size, bx P5 xf.length c7 Lf), (y3.heap.size, bx P4 xc.length c6 Lc), (y2.heap.size, bx P7 xk.length c9 Lk), (p, bx (some ⟨g1, 0, none⟩) nx c1 Ls), (q, bx (some ⟨g2, 0, none⟩) ny c2 Lt), (w.heap.size + 1 + 1, bq n wd fr tt Ab nz cb), (w.heap.size + 1, bx At ny ct Lt), (w.heap.size, bx As nx cs Ls)] [(P7, xk, y11.heap.size, y12.heap.size), (P6, xf, y8.heap.size + 1, y9.heap.size), (P5, xf, y7.heap.size, y8.heap.size), (P4, xc, y6.heap.size, y7.heap.size), (P3, xc, y5.heap.size, y6.heap.size), (P2, xj, y2.heap.size + 1, y3.heap.size), (P1, xj, y1.heap.size, y2.heap.size), (some ⟨g1, 0, none⟩, ns, 0, wc.heap.size), (some ⟨g2, 0, none⟩, ms, 0, wc.heap.size), (As, ns, 0, wc.heap.size), (At, ms, 0, wc.heap.size)]) := by
      refine Kn.store (L1 := [(y9.heap.size, bx P6 xf.length c8 Lf), (y8.heap.size, bx P5 xf.length c7 Lf), (y3.heap.size, bx P4 xc.length c6 Lc)]) (L2 := [(p, bx (some ⟨g1, 0, none⟩) nx c1 Ls), (q, bx (some ⟨g2, 0, none⟩) ny c2 Lt), (w.heap.size + 1 + 1, bq n wd fr tt Ab nz cb), (w.heap.size + 1, bx At ny ct Lt), (w.heap.size, bx As nx cs Ls)]) KN15.out (by omega) ?_ ?_ _ _
      · intro r hr
        have hr : r ∈ [(y9.heap.size, bx P6 xf.length c8 Lf), (y8.heap.size, bx P5 xf.length c7 Lf), (y3.heap.size, bx P4 xc.length c6 Lc), (p, bx (some ⟨g1, 0, none⟩) nx c1 Ls), (q, bx (some ⟨g2, 0, none⟩) ny c2 Lt), (w.heap.size + 1 + 1, bq n wd fr tt Ab nz cb), (w.heap.size + 1, bx At ny ct Lt), (w.heap.size, bx As nx cs Ls)] := hr
        simp only [List.mem_cons, List.not_mem_nil, or_false] at hr
        rcases hr with rfl | rfl | rfl | rfl | rfl | rfl | rfl | rfl
        · show y9.heap.size ≠ y2.heap.size
          omega
        · show y8.heap.size ≠ y2.heap.size
          omega
        · show y3.heap.size ≠ y2.heap.size
          omega
        · show p ≠ y2.heap.size
          omega
        · show q ≠ y2.heap.size
          omega
        · show w.heap.size + 1 + 1 ≠ y2.heap.size
          omega
        · show w.heap.size + 1 ≠ y2.heap.size
          omega
        · show w.heap.size ≠ y2.heap.size
          omega
      · intro r hr
        simp only [List.mem_cons, List.not_mem_nil, or_false] at hr
        rcases hr with rfl | rfl | rfl | rfl | rfl | rfl | rfl | rfl | rfl | rfl | rfl
        · show y2.heap.size < y11.heap.size ∨ y12.heap.size ≤ y2.heap.size
          omega
        · show y2.heap.size < y8.heap.size + 1 ∨ y9.heap.size ≤ y2.heap.size
          omega
        · show y2.heap.size < y7.heap.size ∨ y8.heap.size ≤ y2.heap.size
          omega
        · show y2.heap.size < y6.heap.size ∨ y7.heap.size ≤ y2.heap.size
          omega
        · show y2.heap.size < y5.heap.size ∨ y6.heap.size ≤ y2.heap.size
          omega
        · show y2.heap.size < y2.heap.size + 1 ∨ y3.heap.size ≤ y2.heap.size
          omega
        · show y2.heap.size < y1.heap.size ∨ y2.heap.size ≤ y2.heap.size
          omega
        · show y2.heap.size < 0 ∨ wc.heap.size ≤ y2.heap.size
          omega
        · show y2.heap.size < 0 ∨ wc.heap.size ≤ y2.heap.size
          omega
        · show y2.heap.size < 0 ∨ wc.heap.size ≤ y2.heap.size
          omega
        · show y2.heap.size < 0 ∨ wc.heap.size ≤ y2.heap.size
          omega
    obtain ⟨hy12a0, hy12a1, hy12a2, hy12a3⟩ := KN15.out.two 3 rfl
    obtain ⟨hy12s0, hy12s1, hy12s2, hy12s3⟩ := KN15.out.two 8 rfl
    obtain ⟨hy12x0, hy12x1, hy12x2, hy12x3, hy12x4⟩ := KN15.out.five 6 rfl
    obtain ⟨hy12ss0, hy12ss1, hy12ss2, hy12ss3⟩ := KN14.out.two 8 rfl
    obtain ⟨hy12sx0, hy12sx1, hy12sx2, hy12sx3, hy12sx4⟩ := KN14.out.five 6 rfl
    clear KN15
    go_wp2_with fail
    refine (HA8.out _ KN14.out.b).mono ?_
    rintro e y13 ⟨P8, c10, rfl, hr, hlo, hb⟩
    clear hy12a0 hy12a1 hy12a2 hy12a3 hy12s0 hy12s1 hy12s2 hy12s3 hy12x0 hy12x1 hy12x2 hy12x3 hy12x4 hy12ss0 hy12ss1 hy12ss2 hy12ss3 hy12sx0 hy12sx1 hy12sx2 hy12sx3 hy12sx4
    have hsy13 : y12.heap.size ≤ y13.heap.size := by
      have h := hb.size
      (try simp only [World.size_alloc] at h)
      (try simp only [World.setCell, Array.size_modify] at h)
      exact h
    have KN17 : Hid (Kn wc y13 [(y9.heap.size, bx P6 xf.length c8 Lf), (y8.heap.size, bx P5 xf.length c7 Lf), (y3.heap.size, bx P4 xc.length c6 Lc), (y2.heap.size, bx P7 xk.length c9 Lk), (p, bx (some ⟨g1, 0, none⟩) nx c1 Ls), (q, bx (some ⟨g2, 0, none⟩) ny c2 Lt), (w.heap.size + 1 + 1, bq n wd fr tt Ab nz cb), (w.heap.size + 1, bx At ny ct Lt), (w.heap.size, bx As nx cs Ls)] [(P8, xk, y12.heap.size, y13.heap.size), (P7, xk, y11.heap.size, y12.heap.size), (P6, xf, y8.heap.size + 1, y9.heap.size), (P5, xf, y7.heap.size, y8.heap.size), (P4, xc, y6.heap.size, y7.heap.size), (P3, xc, y5.heap.size, y6.heap.size), (P2, xj, y2.heap.size + 1, y3.heap.size), (P1, xj, y1.heap.size, y2.heap.size), (some ⟨g1, 0, none⟩, ns, 0, wc.heap.size), (some ⟨g2, 0, none⟩, ms, 0, wc.heap.size), (As, ns, 0, wc.heap.size), (At, ms, 0, wc.heap.size)]) := by
      have h := (KN14.out.below hb).rd hr hlo
      (try simp only [World.size_alloc] at h)
      (try simp only [World.setCell, Array.size_modify] at h)
      exact h
    clear hb hr hlo KN14
    have KN16 : Hid (Kn wc ((y13.setCell ⟨y3.heap.size, 0, none⟩ (.slice P8 xk.length c10)).setCell ⟨y3.heap.size, 1, none⟩ (.int .i64 Lk)) [(y9.heap.size, bx P6 xf.length c8 Lf), (y8.heap.size, bx P5 xf.length c7 Lf), (y3.heap.size, bx P8 xk.length c10 Lk), (y2.heap.size, bx P7 xk.length c9 Lk), (p, bx (some ⟨g1, 0, none⟩) nx c1 Ls), (q, bx (some ⟨g2, 0, none⟩) ny c2 Lt), (w.heap.size + 1 + 1, bq n wd fr tt Ab nz cb), (w.heap.size + 1, bx At ny ct Lt), (w.heap.size, bx As nx cs Ls)] [(P8, xk, y12.heap.size, y13.heap.size), (P7, xk, y11.heap.size, y12.heap.size), (P6, xf, y8.heap.size + 1, y9.heap.size), (P5, xf, y7.heap.size, y8.heap.size), (P4, xc, y6.heap.size, y7.heap.size), (P3, xc, y5.heap.size, y6.heap.size), (P2, xj, y2.heap.size + 1, y3.heap.size), (P1, xj, y1.heap.size, y2.heap.size), (some ⟨g1, 0, none⟩, ns, 0, wc.heap.size), (some ⟨g2, 0, none⟩, ms, 0, wc.heap.size), (As, ns, 0, wc.heap.size), (At, ms, 0, wc.heap.size)]) := by
      refine Kn.store (L1 := [(y9.heap.size, bx P6 xf.length c8 Lf), (y8.heap.size, bx P5 xf.length c7 Lf)]) (L2 := [(y2.heap.size, bx P7 xk.length c9 Lk), (p, bx (some ⟨g1, 0, none⟩) nx c1 Ls), (q, bx (some ⟨g2, 0, none⟩) ny c2 Lt), (w.heap.size + 1 + 1, bq n wd fr tt Ab nz cb), (w.heap.size + 1, bx At ny ct Lt), (w.heap.size, bx As nx cs Ls)]) KN17.out (by omega) ?_ ?_ _ _
      · intro r hr
        have hr : r ∈ [(y9.heap.size, bx P6 xf.length c8 Lf), (y8.heap.size, bx P5 xf.length c7 Lf), (y2.heap.size, bx P7 xk.length c9 Lk), (p, bx (some ⟨g1, 0, none⟩) nx c1 Ls), (q, bx (some ⟨g2, 0, none⟩) ny c2 Lt), (w.heap.size + 1 + 1, bq n wd fr tt Ab nz cb), (w.heap.size + 1, bx At ny ct Lt), (w.heap.size, bx As nx cs Ls)] := hr
        simp only [List.mem_cons, List.not_mem_nil, or_false] at hr
        rcases hr with rfl | rfl | rfl | rfl | rfl | rfl | rfl | rfl
        · show y9.heap.size ≠ y3.heap.size
          omega
        · show y8.heap.size ≠ y3.heap.size
          omega
        · show y2.heap.size ≠ y3.heap.size
          omega
        · show p ≠ y3.heap.size
          omega
        · show q ≠ y3.heap.size
          omega
        · show w.heap.size + 1 + 1 ≠ y3.heap.size
          omega
        · show w.heap.size + 1 ≠ y3.heap.size
          omega
        · show w.heap.size ≠ y3.heap.size
          omega
      · intro r hr
        simp only [List.mem_cons, List.not_mem_nil, or_false] at hr
        rcases hr with rfl | rfl | rfl | rfl | rfl | rfl | rfl | rfl | rfl | rfl | rfl | rfl
        · show y3.heap.size < y12.heap.size ∨ y13.heap.size ≤ y3.heap.size
          omega
        · show y3.heap.size < y11.heap.size ∨ y12.heap.size ≤ y3.heap.size
          omega
        · show y3.heap.size < y8.heap.size + 1 ∨ y9.heap.size ≤ y3.heap.size
          omega
        · show y3.heap.size < y7.heap.size ∨ y8.heap.size ≤ y3.heap.size
          omega
        · show y3.heap.size < y6.heap.size ∨ y7.heap.size ≤ y3.heap.size
          omega
        · show y3.heap.size < y5.heap.size ∨ y6.heap.size ≤ y3.heap.size
          omega
        · show y3.heap.size < y2.heap.size + 1 ∨ y3.heap.size ≤ y3.heap.size
          omega
        · show y3.heap.size < y1.heap.size ∨ y2.heap.size ≤ y3.heap.size
          omega
        · show y3.heap.size < 0 ∨ wc.heap.size ≤ y3.heap.size
          omega
        · show y3.heap.size < 0 ∨ wc.heap.size ≤ y3.heap.size
          omega
        · show y3.heap.size < 0 ∨ wc.heap.size ≤ y3.heap.size
          omega
        · show y3.heap.size < 0 ∨ wc.heap.size ≤ y3.heap.size
          omega
    obtain ⟨hy13b0, hy13b1, hy13b2, hy13b3⟩ := KN17.out.two 2 rfl
    obtain ⟨hy13x0, hy13x1, hy13x2, hy13x3, hy13x4⟩ := KN17.out.five 6 rfl
    obtain ⟨hy13sx0, hy13sx1, hy13sx2, hy13sx3, hy13sx4⟩ := KN16.out.five 6 rfl
    clear KN17
    go_wp2_with fail
    refine (HA9.out _ KN16.out.b).mono ?_
    rintro e y14 ⟨P9, c11, rfl, hr, hlo, hb⟩
    clear hy13b0 hy13b1 hy13b2 hy13b3 hy13x0 hy13x1 hy13x2 hy13x3 hy13x4 hy13sx0 hy13sx1 hy13sx2 hy13sx3 hy13sx4
    have hsy14 : y13.heap.size ≤ y14.heap.size := by
      have h := hb.size
      (try simp only [World.size_alloc] at h)
      (try simp only [World.setCell, Array.size_modify] at h)
      exact h
    have KN19 : Hid (Kn wc y14 [(y9.heap.size, bx P6 xf.length c8 Lf), (y8.heap.size, bx P5 xf.length c7 Lf), (y3.heap.size, bx P8 xk.length c10 Lk), (y2.heap.size, bx P7 xk.length c9 Lk), (p, bx (some ⟨g1, 0, none⟩) nx c1 Ls), (q, bx (some ⟨g2, 0, none⟩) ny c2 Lt), (w.heap.size + 1 + 1, bq n wd fr tt Ab nz cb), (w.heap.size + 1, bx At ny ct Lt), (w.heap.size, bx As nx cs Ls)] [(P9, xu, y13.heap.size, y14.heap.size), (P8, xk, y12.heap.size, y13.heap.size), (P7, xk, y11.heap.size, y12.heap.size), (P6, xf, y8.heap.size + 1, y9.heap.size), (P5, xf, y7.heap.size, y8.heap.size), (P4, xc, y6.heap.size, y7.heap.size), (P3, xc, y5.heap.size, y6.heap.size), (P2, xj, y2.heap.size + 1, y3.heap.size), (P1, xj, y1.heap.size, y2.heap.size), (some ⟨g1, 0, none⟩, ns, 0, wc.heap.size), (some ⟨g2, 0, none⟩, ms, 0, wc.heap.size), (As, ns, 0, wc.heap.size), (At, ms, 0, wc.heap.size)]) := by
      have h := (KN16.out.below hb).rd hr hlo
      (try simp only [World.size_alloc] at h)
      (try simp only [World.setCell, Array.size_modify] at h)
      exact h
    clear hb hr hlo KN16
    have KN18 : Hid (Kn wc ((y14.setCell ⟨y8.heap.size, 0, none⟩ (.slice P9 xu.length c11)).setCell ⟨y8.heap.size, 1, none⟩ (.int .i64 Lu)) [(y9.heap.size, bx P6 xf.length c8 Lf), (y8.heap.size, bx P9 xu.length c11 Lu), (y3.heap.size, bx P8 xk.length c10 Lk), (y2.heap.size, bx P7 xk.length c9 Lk), (p, bx (some ⟨g1, 0, none⟩) nx c1 Ls), (q, bx (some ⟨g2, 0, none⟩) ny c2 Lt), (w.heap.size + 1 + 1, bq n wd fr tt Ab nz cb), (w.heap.size + 1, bx At ny ct Lt), (w.heap.size, bx As nx cs Ls)] [(P9, xu, y13.heap.size, y14.heap.size), (P8, xk, y12.heap.size, y13.heap.size), (P7, xk, y11.heap.size, y12.heap.size), (P6, xf, y8.heap.size + 1, y9.heap.size), (P5, xf, y7.heap.size, y8.heap.size), (P4, xc, y6.heap.size, y7.heap.size), (P3, xc, y5.heap.size, y6.heap.size), (P2, xj, y2.heap.size + 1, y3.heap.size), (P1, xj, y1.heap.size, y2.heap.size), (some ⟨g1, 0, none⟩, ns, 0, wc.heap.size), (some ⟨g2, 0, none⟩, ms, 0, wc.heap.size), (As, ns, 0, wc.heap.size), (At, ms, 0, wc.heap.size)]) := by
      refine Kn.store (L1 := [(y9.heap.size, bx P6 xf.length c8 Lf)]) (L2 := [(y3.heap.size, bx P8 xk.length c10 Lk), (y2.heap.size, bx P7 xk.length c9 Lk), (p, bx (some ⟨g1, 0, none⟩) nx c1 Ls), (q, bx (some ⟨g2, 0, none⟩) ny c2 Lt), (w.heap.size + 1 + 1, bq n wd fr tt Ab nz cb), (w.heap.size + 1, bx At ny ct Lt), (w.heap.size, bx As nx cs Ls)]) KN19.out (by omega) ?_ ?_ _ _
      · intro r hr
        have hr : r ∈ [(y9.heap.size, bx P6 xf.length c8 Lf), (y3.heap.size, bx P8 xk.length c10 Lk), (y2.heap.size, bx P7 xk.length c9 Lk), (p, bx (some ⟨g1, 0, none⟩) nx c1 Ls), (q, bx (some ⟨g2, 0, none⟩) ny c2 Lt), (w.heap.size + 1 + 1, bq n wd fr tt Ab nz cb), (w.heap.size + 1, bx At ny ct Lt), (w.heap.size, bx As nx cs Ls)] := hr
        simp only [List.mem_cons, List.not_mem_nil, or_false] at hr
        rcases hr with rfl | rfl | rfl | rfl | rfl | rfl | rfl | rfl
        · show y9.heap.size ≠ y8.heap.size
          omega
        · show y3.heap.size ≠ y8.heap.size
          omega
        · show y2.heap.size ≠ y8.heap.size
          omega
        · show p ≠ y8.heap.size
          omega
        · show q ≠ y8.heap.size
          omega
        · show w.heap.size + 1 + 1 ≠ y8.heap.size
          omega
        · show w.heap.size + 1 ≠ y8.heap.size
          omega
        · show w.heap.size ≠ y8.heap.size
          omega
      · intro r hr
        simp only [List.mem_cons, List.not_mem_nil, or_false] at hr
        rcases hr with rfl | rfl | rfl | rfl | rfl | rfl | rfl | rfl | rfl | rfl | rfl | rfl | rfl
        · show y8.heap.size < y13.heap.size ∨ y14.heap.size ≤ y8.heap.size
          omega
        · show y8.heap.size < y12.heap.size ∨ y13.heap.size ≤ y8.heap.size
          omega
        · show y8.heap.size < y11.heap.size ∨ y12.heap.size ≤ y8.heap.size
          omega
        · show y8.heap.size < y8.heap.size + 1 ∨ y9.heap.size ≤ y8.heap.size
          omega
        · show y8.heap.size < y7.heap.size ∨ y8.heap.size ≤ y8.heap.size
          omega
        · show y8.heap.size < y6.heap.size ∨ y7.heap.size ≤ y8.heap.size
          omega
        · show y8.heap.size < y5.heap.size ∨ y6.heap.size ≤ y8.heap.size
          omega
        · show y8.heap.size < y2.heap.size + 1 ∨ y3.heap.size ≤ y8.heap.size
          omega
        · show y8.heap.size < y1.heap.size ∨ y2.heap.size ≤ y8.heap.size
          omega
        · show y8.heap.size < 0 ∨ wc.heap.size ≤ y8.heap.size
          omega
        · show y8.heap.size < 0 ∨ wc.heap.size ≤ y8.heap.size
          omega
        · show y8.heap.size < 0 ∨ wc.heap.size ≤ y8.heap.size
          omega
        · show y8.heap.size < 0 ∨ wc.heap.size ≤ y8.heap.size
          omega
    obtain ⟨hy14c0, hy14c1, hy14c2, hy14c3⟩ := KN19.out.two 1 rfl
    obtain ⟨hy14x0, hy14x1, hy14x2, hy14x3, hy14x4⟩ := KN19.out.five 6 rfl
    obtain ⟨hy14sx0, hy14sx1, hy14sx2, hy14sx3, hy14sx4⟩ := KN18.out.five 6 rfl
    clear KN19
    go_wp2_with fail
    refine (HA10.out _ KN18.out.b).mono ?_
    rintro e y15 ⟨P10, c12, rfl, hr, hlo, hb⟩
    clear hy14c0 hy14c1 hy14c2 hy14c3 hy14x0 hy14x1 hy14x2 hy14x3 hy14x4 hy14sx0 hy14sx1 hy14sx2 hy14sx3 hy14sx4
    have hsy15 : y14.heap.size ≤ y15.heap.size := by
      have h := hb.size
      (try simp only [World.size_alloc] at h)
      (try simp only [World.setCell, Array.size_modify] at h)
      exact h
    have KN21 : Hid (Kn wc y15 [(y9.heap.size, bx P6 xf.length c8 Lf), (y8.heap.size, bx P9 xu.length c11 Lu), (y3.heap.size, bx P8 xk.length c10 Lk), (y2.heap.size, bx P7 xk.length c9 Lk), (p, bx (some ⟨g1, 0, none⟩) nx c1 Ls), (q, bx (some ⟨g2, 0, none⟩) ny c2 Lt), (w.heap.size + 1 + 1, bq n wd fr tt Ab nz cb), (w.heap.size + 1, bx At ny ct Lt), (w.heap.size, bx As nx cs Ls)] [(P10, xu, y14.heap.size, y15.heap.size), (P9, xu, y13.heap.size, y14.heap.size), (P8, xk, y12.heap.size, y13.heap.size), (P7, xk, y11.heap.size, y12.heap.size), (P6, xf, y8.heap.size + 1, y9.heap.size), (P5, xf, y7.heap.size, y8.heap.size), (P4, xc, y6.heap.size, y7.heap.size), (P3, xc, y5.heap.size, y6.heap.size), (P2, xj, y2.heap.size + 1, y3.heap.size), (P1, xj, y1.heap.size, y2.heap.size), (some ⟨g1, 0, none⟩, ns, 0, wc.heap.size), (some ⟨g2, 0, none⟩, ms, 0, wc.heap.size), (As, ns, 0, wc.heap.size), (At, ms, 0, wc.heap.size)]) := by
      have h := (KN18.out.below hb).rd hr hlo
      (try simp only [World.size_alloc] at h)
      (try simp only [World.setCell, Array.size_modify] at h)
      exact h
    clear hb hr hlo KN18
    have KN20 : Hid (Kn wc ((y15.setCell ⟨y9.heap.size, 0, none⟩ (.slice P10 xu.length c12)).setCell ⟨y9.heap.size, 1, none⟩ (.int .i64 Lu)) [(y9.heap.size, bx P10 xu.length c12 Lu), (y8.heap.size, bx P9 xu.length c11 Lu), (y3.heap.size, bx P8 xk.length c10 Lk), (y2.heap.size, bx P7 xk.length c9 Lk), (p, bx (some ⟨g1, 0, none⟩) nx c1 Ls), (q, bx (some ⟨g2, 0, none⟩) ny c2 Lt), (w.heap.size + 1 + 1, bq n wd fr tt Ab nz cb), (w.heap.size + 1, bx At ny ct Lt), (w.heap.size, bx As nx cs Ls)] [(P10, xu, y14.heap.size, y15.heap.size), (P9, xu, y13.heap.size, y14.heap.size), (P8, xk, y12.heap.size, y13.heap.size), (P7, xk, y11.heap.size, y12.heap.size), (P6, xf, y8.heap.size + 1, y9.heap.size), (P5, xf, y7.heap.size, y8.heap.size), (P4, xc, y6.heap.size, y7.heap.size), (P3, xc, y5.heap.size, y6.heap.size), (P2, xj, y2.heap.size + 1, y3.heap.size), (P1, xj, y1.heap.size, y2.heap.size), (some ⟨g1, 0, none⟩, ns, 0, wc.heap.size), (some ⟨g2, 0, none⟩, ms, 0, wc.heap.size), (As, ns, 0, wc.heap.size), (At, ms, 0, wc.heap.size)]) := by
      refine Kn.store (L1 := []) (L2 := [(y8.heap.size, bx P9 xu.length c11 Lu), (y3.heap.size, bx P8 xk.length c10 Lk), (y2.heap.size, bx P7 xk.length c9 Lk), (p, bx (some ⟨g1, 0, none⟩) nx c1 Ls), (q, bx (some ⟨g2, 0, none⟩) ny c2 Lt), (w.heap.size + 1 + 1, bq n wd fr tt Ab nz cb), (w.heap.size + 1, bx At ny ct Lt), (w.heap.size, bx As nx cs Ls)]) KN21.out (by omega) ?_ ?_ _ _
      · intro r hr
        have hr : r ∈ [(y8.heap.size, bx P9 xu.length c11 Lu), (y3.heap.size, bx P8 xk.length c10 Lk), (y2.heap.size, bx P7 xk.length c9 Lk), (p, bx (some ⟨g1, 0, none⟩) nx c1 Ls), (q, bx (some ⟨g2, 0, none⟩) ny c2 Lt), (w.heap.size + 1 + 1, bq n wd fr tt Ab nz cb), (w.heap.size + 1, bx At ny ct Lt), (w.heap.size, bx As nx cs Ls)] := hr
        simp only [List.mem_cons, List.not_mem_nil, or_false] at hr
        rcases hr with rfl | rfl | rfl | rfl | rfl | rfl | rfl | rfl
        · show y8.heap.size ≠ y9.heap.size
          omega
        · show y3.heap.size ≠ y9.heap.size
          omega
        · show y2.heap.size ≠ y9.heap.size
          omega
        · show p ≠ y9.heap.size
          omega
        · show q ≠ y9.heap.size
          omega
        · show w.heap.size + 1 + 1 ≠ y9.heap.size
          omega
        · show w.heap.size + 1 ≠ y9.heap.size
          omega
        · show w.heap.size ≠ y9.heap.size
          omega
      · intro r hr
        simp only [List.mem_cons, List.not_mem_nil, or_false] at hr
        rcases hr with rfl | rfl | rfl | rfl | rfl | rfl | rfl | rfl | rfl | rfl | rfl | rfl | rfl | rfl
        · show y9.heap.size < y14.heap.size ∨ y15.heap.size ≤ y9.heap.size
          omega
        · show y9.heap.size < y13.heap.size ∨ y14.heap.size ≤ y9.heap.size
          omega
        · show y9.heap.size < y12.heap.size ∨ y13.heap.size ≤ y9.heap.size
          omega
        · show y9.heap.size < y11.heap.size ∨ y12.heap.size ≤ y9.heap.size
          omega
        · show y9.heap.size < y8.heap.size + 1 ∨ y9.heap.size ≤ y9.heap.size
          omega
        · show y9.heap.size < y7.heap.size ∨ y8.heap.size ≤ y9.heap.size
          omega
        · show y9.heap.size < y6.heap.size ∨ y7.heap.size ≤ y9.heap.size
          omega
        · show y9.heap.size < y5.heap.size ∨ y6.heap.size ≤ y9.heap.size
          omega
        · show y9.heap.size < y2.heap.size + 1 ∨ y3.heap.size ≤ y9.heap.size
          omega
        · show y9.heap.size < y1.heap.size ∨ y2.heap.size ≤ y9.heap.size
          omega
        · show y9.heap.size < 0 ∨ wc.heap.size ≤ y9.heap.size
          omega
        · show y9.heap.size < 0 ∨ wc.heap.size ≤ y9.heap.size
          omega
        · show y9.heap.size < 0 ∨ wc.heap.size ≤ y9.heap.size
          omega
        · show y9.heap.size < 0 ∨ wc.heap.size ≤ y9.heap.size
          omega
    obtain ⟨hy15d0, hy15d1, hy15d2, hy15d3⟩ := KN21.out.two 0 rfl
    obtain ⟨hy15a0, hy15a1, hy15a2, hy15a3⟩ := KN21.out.two 3 rfl
    obtain ⟨hy15b0, hy15b1, hy15b2, hy15b3⟩ := KN21.out.two 2 rfl
    obtain ⟨hy15sa0, hy15sa1, hy15sa2, hy15sa3⟩ := KN20.out.two 3 rfl
    obtain ⟨hy15sb0, hy15sb1, hy15sb2, hy15sb3⟩ := KN20.out.two 2 rfl
    clear KN21
    go_wp2_with fail
    refine (same_n _ _ _ _ _ _ xk _ (KN20.out.row 3 rfl) (KN20.out.row 2 rfl) rfl bk).mono ?_
    rintro e y16 ⟨rfl, hb⟩
    clear hy15d0 hy15d1 hy15d2 hy15d3 hy15a0 hy15a1 hy15a2 hy15a3 hy15b0 hy15b1 hy15b2 hy15b3 hy15sa0 hy15sa1 hy15sa2 hy15sa3 hy15sb0 hy15sb1 hy15sb2 hy15sb3
    have hsy16 : y15.heap.size ≤ y16.heap.size := by
      have h := hb.size
      (try simp only [World.size_alloc] at h)
      (try simp only [World.setCell, Array.size_modify] at h)
      exact h
    have KN22 := Lib.hid (KN20.out.below hb)
    clear hb KN20
    obtain ⟨hy16c0, hy16c1, hy16c2, hy16c3⟩ := KN22.out.two 1 rfl
    obtain ⟨hy16d0, hy16d1, hy16d2, hy16d3⟩ := KN22.out.two 0 rfl
    go_wp2_with fail
    refine (same_n _ _ _ _ _ _ xu _ (KN22.out.row 1 rfl) (KN22.out.row 0 rfl) rfl bu).mono ?_
    rintro e y17 ⟨rfl, hb⟩
    clear hy16c0 hy16c1 hy16c2 hy16c3 hy16d0 hy16d1 hy16d2 hy16d3
    have hsy17 : y16.heap.size ≤ y17.heap.size := by
      have h := hb.size
      (try simp only [World.size_alloc] at h)
      (try simp only [World.setCell, Array.size_modify] at h)
      exact h
    have KN23 := Lib.hid (KN22.out.below hb)
    clear hb KN22
    obtain ⟨hy17p0, hy17p1, hy17p2, hy17p3⟩ := KN23.out.two 4 rfl
    obtain ⟨hy17x0, hy17x1, hy17x2, hy17x3, hy17x4⟩ := KN23.out.five 6 rfl
    go_wp2_with fail
    refine (HA11.out _ KN23.out.b).mono ?_
    rintro e y18 ⟨rfl, hb⟩
    clear hy17p0 hy17p1 hy17p2 hy17p3 hy17x0 hy17x1 hy17x2 hy17x3 hy17x4
    have hsy18 : y17.heap.size ≤ y18.heap.size := by
      have h := hb.size
      (try simp only [World.size_alloc] at h)
      (try simp only [World.setCell, Array.size_modify] at h)
      exact h
    have KN24 := Lib.hid (KN23.out.below hb)
    clear hb KN23
    obtain ⟨hy18s0, hy18s1, hy18s2, hy18s3⟩ := KN24.out.two 8 rfl
    obtain ⟨hy18x0, hy18x1, hy18x2, hy18x3, hy18x4⟩ := KN24.out.five 6 rfl
    go_wp2_with fail
    refine (HA12.out _ KN24.out.b).mono ?_
    rintro e y19 ⟨rfl, hb⟩
    clear hy18s0 hy18s1 hy18s2 hy18s3 hy18x0 hy18x1 hy18x2 hy18x3 hy18x4
    have hsy19 : y18.heap.size ≤ y19.heap.size := by
      have h := hb.size
      (try simp only [World.size_alloc] at h)
      (try simp only [World.setCell, Array.size_modify] at h)
      exact h
    have KN25 := Lib.hid (KN24.out.below hb)
    clear hb KN24
    obtain ⟨hy19p0, hy19p1, hy19p2, hy19p3⟩ := KN25.out.two 4 rfl
    obtain ⟨hy19x0, hy19x1, hy19x2, hy19x3, hy19x4⟩ := KN25.out.five 6 rfl
    go_wp2_with fail
    refine (HA13.out _ KN25.out.b).mono ?_
    rintro e y20 ⟨rfl, hb⟩
    clear hy19p0 hy19p1 hy19p2 hy19p3 hy19x0 hy19x1 hy19x2 hy19x3 hy19x4
    have hsy20 : y19.heap.size ≤ y20.heap.size := by
      have h := hb.size
      (try simp only [World.size_alloc] at h)
      (try simp only [World.setCell, Array.size_modify] at h)
      exact h
    have KN26 := Lib.hid (KN25.out.below hb)
    clear hb KN25
    obtain ⟨hy20s0, hy20s1, hy20s2, hy20s3⟩ := KN26.out.two 8 rfl
    obtain ⟨hy20x0, hy20x1, hy20x2, hy20x3, hy20x4⟩ := KN26.out.five 6 rfl
    go_wp2_with fail
    refine (HA14.out _ KN26.out.b).mono ?_
    rintro e y21 ⟨rfl, hb⟩
    clear hy20s0 hy20s1 hy20s2 hy20s3 hy20x0 hy20x1 hy20x2 hy20x3 hy20x4
    have hsy21 : y20.heap.size ≤ y21.heap.size := by
      have h := hb.size
      (try simp only [World.size_alloc] at h)
      (try simp only [World.setCell, Array.size_modify] at h)
      exact h
    have KN27 := Lib.hid (KN26.out.below hb)
    clear hb KN26
    obtain ⟨hy21p0, hy21p1, hy21p2, hy21p3⟩ := KN27.out.two 4 rfl
    go_wp2_with fail
    refine (HA15.out _ KN27.out.b).mono ?_
    rintro e y22 ⟨P11, c13, rfl, hr, hb⟩
    clear hy21p0 hy21p1 hy21p2 hy21p3
    have hsy22 : y21.heap.size ≤ y22.heap.size := by
      have h := hb.size
      (try simp only [World.size_alloc] at h)
      (try simp only [World.setCell, Array.size_modify] at h)
      exact h
    have KN28 : Hid (Kn wc y22 [(y9.heap.size, bx P10 xu.length c12 Lu), (y8.heap.size, bx P9 xu.length c11 Lu), (y3.heap.size, bx P8 xk.length c10 Lk), (y2.heap.size, bx P7 xk.length c9 Lk), (p, bx (some ⟨g1, 0, none⟩) nx c1 Ls), (q, bx (some ⟨g2, 0, none⟩) ny c2 Lt), (w.heap.size + 1 + 1, bq n wd fr tt Ab nz cb), (w.heap.size + 1, bx At ny ct Lt), (w.heap.size, bx As nx cs Ls)] [(P11, xp, 0, y22.heap.size), (P10, xu, y14.heap.size, y15.heap.size), (P9, xu, y13.heap.size, y14.heap.size), (P8, xk, y12.heap.size, y13.heap.size), (P7, xk, y11.heap.size, y12.heap.size), (P6, xf, y8.heap.size + 1, y9.heap.size), (P5, xf, y7.heap.size, y8.heap.size), (P4, xc, y6.heap.size, y7.heap.size), (P3, xc, y5.heap.size, y6.heap.size), (P2, xj, y2.heap.size + 1, y3.heap.size), (P1, xj, y1.heap.size, y2.heap.size), (some ⟨g1, 0, none⟩, ns, 0, wc.heap.size), (some ⟨g2, 0, none⟩, ms, 0, wc.heap.size), (As, ns, 0, wc.heap.size), (At, ms, 0, wc.heap.size)]) := by
      have h := (KN27.out.below hb).rd (lo := 0) hr (fun _ _ => Nat.zero_le _)
      exact h
    clear hb hr KN27
    obtain ⟨hy22s0, hy22s1, hy22s2, hy22s3⟩ := KN28.out.two 8 rfl
    go_wp2_with fail
    refine (HA16.out _ KN28.out.b).mono ?_
    rintro e y23 ⟨P12, c14, rfl, hr, hb⟩
    clear hy22s0 hy22s1 hy22s2 hy22s3
    have hsy23 : y22.heap.size ≤ y23.heap.size := by
      have h := hb.size
      (try simp only [World.size_alloc] at h)
      (try simp only [World.setCell, Array.size_modify] at h)
      exact h
    have KN29 : Hid (Kn wc y23 [(y9.heap.size, bx P10 xu.length c12 Lu), (y8.heap.size, bx P9 xu.length c11 Lu), (y3.heap.size, bx P8 xk.length c10 Lk), (y2.heap.size, bx P7 xk.length c9 Lk), (p, bx (some ⟨g1, 0, none⟩) nx c1 Ls), (q, bx (some ⟨g2, 0, none⟩) ny c2 Lt), (w.heap.size + 1 + 1, bq n wd fr tt Ab nz cb), (w.heap.size + 1, bx At ny ct Lt), (w.heap.size, bx As nx cs Ls)] [(P12, xp, 0, y23.heap.size), (P11, xp, 0, y22.heap.size), (P10, xu, y14.heap.size, y15.heap.size), (P9, xu, y13.heap.size, y14.heap.size), (P8, xk, y12.heap.size, y13.heap.size), (P7, xk, y11.heap.size, y12.heap.size), (P6, xf, y8.heap.size + 1, y9.heap.size), (P5, xf, y7.heap.size, y8.heap.size), (P4, xc, y6.heap.size, y7.heap.size), (P3, xc, y5.heap.size, y6.heap.size), (P2, xj, y2.heap.size + 1, y3.heap.size), (P1, xj, y1.heap.size, y2.heap.size), (some ⟨g1, 0, none⟩, ns, 0, wc.heap.size), (some ⟨g2, 0, none⟩, ms, 0, wc.heap.size), (As, ns, 0, wc.heap.size), (At, ms, 0, wc.heap.size)]) := by
      have h := (KN28.out.below hb).rd (lo := 0) hr (fun _ _ => Nat.zero_le _)
      exact h
    clear hb hr KN28
    go_wp2_with fail
    refine (sameB_n _ _ _ _ _ xp _ (KN29.out.row 1 rfl) (KN29.out.row 0 rfl) rfl bp).mono ?_
    rintro e y24 ⟨rfl, hb⟩
    have hsy24 : y23.heap.size ≤ y24.heap.size := by
      have h := hb.size
      (try simp only [World.size_alloc] at h)
      (try simp only [World.setCell, Array.size_modify] at h)
      exact h
    have KN30 := Lib.hid (KN29.out.below hb)
    clear hb KN29
    obtain ⟨hy24p0, hy24p1, hy24p2, hy24p3⟩ := KN30.out.two 4 rfl
    obtain ⟨hy24s0, hy24s1, hy24s2, hy24s3⟩ := KN30.out.two 8 rfl
    go_wp2_with fail
    refine (same_n _ _ _ _ _ _ ns _ (KN30.out.row 12 rfl) (KN30.out.row 14 rfl) HMS.out.2.2.1.symm HMS.out.1).mono ?_
    rintro e y25 ⟨rfl, hb⟩
    clear hy24p0 hy24p1 hy24p2 hy24p3 hy24s0 hy24s1 hy24s2 hy24s3
    have hsy25 : y24.heap.size ≤ y25.heap.size := by
      have h := hb.size
      (try simp only [World.size_alloc] at h)
      (try simp only [World.setCell, Array.size_modify] at h)
      exact h
    have KN31 := Lib.hid (KN30.out.below hb)
    clear hb KN30
    obtain ⟨hy25q0, hy25q1, hy25q2, hy25q3⟩ := KN31.out.two 5 rfl
    obtain ⟨hy25t0, hy25t1, hy25t2, hy25t3⟩ := KN31.out.two 7 rfl
    go_wp2_with fail
    refine (same_n _ _ _ _ _ _ ms _ (KN31.out.row 13 rfl) (KN31.out.row 15 rfl) HMS.out.2.2.2.symm HMS.out.2.1).mono ?_
    rintro e y26 ⟨rfl, hb⟩
    clear hy25q0 hy25q1 hy25q2 hy25q3 hy25t0 hy25t1 hy25t2 hy25t3
    have hsy26 : y25.heap.size ≤ y26.heap.size := by
      have h := hb.size
      (try simp only [World.size_alloc] at h)
      (try simp only [World.setCell, Array.size_modify] at h)
      exact h
    have KN32 := Lib.hid (KN31.out.below hb)
    clear hb KN31
    go_wp2_with fail
    refine (awake_any _).mono ?_
    rintro e y27 ⟨rfl, hb⟩
    have hsy27 : y26.heap.size ≤ y27.heap.size := by
      have h := hb.size
      (try simp only [World.size_alloc] at h)
      (try simp only [World.setCell, Array.size_modify] at h)
      exact h
    have KN33 := Lib.hid (KN32.out.below hb)
    clear hb KN32
    go_wp2_with fail
    go_ret
    exact ⟨rfl, HF.out.trans (KN33.out.b.mono (by have := HF.out.size; omega))⟩
end Go.Proofs.Ytgljaimoaijcaaa
