/- perm.common, perm.Order (layer 3). -/
import Derived.Test.YtgldlanfbkgfjaaP6
import Derived.Test.YtgldlanfbkgfjaaP7
namespace Go.Proofs.Ytgldlanfbkgfjaa
open Go.RowKit
attribute [local go_sem] Oper.semAt_some

set_option maxRecDepth 100000 in
set_option maxHeartbeats 4000000 in
theorem common_any (a b : Nat) (w : World) (ha : a < 9223372036854775808) (hb : b < 9223372036854775808) : Calls Try.prog 38 #[.int .i64 (a : Nat), .int .i64 (b : Nat)] w fun e w' => e = .returned (.int .i64 (Nat.gcd a b : Nat)) ∧ Below w.heap.size w w' := by
  have hB0 := Lib.hid (Below.refl w.heap.size w)
  obtain ⟨G, hG⟩ : ∃ G, Nat.gcd a b = G := ⟨_, rfl⟩
  rw [hG]
  have hg0 := Lib.hid hG
  clear hG
  go_enter Try.func38, Try.ntmps38
  go_wp2_with fail
  go_loopw [0, 1] (fun s t wr => ∃ x y : Nat, s = .int .i64 x ∧ t = .int .i64 y ∧ x < 9223372036854775808 ∧ y < 9223372036854775808 ∧ Hid (Nat.gcd x y = G) ∧ Hid (Below w.heap.size w wr)) (fun _ t _ => (intOf t).toNat)
  case atStart => exact ⟨a, b, rfl, rfl, ha, hb, hg0, hB0⟩
  case round =>
    obtain ⟨x, y, rfl, rfl, hx, hy, hg, hB⟩ := hrel
    by_cases h1 : y = 0
    · subst h1
      go_wp2_with fail
      go_ret
      have h2 := hg.out
      rw [Nat.gcd_zero_right] at h2
      rw [h2]
      exact ⟨rfl, hB.out⟩
    · have t1 : ((y : Int) != 0) = true := by simp; omega
      have t2 : ¬ (y : Int) = 0 := by omega
      obtain ⟨z, hz⟩ : ∃ z, z = x % y := ⟨_, rfl⟩
      have hz1 : ((x : Int)).tmod (y : Int) = (z : Int) := by rw [hz]; rfl
      have hz2 : z < y := by rw [hz]; exact Nat.mod_lt _ (by omega)
      have HG : Hid (Nat.gcd y z = G) := by
        show _ = _
        rw [hz, ← hg.out, Nat.gcd_comm x y, Nat.gcd_rec y x, Nat.gcd_comm]
      have HB := hB
      clear hz hg hB
      go_wp2_with fail
      go_region
      go_wp2_with fail
      go_roundw
      case rel => exact ⟨y, z, rfl, rfl, hy, by omega, HG, Lib.hid (next_below HB.out ⟨rfl, rfl, rfl, Nat.le_refl _, fun _ _ => rfl⟩)⟩
      case measure => simp [intOf]; omega
/-- What lies between two rounds of Order: the number's box (block z), p's box. -/
structure OrdI (w0 : World) (n c z : Nat) (A0 : Option Addr) (N : Nat) (A : World) : Prop where
  below : Below w0.heap.size w0 A
  low : w0.heap.size ≤ z
  size : z + 2 ≤ A.heap.size
  box : A.heap[z]? = some (.cells #[.int .i64 (N : Nat)] 3 (0, 0))
  src : A.cell? ⟨z + 1, 0, none⟩ = some (.slice A0 n c)
theorem OrdI.bar {w0 : World} {n c z d m N : Nat} {A0 : Option Addr} {A B : World} (h : OrdI w0 n c z A0 N A) (hd : z + 2 ≤ d) (hb : Bar d m A B) : OrdI w0 n c z A0 N B := by
  obtain ⟨h1, h2, h3, h4, h5⟩ := h
  refine ⟨?_, h2, Nat.le_trans h3 hb.size, (hb.same z (by omega) (.inl (by omega))).trans h4, ?_⟩
  · exact ⟨hb.os.trans h1.os, hb.tape.trans h1.tape, hb.output.trans h1.output, Nat.le_trans h1.size hb.size, fun b hlt => (hb.same b (by have := h1.size; omega) (.inl (by omega))).trans (h1.block b hlt)⟩
  · exact (hb.cell (by show z + 1 < _; omega) (.inl (by show z + 1 < _; omega))).trans h5
theorem OrdI.step {w0 : World} {n c z N : Nat} {A0 : Option Addr} {A : World} (h : OrdI w0 n c z A0 N A) (M : Nat) : OrdI w0 n c z A0 M (A.setCell ⟨z, 0, none⟩ (.int .i64 (M : Nat))) := by
  obtain ⟨h1, h2, h3, h4, h5⟩ := h
  refine ⟨h1.setCell (p := ⟨z, 0, none⟩) h2 _, h2, by simpa using h3, ?_, ?_⟩
  · rw [Go.Joins.block_setCell h4]; rfl
  · rw [World.cell?_setCell_far _ _ _ _ (by show z ≠ z + 1; omega)]; exact h5

theorem drewn_below (A : World) : Below A.heap.size A A.drew := ⟨rfl, rfl, rfl, Nat.le_refl _, fun _ _ => rfl⟩

set_option maxRecDepth 100000 in
set_option maxHeartbeats 8000000 in
theorem order_yes (A0 : Option Addr) (c n : Nat) (p : List Nat) (w : World) (hr : RdZ w A0 (iz p)) (hp : Perm n p) (hn : n ≤ 200) :
    Calls Try.prog 26 #[.slice A0 n c] w fun e w' => e = .returned (.tuple #[.int .i64 (ord n p : Nat), .int .i64 0]) ∧ Below w.heap.size w w' := by
  have HR1 := Lib.hid (perm_right hp hn)
  have HA := Lib.hid hr
  have HP := Lib.hid hp
  clear hr hp
  refine callsIn_wide (n := 0).1 (callsIn_of_wp_marks Try.func26 rfl trivial ?_ rfl)
  refine wpIn_wide.2 ?_
  simp only [Try.ntmps26, List.size_toArray, List.length_cons, List.length_nil, Nat.reduceAdd, Nat.reduceSub, Array.replicate_succ, Array.replicate_zero, List.push_toArray, List.append_toArray, List.nil_append, List.cons_append]
  go_wp2_with fail
  refine (rightP_any A0 c n (iz p) _ HA.out (izl HP.out) (by omega)).mono ?_
  rintro e w1 ⟨rfl, hb1⟩
  rw [HR1.out]
  have HB1 := Lib.hid hb1
  clear hb1
  go_wp2_with fail
  refine (cycles_any A0 n c _).mono ?_
  rintro e w2 ⟨rfl, hw2⟩
  have hI0 : OrdI w n c w1.heap.size A0 (lcmL (([] : List (List Nat)).map List.length)) w2 := by
    have hs1 := HB1.out.size
    rw [hw2]
    refine ⟨(HB1.out.alloc HB1.out.size _).alloc (by simp; omega) _, hs1, by simp, ?_, ?_⟩
    · rw [heap_alloc_old _ _ (by simp)]
      exact heap_alloc_new w1 _
    · exact World.cell?_alloc_at _ _ _ _ (by simp)
  have HI0 := Lib.hid hI0
  have hz2 : w2.heap.size = w1.heap.size + 2 := by rw [hw2]; simp
  clear hw2 hI0
  go_wp2_with fail
  refine wpIn_wide.1 (range_cycles (w := w2) A0 (w1.heap.size + 1) n c p rfl rfl (enters_of Try.func45 (by kernel_rfl) rfl) (fun W _ _ => cycles1_any A0 _ n c p W HP.out hn)
    (fun pre A => OrdI w n c w1.heap.size A0 (lcmL (pre.map List.length)) A) (fun pre A h => ⟨HA.out.below h.below, h.src⟩) (fun pre A B h hb => h.bar (by omega) hb) HI0.out ?a1 ?assign ?body ?done)
  case assign =>
    intro l v W K hK
    gi_wp2
    exact hK
  case body =>
    rintro l pre x rest A W1 b cap hcy hI hbar hsz hrow hb
    have hI1 := hI.bar (by omega) hbar
    obtain ⟨f, hf, hl, hx⟩ := cycs_mid hcy
    have hs1 := pre_small HP.out hn (pre := pre) (rest := x :: rest) hcy
    have hs2 := pre_small HP.out hn (pre := pre ++ [x]) (rest := rest) (by rw [hcy]; simp)
    have hlen : x.length = per p f := by rw [hx, orb_length]
    have hm1 := per_pos p f
    have hm2 := (per_spec HP.out hf).1
    rw [← hlen] at hm1 hm2
    rw [List.map_append, List.map_cons, List.map_nil, lcmL_snoc] at hs2 ⊢
    obtain ⟨M, hM⟩ : ∃ M, M = x.length := ⟨_, rfl⟩
    obtain ⟨N, hN⟩ : ∃ N, N = lcmL (pre.map List.length) := ⟨_, rfl⟩
    rw [← hM] at hs2 hm1 hm2 ⊢
    rw [← hN] at hs1 hs2 hI1 ⊢
    obtain ⟨g, hg⟩ : ∃ g, g = Nat.gcd N M := ⟨_, rfl⟩
    have hg0 : 0 < g := by rw [hg]; exact Nat.gcd_pos_of_pos_right _ (by omega)
    have hgM : g ≤ M := by rw [hg]; exact Nat.gcd_le_right _ (by omega)
    obtain ⟨q, hq⟩ : ∃ q, q = M / g := ⟨_, rfl⟩
    obtain ⟨L, hL⟩ : ∃ L, L = Nat.lcm N M := ⟨_, rfl⟩
    have hqL : N * q = L := by rw [hq, hL, hg, Nat.lcm]; exact (Nat.mul_div_assoc N (Nat.gcd_dvd_right N M)).symm
    rw [← hL] at hs2 ⊢
    have hc0 := cell_of hI1.box 0
    have hf0 := free_of hI1.box 0
    have e1 : (M : Int).tdiv (g : Int) = (q : Int) := by rw [hq]; rfl
    have e2 : IntKind.i64.wrap ((N : Int) * (q : Int)) = (L : Int) := by
      rw [← hqL]
      refine (IntWalk.i64_in _ ?_).trans (by simp)
      rw [← Int.natCast_mul, hqL]
      omega
    have e3 : ¬ g = 0 := by omega
    have hqM : q ≤ M := by rw [hq]; exact Nat.div_le_self _ _
    have e4 : IntKind.i64.wrap (q : Int) = (q : Int) := IntWalk.i64_in _ (by omega)
    have HFIN : Hid (∀ w5, Below W1.heap.size W1 w5 → OrdI w n c w1.heap.size A0 L (w5.setCell ⟨w1.heap.size, 0, none⟩ (.int .i64 (L : Nat))) ∧ W1.heap.size ≤ w5.heap.size ∧
        ∀ k, w1.heap.size + 2 ≤ k → k < w1.heap.size + 2 + 3 → (w5.setCell ⟨w1.heap.size, 0, none⟩ (.int .i64 (L : Nat))).heap[k]? = W1.heap[k]?) := fun w5 h5 =>
      ⟨(hI1.bar (d := W1.heap.size) (m := 0) (by omega) (Bar.of_below h5)).step L, h5.size, fun k h6 h7 => by
        rw [Below.heap_setCell _ _ _ _ (by show k ≠ w1.heap.size; omega)]
        exact h5.block k (by omega)⟩
    have hsz1 := hI1.size
    have HCG := Lib.hid (fun W : World => common_any N M W (by omega) (by omega))
    rw [← hg] at HCG
    clear hN hM hlen hx hrow hcy hL hqL hq hg hI hs1 hs2 hI1
    gi_wp2
    refine round_region_held (S := fun _ => True) (by kernel_rfl) (by kernel_rfl) (fun hh => by obtain ⟨a9, w9, h9⟩ := hh; rcases h9 with ⟨h9, -⟩; cases h9) trivial (fun hS => ?_)
    refine wpAnyH_take (i := 1) (v := ?_) rfl (by kernel_rfl) (by kernel_rfl) (by kernel_rfl) (fun _ _ _ h => h) (Or.inl ⟨by rfl, ?_⟩) hS ?_
    rotate_left
    · intro wz hSw; (try dsimp only at hSw); go_simp; (try with_reducible rfl)
    try simp only [List.getElem_toArray, List.getElem_cons_zero, List.getElem_cons_succ, Act.put, List.setIfInBounds_toArray, List.set_cons_zero, List.set_cons_succ]
    refine wpAnyH_take (i := 2) (v := ?_) rfl (by kernel_rfl) (by kernel_rfl) (by kernel_rfl) (fun _ _ _ h => h) (Or.inl ⟨by rfl, ?_⟩) hS ?_
    rotate_left
    · intro wz hSw; (try dsimp only at hSw); go_simp; (try with_reducible rfl)
    try simp only [List.getElem_toArray, List.getElem_cons_zero, List.getElem_cons_succ, Act.put, List.setIfInBounds_toArray, List.set_cons_zero, List.set_cons_succ]
    refine wpAnyH_take (i := 4) (v := ?_) rfl (by kernel_rfl) (by kernel_rfl) (by kernel_rfl) (fun _ _ _ h => h) (Or.inl ⟨by rfl, ?_⟩) hS ?_
    rotate_left
    · intro wz hSw; (try dsimp only at hSw); go_simp; (try with_reducible rfl)
    try simp only [List.getElem_toArray, List.getElem_cons_zero, List.getElem_cons_succ, Act.put, List.setIfInBounds_toArray, List.set_cons_zero, List.set_cons_succ]
    refine wpAnyH_take (i := 5) (v := ?_) rfl (by kernel_rfl) (by kernel_rfl) (by kernel_rfl) (fun _ _ _ h => h) (Or.inl ⟨by rfl, ?_⟩) hS ?_
    rotate_left
    · intro wz hSw; (try dsimp only at hSw); go_simp; (try with_reducible rfl)
    try simp only [List.getElem_toArray, List.getElem_cons_zero, List.getElem_cons_succ, Act.put, List.setIfInBounds_toArray, List.set_cons_zero, List.set_cons_succ]
    refine wpAnyH_ready (rs := [0, 3]) (by kernel_rfl) (by simp) (AllReadyH.cons rfl (fun K hK => ?_) (AllReadyH.cons rfl (fun K hK => ?_) AllReadyH.nil))
    · go_simp
      refine hK.out _ _ trivial (fun _ => ?_)
      clear hK K
      try simp only [List.getElem_toArray, List.getElem_cons_zero, List.getElem_cons_succ, Act.put, List.setIfInBounds_toArray, List.set_cons_zero, List.set_cons_succ]
      refine wpAnyH_ready (rs := [3]) (by kernel_rfl) (by simp) (AllReadyH.cons rfl (fun K hK => ?_) AllReadyH.nil)
      go_simp
      refine hK.out _ _ trivial (fun _ => ?_)
      clear hK K
      try simp only [List.getElem_toArray, List.getElem_cons_zero, List.getElem_cons_succ, Act.put, List.setIfInBounds_toArray, List.set_cons_zero, List.set_cons_succ]
      refine wpAnyH_ready (rs := [6]) (by kernel_rfl) (by simp) (AllReadyH.cons rfl (fun K hK => ?_) AllReadyH.nil)
      go_simp
      go_at_call 38
      refine (HCG.out _).mono ?_
      rintro e w5 ⟨rfl, hb5⟩
      go_wp2_with fail
      have hb6 : Below W1.heap.size W1 w5 := next_below (drewn_below W1) hb5
      have hc5 := (hb6.cell (p := ⟨w1.heap.size, 0, none⟩) (by show w1.heap.size < _; omega)).trans hc0
      have hf5 := (hb6.frozen (p := ⟨w1.heap.size, 0, none⟩) (by show w1.heap.size < _; omega)).trans hf0
      refine hK.out _ _ trivial (fun _ => ?_)
      clear hK K
      try simp only [List.getElem_toArray, List.getElem_cons_zero, List.getElem_cons_succ, Act.put, List.setIfInBounds_toArray, List.set_cons_zero, List.set_cons_succ]
      refine wpAnyH_take (i := 7) (v := ?_) rfl (by kernel_rfl) (by kernel_rfl) (by kernel_rfl) (fun _ _ _ h => h) (Or.inl ⟨by rfl, ?_⟩) hS ?_
      rotate_left
      · intro wz hSw; (try dsimp only at hSw); go_simp; (try with_reducible rfl)
      try simp only [List.getElem_toArray, List.getElem_cons_zero, List.getElem_cons_succ, Act.put, List.setIfInBounds_toArray, List.set_cons_zero, List.set_cons_succ]
      refine wpAnyH_take (i := 8) (v := ?_) rfl (by kernel_rfl) (by kernel_rfl) (by kernel_rfl) (fun _ _ _ h => h) (Or.inl ⟨by rfl, ?_⟩) hS ?_
      rotate_left
      · intro wz hSw; (try dsimp only at hSw); go_simp; (try with_reducible rfl)
      try simp only [List.getElem_toArray, List.getElem_cons_zero, List.getElem_cons_succ, Act.put, List.setIfInBounds_toArray, List.set_cons_zero, List.set_cons_succ]
      refine wpAnyH_ready (rs := [9]) (by kernel_rfl) (by simp) (AllReadyH.cons rfl (fun K hK => ?_) AllReadyH.nil)
      go_simp
      refine hK.out _ _ trivial (fun _ => ?_)
      clear hK K
      refine wpAnyH_done (by kernel_rfl) ?_ _
      gi_wp2
      exact HFIN.out w5 hb6
    · go_simp
      refine hK.out _ _ trivial (fun _ => ?_)
      clear hK K
      try simp only [List.getElem_toArray, List.getElem_cons_zero, List.getElem_cons_succ, Act.put, List.setIfInBounds_toArray, List.set_cons_zero, List.set_cons_succ]
      refine wpAnyH_ready (rs := [0, 6]) (by kernel_rfl) (by simp) (AllReadyH.cons rfl (fun K hK => ?_) (AllReadyH.cons rfl (fun K hK => ?_) AllReadyH.nil))
      · go_simp
        refine hK.out _ _ trivial (fun _ => ?_)
        clear hK K
        try simp only [List.getElem_toArray, List.getElem_cons_zero, List.getElem_cons_succ, Act.put, List.setIfInBounds_toArray, List.set_cons_zero, List.set_cons_succ]
        refine wpAnyH_ready (rs := [6]) (by kernel_rfl) (by simp) (AllReadyH.cons rfl (fun K hK => ?_) AllReadyH.nil)
        go_simp
        go_at_call 38
        refine (HCG.out _).mono ?_
        rintro e w5 ⟨rfl, hb5⟩
        go_wp2_with fail
        have hb6 : Below W1.heap.size W1 w5 := next_below (drewn_below W1) hb5
        have hc5 := (hb6.cell (p := ⟨w1.heap.size, 0, none⟩) (by show w1.heap.size < _; omega)).trans hc0
        have hf5 := (hb6.frozen (p := ⟨w1.heap.size, 0, none⟩) (by show w1.heap.size < _; omega)).trans hf0
        refine hK.out _ _ trivial (fun _ => ?_)
        clear hK K
        try simp only [List.getElem_toArray, List.getElem_cons_zero, List.getElem_cons_succ, Act.put, List.setIfInBounds_toArray, List.set_cons_zero, List.set_cons_succ]
        refine wpAnyH_take (i := 7) (v := ?_) rfl (by kernel_rfl) (by kernel_rfl) (by kernel_rfl) (fun _ _ _ h => h) (Or.inl ⟨by rfl, ?_⟩) hS ?_
        rotate_left
        · intro wz hSw; (try dsimp only at hSw); go_simp; (try with_reducible rfl)
        try simp only [List.getElem_toArray, List.getElem_cons_zero, List.getElem_cons_succ, Act.put, List.setIfInBounds_toArray, List.set_cons_zero, List.set_cons_succ]
        refine wpAnyH_take (i := 8) (v := ?_) rfl (by kernel_rfl) (by kernel_rfl) (by kernel_rfl) (fun _ _ _ h => h) (Or.inl ⟨by rfl, ?_⟩) hS ?_
        rotate_left
        · intro wz hSw; (try dsimp only at hSw); go_simp; (try with_reducible rfl)
        try simp only [List.getElem_toArray, List.getElem_cons_zero, List.getElem_cons_succ, Act.put, List.setIfInBounds_toArray, List.set_cons_zero, List.set_cons_succ]
        refine wpAnyH_ready (rs := [9]) (by kernel_rfl) (by simp) (AllReadyH.cons rfl (fun K hK => ?_) AllReadyH.nil)
        go_simp
        refine hK.out _ _ trivial (fun _ => ?_)
        clear hK K
        refine wpAnyH_done (by kernel_rfl) ?_ _
        gi_wp2
        exact HFIN.out w5 hb6
      · go_simp
        go_at_call 38
        refine (HCG.out _).mono ?_
        rintro e w5 ⟨rfl, hb5⟩
        go_wp2_with fail
        have hb6 : Below W1.heap.size W1 w5 := next_below (drewn_below W1) hb5
        have hc5 := (hb6.cell (p := ⟨w1.heap.size, 0, none⟩) (by show w1.heap.size < _; omega)).trans hc0
        have hf5 := (hb6.frozen (p := ⟨w1.heap.size, 0, none⟩) (by show w1.heap.size < _; omega)).trans hf0
        refine hK.out _ _ trivial (fun _ => ?_)
        clear hK K
        try simp only [List.getElem_toArray, List.getElem_cons_zero, List.getElem_cons_succ, Act.put, List.setIfInBounds_toArray, List.set_cons_zero, List.set_cons_succ]
        refine wpAnyH_take (i := 7) (v := ?_) rfl (by kernel_rfl) (by kernel_rfl) (by kernel_rfl) (fun _ _ _ h => h) (Or.inl ⟨by rfl, ?_⟩) hS ?_
        rotate_left
        · intro wz hSw; (try dsimp only at hSw); go_simp; (try with_reducible rfl)
        try simp only [List.getElem_toArray, List.getElem_cons_zero, List.getElem_cons_succ, Act.put, List.setIfInBounds_toArray, List.set_cons_zero, List.set_cons_succ]
        refine wpAnyH_ready (rs := [0]) (by kernel_rfl) (by simp) (AllReadyH.cons rfl (fun K hK => ?_) AllReadyH.nil)
        go_simp
        refine hK.out _ _ trivial (fun _ => ?_)
        clear hK K
        try simp only [List.getElem_toArray, List.getElem_cons_zero, List.getElem_cons_succ, Act.put, List.setIfInBounds_toArray, List.set_cons_zero, List.set_cons_succ]
        refine wpAnyH_take (i := 8) (v := ?_) rfl (by kernel_rfl) (by kernel_rfl) (by kernel_rfl) (fun _ _ _ h => h) (Or.inl ⟨by rfl, ?_⟩) hS ?_
        rotate_left
        · intro wz hSw; (try dsimp only at hSw); go_simp; (try with_reducible rfl)
        try simp only [List.getElem_toArray, List.getElem_cons_zero, List.getElem_cons_succ, Act.put, List.setIfInBounds_toArray, List.set_cons_zero, List.set_cons_succ]
        refine wpAnyH_ready (rs := [9]) (by kernel_rfl) (by simp) (AllReadyH.cons rfl (fun K hK => ?_) AllReadyH.nil)
        go_simp
        refine hK.out _ _ trivial (fun _ => ?_)
        clear hK K
        refine wpAnyH_done (by kernel_rfl) ?_ _
        gi_wp2
        exact HFIN.out w5 hb6
  case done =>
    intro W hI hK
    have c1 := cell_of hI.box 0
    dsimp only
    go_wp2_with fail
    refine ⟨by simp, .inl ⟨_, _, rfl, run_takeDeferred hK, ?_⟩⟩
    have hI2 := hI.bar (d := w2.heap.size) (m := 3) (by omega) (Bar.put W (.deferred none) (Nat.le_refl _) (by omega))
    exact ⟨_, results_tmp2 rfl _ _ _, rfl, hI2.below⟩
end Go.Proofs.Ytgldlanfbkgfjaa
