/- The chapter's examples. -/
import Derived.Test.YtpkiogcedfmodaaW12
import Derived.Test.YtpkiogcedfmodaaW14
import Derived.Test.YtpkiogcedfmodaaW16
namespace Go.Proofs.Ytpkiogcedfmodaa
open Go.RowKit

def distB (T : List (List Int)) (N fr : Nat) (ds : List Int) : Bool :=
  ds.length == N && gd ds fr == 0 && ((List.range N).all fun v => decide (-1 ≤ gd ds v) && (gd ds v != 0 || v == fr) && (decide (gd ds v ≤ 0) || (List.range N).any fun u => (T.getD u []).contains (v : Int) && gd ds u == gd ds v - 1)) &&
  (List.range N).all fun u => decide (gd ds u < 0) || (T.getD u []).all fun x => decide (0 ≤ gd ds x.toNat) && decide (gd ds x.toNat ≤ gd ds u + 1)
theorem dist_of {T : List (List Int)} {N fr : Nat} {ds : List Int} (h : distB T N fr ds = true) : Dist T N fr ds := by
  unfold distB at h
  simp only [Bool.and_eq_true, List.all_eq_true, List.mem_range, Bool.or_eq_true, decide_eq_true_eq, beq_iff_eq, bne_iff_ne, ne_eq, List.any_eq_true, List.contains_iff_mem] at h
  obtain ⟨⟨⟨h1, h2⟩, h3⟩, h4⟩ := h
  refine ⟨h1, fun v hv => (h3 v hv).1.1, h2, fun v hv e => ?_, fun v hv e => ?_, fun u hu e v ha => ?_⟩
  · rcases (h3 v hv).1.2 with h | h
    · exact absurd e h
    · exact h
  · rcases (h3 v hv).2 with h | ⟨u, hu, ha, he⟩
    · omega
    · exact ⟨u, hu, ha, he⟩
  · rcases h4 u hu with h | h
    · omega
    · have := h (v : Int) ha
      simpa using this
def E0 : List (Int × Int) := [(0, 2), (0, 3), (1, 3), (2, 3)]
def T0 : List (List Int) := [[2, 3], [3], [0, 3], [0, 1, 2], []]
theorem tab0 : tabG 5 E0 = T0 := by decide
theorem right0 : rightG ((5 : Nat) : Int) E0 = true := by decide
theorem walk0 : wrun T0 5 0 12 = ⟨[-1, 3, 0, 2, -1], [0, 2, 3, 1], []⟩ := by rfl
theorem dist2 : Dist T0 5 2 [1, 2, 0, 1, -1] := dist_of (by decide)
theorem dist0 : Dist T0 5 0 [0, 2, 1, 1, -1] := dist_of (by decide)
theorem dist4 : Dist T0 5 4 [-1, -1, -1, -1, 0] := dist_of (by decide)
theorem path0 : prunP T0 [0, 2, 1, 1, -1] 1 2 = ([1, 3, 0], 0) := by decide
theorem parts0 : (prun T0 5 5).2 = [[0, 1, 2, 3], [4]] := by
  have d0 := distOf_eq dist0
  have d4 := distOf_eq dist4
  have s1 : prun T0 5 1 = ([true, true, true, true, false], [[0, 1, 2, 3]]) := by
    show pstep T0 5 (prun T0 5 0) 0 = _
    unfold pstep
    rw [d0]
    decide
  have s4 : prun T0 5 4 = ([true, true, true, true, false], [[0, 1, 2, 3]]) := by
    have s2 : prun T0 5 2 = ([true, true, true, true, false], [[0, 1, 2, 3]]) := by
      show pstep T0 5 (prun T0 5 1) 1 = _
      rw [s1]; unfold pstep; rw [if_pos (by decide)]
    have s3 : prun T0 5 3 = ([true, true, true, true, false], [[0, 1, 2, 3]]) := by
      show pstep T0 5 (prun T0 5 2) 2 = _
      rw [s2]; unfold pstep; rw [if_pos (by decide)]
    show pstep T0 5 (prun T0 5 3) 3 = _
    rw [s3]; unfold pstep; rw [if_pos (by decide)]
  have s5 : prun T0 5 5 = (metN [true, true, true, true, false] [-1, -1, -1, -1, 0] 5, [[0, 1, 2, 3]] ++ [reachN [-1, -1, -1, -1, 0] 5]) := by
    show pstep T0 5 (prun T0 5 4) 4 = _
    rw [s4]; unfold pstep; rw [if_neg (by decide), d4]
  rw [s5]
  decide
theorem OwnZ.rd {w : World} {B : Nat} {ds : List Int} (h : OwnZ w B ds) : RdZ w (some ⟨B, 0, none⟩) ds := by
  intro q x hq
  refine ⟨_, rfl, lt_of_block h, ?_⟩
  rw [add_off, cell_of h]
  simp [zs, zv, hq]
theorem OwnL.rd {w : World} {base g cap : Nat} {l : List Nat} (h : OwnL w base g cap l) : RdZ w (some ⟨g, 0, none⟩) (l.map fun (x : Nat) => (x : Int)) := by
  have h2 : w.ownsRow base 3 1 (.slice (some ⟨g, 0, none⟩) l.length cap) l.length (zs (l.map fun (x : Nat) => (x : Int))) := by
    have e : zs (l.map fun (x : Nat) => (x : Int)) = zn l := by simp [zs, zn, zv]
    rw [e]; exact h
  exact owns_rd h2
theorem lit_rd (w : World) (xs : List Int) : RdZ (w.alloc (.cells (zs xs).toArray 3)) (some ⟨w.heap.size, 0, none⟩) xs := OwnZ.rd (heap_alloc_new w _)

/-- What is known while the examples are gone through: rows that are read. -/
def Aw (W w : World) (L : List (Option Addr × List Int)) : Prop := Below W.heap.size W w ∧ ∀ r ∈ L, RdZ w r.1 r.2
theorem Aw.below {W w w' : World} {L : List (Option Addr × List Int)} (h : Aw W w L) (hb : Below w.heap.size w w') : Aw W w' L := ⟨next_below h.1 hb, fun r hr => (h.2 r hr).below hb⟩
theorem Aw.add {W w : World} {L : List (Option Addr × List Int)} {A : Option Addr} {xs : List Int} (h : Aw W w L) (hr : RdZ w A xs) : Aw W w ((A, xs) :: L) := ⟨h.1, fun r hm => by
  rcases List.mem_cons.1 hm with rfl | hm
  · exact hr
  · exact h.2 r hm⟩
theorem Aw.lit {W w : World} {L : List (Option Addr × List Int)} (h : Aw W w L) (xs : List Int) : Aw W (w.alloc (.cells (zs xs).toArray 3)) L := h.below ((Below.refl _ _).alloc (Nat.le_refl _) _)
theorem Aw.at_ {W w : World} {L : List (Option Addr × List Int)} (h : Aw W w L) (i : Nat) {A : Option Addr} {xs : List Int} (hi : L[i]? = some (A, xs)) : RdZ w A xs := h.2 _ (List.mem_of_getElem? hi)

theorem two_rd (w : World) : RdR (((w.alloc (.cells (zs [0, 1, 2, 3]).toArray 3)).alloc (.cells (zs [4]).toArray 3)).alloc (.cells #[.slice (some ⟨w.heap.size, 0, none⟩) 4 4, .slice (some ⟨w.heap.size + 1, 0, none⟩) 1 1] 27)) (some ⟨w.heap.size + 1 + 1, 0, none⟩) [[0, 1, 2, 3], [4]] := by
  obtain ⟨W1, h1⟩ : ∃ W1, W1 = w.alloc (.cells (zs [0, 1, 2, 3]).toArray 3) := ⟨_, rfl⟩
  obtain ⟨W2, h2⟩ : ∃ W2, W2 = W1.alloc (.cells (zs [4]).toArray 3) := ⟨_, rfl⟩
  have z1 : W1.heap.size = w.heap.size + 1 := by rw [h1]; simp
  have z2 : W2.heap.size = w.heap.size + 1 + 1 := by rw [h2]; simp [z1]
  have r1 : RdZ W1 (some ⟨w.heap.size, 0, none⟩) [0, 1, 2, 3] := by rw [h1]; exact lit_rd w _
  have r2 : RdZ W2 (some ⟨w.heap.size + 1, 0, none⟩) [4] := by rw [h2, ← z1]; exact lit_rd W1 _
  rw [← h1, ← h2]
  have hb2 : Below W1.heap.size W1 W2 := by rw [h2]; exact (Below.refl _ _).alloc (Nat.le_refl _) _
  have hb3 : Below W2.heap.size W2 (W2.alloc (.cells #[.slice (some ⟨w.heap.size, 0, none⟩) 4 4, .slice (some ⟨w.heap.size + 1, 0, none⟩) 1 1] 27)) := (Below.refl _ _).alloc (Nat.le_refl _) _
  have hn := heap_alloc_new W2 (.cells #[.slice (some ⟨w.heap.size, 0, none⟩) 4 4, .slice (some ⟨w.heap.size + 1, 0, none⟩) 1 1] 27)
  rw [z2] at hn
  intro j xs hj
  match j, hj with
  | 0, hj =>
    simp at hj; subst hj
    exact ⟨_, _, _, rfl, lt_of_block hn, by rw [add_off, cell_of hn]; rfl, (r1.below hb2).below hb3⟩
  | 1, hj =>
    simp at hj; subst hj
    exact ⟨_, _, _, rfl, lt_of_block hn, by rw [add_off, cell_of hn]; rfl, r2.below hb3⟩

set_option maxRecDepth 100000 in
set_option maxHeartbeats 8000000 in
theorem awake_any (w : World) : Calls Try.prog 10 #[] w fun e w' => e = .returned (.bool true) ∧ Below w.heap.size w w' := by
  obtain ⟨W, hW⟩ : ∃ W, W = (w.alloc (.cells #[.int .i64 0, .int .i64 2, .int .i64 0, .int .i64 3, .int .i64 1, .int .i64 3, .int .i64 2, .int .i64 3] 43)).alloc (.cells #[.int .i64 5, .slice (some ⟨w.heap.size, 0, none⟩) 4 4] 24) := ⟨_, rfl⟩
  have hWz : W.heap.size = w.heap.size + 1 + 1 := by rw [hW]; simp
  have hbW : Below w.heap.size w W := by rw [hW]; exact ((Below.refl _ _).alloc (Nat.le_refl _) _).alloc (by simp) _
  have he : W.heap[w.heap.size]? = some (.cells #[.int .i64 0, .int .i64 2, .int .i64 0, .int .i64 3, .int .i64 1, .int .i64 3, .int .i64 2, .int .i64 3] 43 (0, 0)) := by rw [hW]; exact two_first w _ _
  obtain ⟨j0, j1, _, _⟩ := cells_two (w := W) (g := w.heap.size + 1) (by rw [hW]; exact two_second w _ _)
  have hr : RdP W (some ⟨w.heap.size, 0, none⟩) E0 := by
    intro q e hq
    have hql := (List.getElem?_eq_some_iff.1 hq).1
    simp only [E0, List.length_cons, List.length_nil] at hql
    refine ⟨_, rfl, by show w.heap.size < _; omega, ?_, ?_⟩
    · rw [add_off, cell_of he]
      match q, hql, hq with
      | 0, _, hq => simp [E0] at hq; subst hq; rfl
      | 1, _, hq => simp [E0] at hq; subst hq; rfl
      | 2, _, hq => simp [E0] at hq; subst hq; rfl
      | 3, _, hq => simp [E0] at hq; subst hq; rfl
    · rw [add_off, cell_of he]
      match q, hql, hq with
      | 0, _, hq => simp [E0] at hq; subst hq; rfl
      | 1, _, hq => simp [E0] at hq; subst hq; rfl
      | 2, _, hq => simp [E0] at hq; subst hq; rfl
      | 3, _, hq => simp [E0] at hq; subst hq; rfl
  have HCW := Lib.hid (walk_any (some ⟨w.heap.size, 0, none⟩) 4 4 5 0 E0)
  have HCA := Lib.hid (away_any (some ⟨w.heap.size, 0, none⟩) 4 4 5 2 E0)
  have HCP1 := Lib.hid (path_any (some ⟨w.heap.size, 0, none⟩) 4 4 5 1 0 E0)
  have HCP2 := Lib.hid (path_any (some ⟨w.heap.size, 0, none⟩) 4 4 5 2 2 E0)
  have HCP3 := Lib.hid (path_any (some ⟨w.heap.size, 0, none⟩) 4 4 5 0 4 E0)
  have HCL := Lib.hid (parts_any (some ⟨w.heap.size, 0, none⟩) 4 4 5 E0)
  rw [tab0] at HCW HCA HCP1 HCP2 HCP3 HCL
  have HRP := Lib.hid hr
  have HJ : Hid (∀ w', Below W.heap.size W w' → w'.cell? ⟨w.heap.size + 1, 0, none⟩ = some (.int .i64 5) ∧ w'.cell? ⟨w.heap.size + 1, 1, none⟩ = some (.slice (some ⟨w.heap.size, 0, none⟩) 4 4)) := fun w' hb =>
    ⟨by rw [hb.cell (by show w.heap.size + 1 < _; omega)]; exact j0, by rw [hb.cell (by show w.heap.size + 1 < _; omega)]; exact j1⟩
  have HBW := Lib.hid hbW
  have HW := Lib.hid hW
  clear hW hbW he hr hWz
  go_enter Try.func10, Try.ntmps10
  go_wp2_with fail
  rw [← HW.out]
  refine (HCW.out W HRP.out rfl right0 (by omega)).mono ?_
  rintro e w1 ⟨k, go, co, Bu, s, rfl, so, su, _, _, sk, sl, _, hb⟩
  have hs : s = ⟨[-1, 3, 0, 2, -1], [0, 2, 3, 1], []⟩ := by
    rw [sk] at sl
    rw [sk, ← walk0]
    exact wrun_end sl (by rw [walk0])
  subst hs
  have A1 := Lib.hid (((show Aw W W [] from ⟨Below.refl _ _, fun r h => by cases h⟩).below hb).add so.rd |>.add su.rd)
  clear hb so su sk sl j0 j1
  obtain ⟨j0, j1⟩ := HJ.out w1 A1.out.1
  go_wp2_with fail
  refine (HCA.out w1 (HRP.out.below A1.out.1) rfl right0 (by omega)).mono ?_
  rintro e w2 ⟨Bd, ds, rfl, sd, ⟨hD, _⟩, _, hb⟩
  have hds := hD.eq dist2
  subst hds
  have A2 := Lib.hid ((A1.out.below hb).add sd.rd)
  clear hb sd hD j0 j1 A1
  obtain ⟨j0, j1⟩ := HJ.out w2 A2.out.1
  go_wp2_with fail
  refine (HCP1.out w2 (HRP.out.below A2.out.1) rfl right0 (by omega) (by omega)).mono ?_
  rintro e w3 ⟨hb, hp⟩
  rw [distOf_eq dist0] at hp
  rcases hp with ⟨hn, _⟩ | ⟨D, g1, o1, l1, hD, hl, _, _, hown, rfl⟩
  · exact absurd hn (by decide)
  have hD2 : D = 2 := by have : gd [0, 2, 1, 1, -1] 1 = 2 := by decide
                         omega
  subst hD2
  rw [path0] at hl
  have hl1 : l1 = [1, 3, 0] := by injection hl
  subst hl1
  have A3 := Lib.hid ((A2.out.below hb).add hown.rd)
  clear hb hown hl hD j0 j1 A2
  obtain ⟨j0, j1⟩ := HJ.out w3 A3.out.1
  go_wp2_with fail
  refine (HCP2.out w3 (HRP.out.below A3.out.1) rfl right0 (by omega) (by omega)).mono ?_
  rintro e w4 ⟨hb, hp⟩
  rw [distOf_eq dist2] at hp
  rcases hp with ⟨hn, _⟩ | ⟨D, g2, o2, l2, hD, hl, _, _, hown, rfl⟩
  · exact absurd hn (by decide)
  have hD2 : D = 0 := by have : gd [1, 2, 0, 1, -1] 2 = 0 := by decide
                         omega
  subst hD2
  have hl2 : l2 = [2] := by injection hl
  subst hl2
  have A4 := Lib.hid ((A3.out.below hb).add hown.rd)
  clear hb hown hl hD j0 j1 A3
  obtain ⟨j0, j1⟩ := HJ.out w4 A4.out.1
  go_wp2_with fail
  refine (HCP3.out w4 (HRP.out.below A4.out.1) rfl right0 (by omega) (by omega)).mono ?_
  rintro e w5 ⟨hb, hp⟩
  rw [distOf_eq dist4] at hp
  rcases hp with ⟨_, rfl⟩ | ⟨D, _, _, _, hD, _⟩
  rotate_left
  · have : gd [-1, -1, -1, -1, 0] 0 = -1 := by decide
    omega
  have A5 := Lib.hid (A4.out.below hb)
  clear hb j0 j1 A4
  go_wp2_with fail
  refine (sameZ_any (some ⟨go, 0, none⟩) (some ⟨w5.heap.size, 0, none⟩) co 4 4 4 _ _ _ ((A5.out.lit [0, 2, 3, 1]).at_ 4 rfl) (lit_rd w5 [0, 2, 3, 1]) (by omega) (by omega) rfl rfl).mono ?_
  rintro e w6 ⟨he, hb⟩
  have he : e = .returned (.bool true) := he
  subst he
  have A6 := Lib.hid ((A5.out.lit [0, 2, 3, 1]).below hb)
  clear hb A5
  go_wp2_with fail
  refine (sameZ_any (some ⟨Bu, 0, none⟩) (some ⟨w6.heap.size, 0, none⟩) 5 5 5 5 _ _ _ ((A6.out.lit [-1, 3, 0, 2, -1]).at_ 3 rfl) (lit_rd w6 [-1, 3, 0, 2, -1]) (by omega) (by omega) rfl rfl).mono ?_
  rintro e w7 ⟨he, hb⟩
  have he : e = .returned (.bool true) := he
  subst he
  have A7 := Lib.hid ((A6.out.lit [-1, 3, 0, 2, -1]).below hb)
  clear hb A6
  go_wp2_with fail
  refine (sameZ_any (some ⟨Bd, 0, none⟩) (some ⟨w7.heap.size, 0, none⟩) 5 5 5 5 _ _ _ ((A7.out.lit [1, 2, 0, 1, -1]).at_ 2 rfl) (lit_rd w7 [1, 2, 0, 1, -1]) (by omega) (by omega) rfl rfl).mono ?_
  rintro e w8 ⟨he, hb⟩
  have he : e = .returned (.bool true) := he
  subst he
  have A8 := Lib.hid ((A7.out.lit [1, 2, 0, 1, -1]).below hb)
  clear hb A7
  go_wp2_with fail
  refine (sameZ_any (some ⟨g1, 0, none⟩) (some ⟨w8.heap.size, 0, none⟩) o1 3 3 3 _ _ _ ((A8.out.lit [1, 3, 0]).at_ 1 rfl) (lit_rd w8 [1, 3, 0]) (by omega) (by omega) rfl rfl).mono ?_
  rintro e w9 ⟨he, hb⟩
  have he : e = .returned (.bool true) := he
  subst he
  have A9 := Lib.hid ((A8.out.lit [1, 3, 0]).below hb)
  clear hb A8
  go_wp2_with fail
  refine (sameZ_any (some ⟨g2, 0, none⟩) (some ⟨w9.heap.size, 0, none⟩) o2 1 1 1 _ _ _ ((A9.out.lit [2]).at_ 0 rfl) (lit_rd w9 [2]) (by omega) (by omega) rfl rfl).mono ?_
  rintro e w10 ⟨he, hb⟩
  have he : e = .returned (.bool true) := he
  subst he
  have A10 := Lib.hid ((A9.out.lit [2]).below hb)
  clear hb A9
  obtain ⟨j0, j1⟩ := HJ.out w10 A10.out.1
  go_wp2_with fail
  refine (HCL.out w10 (HRP.out.below A10.out.1) rfl right0).mono ?_
  rintro e w11 ⟨B, k, cap, us, rfl, hk, hp, hb⟩
  rw [parts0] at hk hp
  have hk : k = 2 := hk
  subst hk
  have A11 := Lib.hid ((A10.out.below hb).1)
  have HP := Lib.hid hp.rd
  clear hb A10 hp j0 j1
  go_wp2_with fail
  refine (sameR_any B (some ⟨w11.heap.size + 1 + 1, 0, none⟩) cap 2 2 2 [[0, 1, 2, 3], [4]] [[0, 1, 2, 3], [4]] _ (HP.out.below ((((Below.refl _ _).alloc (Nat.le_refl _) _).alloc (by simp) _).alloc (by simp; omega) _)) (two_rd w11) (by decide) (by decide) (by omega) (by omega) rfl rfl).mono ?_
  rintro e w12 ⟨he, hb⟩
  have he : e = .returned (.bool true) := he
  subst he
  have A12 := Lib.hid (next_below (next_below A11.out ((((Below.refl _ _).alloc (Nat.le_refl _) _).alloc (by simp) _).alloc (by simp; omega) _)) hb)
  go_wp2_with fail
  go_ret
  exact ⟨rfl, next_below HBW.out A12.out⟩
end Go.Proofs.Ytpkiogcedfmodaa
