/- What the program tells, said in one way, whatever is asked. -/
import Derived.Test.YtpkiogcedfmodaaW17
import Derived.Test.YtpkiogcedfmodaaW42
import Derived.WalkMore
import Derived.Scope
namespace Go.Proofs.Ytpkiogcedfmodaa
open Go.RowKit

noncomputable def wend (T : List (List Int)) (N fr : Nat) : St := by
  classical
  exact if h : ∃ k, (wrun T N fr k).list = [] then wrun T N fr h.choose else wrun T N fr 0
theorem wend_eq {T : List (List Int)} {N fr k : Nat} (h : (wrun T N fr k).list = []) : wend T N fr = wrun T N fr k := by
  classical
  have hx : ∃ k, (wrun T N fr k).list = [] := ⟨k, h⟩
  unfold wend
  rw [dif_pos hx]
  exact wrun_end hx.choose_spec h
noncomputable def walkR (N : Int) (E : List (Int × Int)) (v : Int) : List Int × List Int × Int :=
  if askE N E v = 0 then ((wend (tabG N.toNat E) N.toNat v.toNat).order.map fun (x : Nat) => (x : Int), (wend (tabG N.toNat E) N.toNat v.toNat).up, 0) else ([], [], askE N E v)
noncomputable def awayR (N : Int) (E : List (Int × Int)) (v : Int) : List Int × Int :=
  if askE N E v = 0 then (distOf (tabG N.toNat E) N.toNat v.toNat, 0) else ([], askE N E v)
noncomputable def pathR (N : Int) (E : List (Int × Int)) (a b : Int) : List Int × Int :=
  if askE N E a = 0 then (if askE N E b = 0 then
    (if gd (distOf (tabG N.toNat E) N.toNat b.toNat) a.toNat < 0 then ([], 60)
     else ((prunP (tabG N.toNat E) (distOf (tabG N.toNat E) N.toNat b.toNat) a.toNat (gd (distOf (tabG N.toNat E) N.toNat b.toNat) a.toNat).toNat).1.map fun (x : Nat) => (x : Int), 0))
    else ([], askE N E b)) else ([], askE N E a)
noncomputable def partsR (N : Int) (E : List (Int × Int)) : List (List Int) := if rightG N E = true then (prun (tabG N.toNat E) N.toNat N.toNat).2 else []
theorem askE_zero {N v : Int} {E : List (Int × Int)} (h : askE N E v = 0) : ∃ n u : Nat, N = (n : Int) ∧ v = (u : Int) ∧ u < n ∧ rightG (n : Int) E = true := by
  unfold askE at h
  by_cases hg : rightG N E = true
  · rw [if_pos hg] at h
    by_cases hv : 0 ≤ v ∧ v < N
    · obtain ⟨u, rfl⟩ := Int.eq_ofNat_of_zero_le hv.1
      obtain ⟨n, rfl⟩ := Int.eq_ofNat_of_zero_le (show 0 ≤ N by omega)
      exact ⟨n, u, rfl, rfl, by omega, hg⟩
    · rw [if_neg hv] at h; omega
  · rw [if_neg hg] at h; omega
theorem askE_cases (N v : Int) (E : List (Int × Int)) : askE N E v = 0 ∨ askE N E v = 2 ∨ askE N E v = 20 := by
  unfold askE
  split
  · split
    · exact .inl rfl
    · exact .inr (.inl rfl)
  · exact .inr (.inr rfl)
theorem rdz_nil (w : World) (A : Option Addr) : RdZ w A [] := fun q x h => by simp at h

set_option maxHeartbeats 4000000 in
theorem walkT (A : Option Addr) (c n : Nat) (N v : Int) (E : List (Int × Int)) (w : World) (hr : RdP w A E) (hn : n = E.length) :
    Calls Try.prog 12 #[.agg #[.int .i64 N, .slice A n c], .int .i64 v] w fun e w' => ∃ (A1 A2 : Option Addr) (n1 c1 n2 c2 : Nat), e = .returned (.tuple #[.slice A1 n1 c1, .slice A2 n2 c2, .int .i64 (walkR N E v).2.2]) ∧
      n1 = (walkR N E v).1.length ∧ n2 = (walkR N E v).2.1.length ∧ RdZ w' A1 (walkR N E v).1 ∧ RdZ w' A2 (walkR N E v).2.1 ∧ Below w.heap.size w w' := by
  by_cases h0 : askE N E v = 0
  · obtain ⟨m, u, rfl, rfl, hu, hg⟩ := askE_zero h0
    refine (walk_any A c n m u E w hr hn hg hu).mono ?_
    rintro e w' ⟨k, go, co, Bu, s, rfl, ho, hU, _, _, hs, hl, hG, hb⟩
    have hw : walkR (m : Int) E (u : Int) = (s.order.map fun (x : Nat) => (x : Int), s.up, 0) := by
      unfold walkR
      rw [if_pos h0]
      simp only [Int.toNat_natCast]
      rw [hs] at hl
      rw [wend_eq hl, ← hs]
    rw [hw]
    exact ⟨_, _, _, _, _, _, rfl, by simp, hG.len.symm, ho.rd, hU.rd, hb⟩
  · have hw : walkR N E v = ([], [], askE N E v) := by unfold walkR; rw [if_neg h0]
    rw [hw]
    have HE : Hid (askE N E v = 2 ∨ askE N E v = 20) := by
      rcases askE_cases N v E with h | h | h
      · exact absurd h h0
      · exact .inl h
      · exact .inr h
    obtain ⟨W, hW⟩ : ∃ W, W = w.alloc (.cells #[.int .i64 N, .slice A n c] 24) := ⟨_, rfl⟩
    have hb : Below w.heap.size w W := by rw [hW]; exact (Below.refl _ _).alloc (Nat.le_refl _) _
    have HRF := Lib.hid (refused_any A c n N v E W (hr.below hb) hn)
    have HB := Lib.hid hb
    have HW := Lib.hid hW
    obtain ⟨q, hq⟩ : ∃ q, askE N E v = q := ⟨_, rfl⟩
    rw [hq] at HRF HE ⊢
    have hq0 : (q != 0) = true := by rw [bne_iff_ne]; rcases HE.out with h | h <;> omega
    clear hr hn hb hW h0 hw hq
    go_enter Try.func12, Try.ntmps12
    go_wp2_with fail
    go_step3
    go_wp2_with fail
    rw [← HW.out]
    refine HRF.out.mono ?_
    rintro e w1 ⟨rfl, hb1⟩
    have HB1 := Lib.hid hb1
    clear hb1
    go_wp2_with fail
    try rw [Exit.noGoto_ret]
    go_ret3
    exact ⟨none, none, 0, 0, 0, 0, rfl, rfl, rfl, rdz_nil _ _, rdz_nil _ _, HB.out.trans (HB1.out.mono HB.out.size)⟩
set_option maxHeartbeats 4000000 in
theorem awayT (A : Option Addr) (c n : Nat) (N v : Int) (E : List (Int × Int)) (w : World) (hr : RdP w A E) (hn : n = E.length) :
    Calls Try.prog 14 #[.agg #[.int .i64 N, .slice A n c], .int .i64 v] w fun e w' => ∃ (A1 : Option Addr) (n1 c1 : Nat), e = .returned (.tuple #[.slice A1 n1 c1, .int .i64 (awayR N E v).2]) ∧
      n1 = (awayR N E v).1.length ∧ RdZ w' A1 (awayR N E v).1 ∧ Below w.heap.size w w' := by
  by_cases h0 : askE N E v = 0
  · obtain ⟨m, u, rfl, rfl, hu, hg⟩ := askE_zero h0
    refine (away_any A c n m u E w hr hn hg hu).mono ?_
    rintro e w' ⟨B, ds, rfl, ho, ⟨hD, _⟩, _, hb⟩
    have hw : awayR (m : Int) E (u : Int) = (ds, 0) := by
      unfold awayR
      rw [if_pos h0]
      simp only [Int.toNat_natCast]
      rw [distOf_eq hD]
    rw [hw]
    exact ⟨_, _, _, rfl, hD.len.symm, ho.rd, hb⟩
  · have hw : awayR N E v = ([], askE N E v) := by unfold awayR; rw [if_neg h0]
    rw [hw]
    have HE : Hid (askE N E v = 2 ∨ askE N E v = 20) := by
      rcases askE_cases N v E with h | h | h
      · exact absurd h h0
      · exact .inl h
      · exact .inr h
    obtain ⟨W, hW⟩ : ∃ W, W = w.alloc (.cells #[.int .i64 N, .slice A n c] 24) := ⟨_, rfl⟩
    have hb : Below w.heap.size w W := by rw [hW]; exact (Below.refl _ _).alloc (Nat.le_refl _) _
    have HRF := Lib.hid (refused_any A c n N v E W (hr.below hb) hn)
    have HB := Lib.hid hb
    have HW := Lib.hid hW
    obtain ⟨q, hq⟩ : ∃ q, askE N E v = q := ⟨_, rfl⟩
    rw [hq] at HRF HE ⊢
    have hq0 : (q != 0) = true := by rw [bne_iff_ne]; rcases HE.out with h | h <;> omega
    clear hr hn hb hW h0 hw hq
    go_enter Try.func14, Try.ntmps14
    go_wp2_with fail
    rw [← HW.out]
    refine HRF.out.mono ?_
    rintro e w1 ⟨rfl, hb1⟩
    have HB1 := Lib.hid hb1
    clear hb1
    go_wp2_with fail
    go_ret2
    exact ⟨none, 0, 0, rfl, rfl, rdz_nil _ _, HB.out.trans (HB1.out.mono HB.out.size)⟩
set_option maxHeartbeats 4000000 in
theorem pathT (A : Option Addr) (c n : Nat) (N a b : Int) (E : List (Int × Int)) (w : World) (hr : RdP w A E) (hn : n = E.length) :
    Calls Try.prog 16 #[.agg #[.int .i64 N, .slice A n c], .int .i64 a, .int .i64 b] w fun e w' => ∃ (A1 : Option Addr) (n1 c1 : Nat), e = .returned (.tuple #[.slice A1 n1 c1, .int .i64 (pathR N E a b).2]) ∧
      n1 = (pathR N E a b).1.length ∧ RdZ w' A1 (pathR N E a b).1 ∧ Below w.heap.size w w' := by
  have HE : ∀ v, askE N E v ≠ 0 → Hid (askE N E v = 2 ∨ askE N E v = 20) := fun v h0 => by
    rcases askE_cases N v E with h | h | h
    · exact absurd h h0
    · exact .inl h
    · exact .inr h
  obtain ⟨W, hW⟩ : ∃ W, W = w.alloc (.cells #[.int .i64 N, .slice A n c] 24) := ⟨_, rfl⟩
  have hbW : Below w.heap.size w W := by rw [hW]; exact (Below.refl _ _).alloc (Nat.le_refl _) _
  have hWS : w.heap.size < W.heap.size := by rw [hW]; simp
  obtain ⟨i0, i1, _, _⟩ := cells_two (w := W) (by rw [hW]; exact heap_alloc_new w _)
  have HJ : Hid (∀ w', Below W.heap.size W w' → w'.cell? ⟨w.heap.size, 0, none⟩ = some (.int .i64 N) ∧ w'.cell? ⟨w.heap.size, 1, none⟩ = some (.slice A n c)) := fun w' hb =>
    ⟨by rw [hb.cell (by show w.heap.size < _; omega)]; exact i0, by rw [hb.cell (by show w.heap.size < _; omega)]; exact i1⟩
  by_cases h0 : askE N E a = 0
  · by_cases h1 : askE N E b = 0
    · obtain ⟨m, u, rfl, rfl, hu, hg⟩ := askE_zero h0
      obtain ⟨m2, x, e1, rfl, hx, _⟩ := askE_zero h1
      have hm : m = m2 := by omega
      subst hm
      refine (path_any A c n m u x E w hr hn hg hu hx).mono ?_
      rintro e w' ⟨hb, hp⟩
      rcases hp with ⟨hneg, rfl⟩ | ⟨D, g, o, l, hD, hl, hll, _, hown, rfl⟩
      · have hw : pathR (m : Int) E (u : Int) (x : Int) = ([], 60) := by
          unfold pathR
          rw [if_pos h0, if_pos h1]
          simp only [Int.toNat_natCast]
          rw [if_pos hneg]
        rw [hw]
        exact ⟨none, 0, 0, rfl, rfl, rdz_nil _ _, hb⟩
      · have hw : pathR (m : Int) E (u : Int) (x : Int) = (l.map fun (x : Nat) => (x : Int), 0) := by
          unfold pathR
          rw [if_pos h0, if_pos h1]
          simp only [Int.toNat_natCast]
          rw [if_neg (by rw [hD]; omega), hD, Int.toNat_natCast, ← hl]
        rw [hw]
        exact ⟨_, _, _, rfl, by simp, hown.rd, hb⟩
    · have hw : pathR N E a b = ([], askE N E b) := by unfold pathR; rw [if_pos h0, if_neg h1]
      rw [hw]
      have HEB := HE b h1
      have HR := Lib.hid (hr.below hbW)
      have HN := Lib.hid hn
      have HB := Lib.hid hbW
      have HW := Lib.hid hW
      have HRA := Lib.hid (refused_any A c n N a E W HR.out hn)
      have HRB := Lib.hid (fun w' (h : Below W.heap.size W w') => refused_any A c n N b E w' (HR.out.below h) hn)
      rw [h0] at HRA
      obtain ⟨q, hq⟩ : ∃ q, askE N E b = q := ⟨_, rfl⟩
      rw [hq] at HRB HEB ⊢
      have hq0 : (q != 0) = true := by rw [bne_iff_ne]; rcases HEB.out with h | h <;> omega
      clear hr hn hbW hW h0 h1 hw hq HE
      go_enter Try.func16, Try.ntmps16
      go_wp2_with fail
      rw [← HW.out]
      refine HRA.out.mono ?_
      rintro e w1 ⟨rfl, hb1⟩
      have HB1 := Lib.hid hb1
      clear hb1 i0 i1
      obtain ⟨j0, j1⟩ := HJ.out w1 HB1.out
      go_wp2_with fail
      refine (HRB.out w1 HB1.out).mono ?_
      rintro e w2 ⟨rfl, hb2⟩
      have HB2 := Lib.hid (next_below HB1.out hb2)
      clear hb2 j0 j1
      go_wp2_with fail
      go_ret2
      exact ⟨none, 0, 0, rfl, rfl, rdz_nil _ _, HB.out.trans (HB2.out.mono HB.out.size)⟩
  · have hw : pathR N E a b = ([], askE N E a) := by unfold pathR; rw [if_neg h0]
    rw [hw]
    have HEA := HE a h0
    have HB := Lib.hid hbW
    have HW := Lib.hid hW
    have HRA := Lib.hid (refused_any A c n N a E W (hr.below hbW) hn)
    obtain ⟨q, hq⟩ : ∃ q, askE N E a = q := ⟨_, rfl⟩
    rw [hq] at HRA HEA ⊢
    have hq0 : (q != 0) = true := by rw [bne_iff_ne]; rcases HEA.out with h | h <;> omega
    clear hr hn hbW hW h0 hw hq HE i0 i1
    go_enter Try.func16, Try.ntmps16
    go_wp2_with fail
    rw [← HW.out]
    refine HRA.out.mono ?_
    rintro e w1 ⟨rfl, hb1⟩
    have HB1 := Lib.hid hb1
    clear hb1
    go_wp2_with fail
    go_ret2
    exact ⟨none, 0, 0, rfl, rfl, rdz_nil _ _, HB.out.trans (HB1.out.mono HB.out.size)⟩
set_option maxHeartbeats 4000000 in
theorem partsT (A : Option Addr) (c n : Nat) (N : Int) (E : List (Int × Int)) (w : World) (hr : RdP w A E) (hn : n = E.length) :
    Calls Try.prog 20 #[.agg #[.int .i64 N, .slice A n c]] w fun e w' => ∃ (A1 : Option Addr) (n1 c1 : Nat), e = .returned (.slice A1 n1 c1) ∧ n1 = (partsR N E).length ∧ RdR w' A1 (partsR N E) ∧ Below w.heap.size w w' := by
  cases hg : rightG N E with
  | true =>
    obtain ⟨m, rfl⟩ := Int.eq_ofNat_of_zero_le (rightG_bounds hg).1
    refine (parts_any A c n m E w hr hn hg).mono ?_
    rintro e w' ⟨B, k, cap, us, rfl, hk, hp, hb⟩
    have hw : partsR (m : Int) E = (prun (tabG m E) m m).2 := by
      unfold partsR
      rw [if_pos hg]
      simp only [Int.toNat_natCast]
    rw [hw]
    exact ⟨B, k, cap, rfl, hk, hp.rd, hb⟩
  | false =>
    have hw : partsR N E = [] := by unfold partsR; rw [if_neg (by rw [hg]; decide)]
    rw [hw]
    obtain ⟨W, hW⟩ : ∃ W, W = w.alloc (.cells #[.int .i64 N, .slice A n c] 24) := ⟨_, rfl⟩
    have hb : Below w.heap.size w W := by rw [hW]; exact (Below.refl _ _).alloc (Nat.le_refl _) _
    have HRF := Lib.hid (right_any A c n N E W (hr.below hb) hn)
    have HB := Lib.hid hb
    have HW := Lib.hid hW
    have HG := Lib.hid hg
    clear hr hn hb hW hw hg
    go_enter Try.func20, Try.ntmps20
    go_wp2_with fail
    rw [← HW.out]
    refine HRF.out.mono ?_
    rintro e w1 ⟨rfl, hb1⟩
    rw [HG.out]
    have HB1 := Lib.hid hb1
    clear hb1
    go_wp2_with fail
    go_ret
    exact ⟨none, 0, 0, rfl, rfl, (fun j xs h => by simp at h), HB.out.trans (HB1.out.mono HB.out.size)⟩
end Go.Proofs.Ytpkiogcedfmodaa
