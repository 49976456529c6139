/- The walk of RingBytes. -/
import Derived.Test.YtmnkghbbcjnlfaaR12
namespace Go.Proofs.Ytmnkghbbcjnlfaa
open Go.RowKit

theorem gW_small {L : List (List Nat)} (h : gW L = false) : L.length ≤ 60 ∧ ∀ xs ∈ L, xs.length ≤ 60 := by
  unfold gW at h
  rw [Bool.or_eq_false_iff] at h
  refine ⟨by have := of_decide_eq_false h.2; omega, fun xs hx => ?_⟩
  have := List.any_eq_false.1 h.1 xs hx
  simp at this
  exact this
set_option maxRecDepth 100000 in
set_option maxHeartbeats 4000000 in
theorem bytes_main (A0 A1 : Option Addr) (c0 c1 : Nat) (L0 L1 : List (List Nat)) (k : Int) (w : World) (r0 : RdW w A0 L0) (r1 : RdW w A1 L1) (o0 : OkW L0) (o1 : OkW L1) (g0 : gW L0 = false) (g1 : gW L1 = false) (hk : -32768 ≤ k ∧ k < 32768) :
    Calls Try.prog 5 #[.slice A0 L0.length c0, .slice A1 L1.length c1, .int .i16 k] w fun e w' => e = .returned (.bool true) ∧ Below w.heap.size w w' := by
  obtain ⟨s0, t0⟩ := gW_small g0
  obtain ⟨s1, t1⟩ := gW_small g1
  have G0 := great_any A0 c0 L0 w r0 (by omega)
  have G1 := great_any A1 c1 L1 w r1 (by omega)
  rw [g0] at G0
  rw [g1] at G1
  have u0 : ∀ xs ∈ L0, xs.length ≤ 1000000 := fun xs h => by have := t0 xs h; omega
  have u1 : ∀ xs ∈ turnOf L0 k, xs.length ≤ 1000000 := fun xs h => u0 xs (turnN_mem h)
  have u2 : ∀ xs ∈ L0.reverse, xs.length ≤ 1000000 := fun xs h => u0 xs (List.mem_reverse.1 h)
  have S01 := Lib.hid (same_any A0 A1 c0 c1 L0.length L1.length L0 L1 w r0 r1 o0 o1 (by omega) rfl rfl)
  have D01 : Hid (∀ w', Below w.heap.size w w' → Calls Try.prog 16 #[.slice A0 L0.length c0, .slice A1 L1.length c1] w' fun e w'' => e = .returned (.int .i64 (cmpW L0 L1)) ∧ w' = w'') :=
    fun w' h => ringCompare_any A0 A1 c0 c1 _ _ L0 L1 w' (r0.below h) (r1.below h) o0 o1 (by omega) (by omega) rfl rfl
  have D10 : Hid (∀ w', Below w.heap.size w w' → Calls Try.prog 16 #[.slice A1 L1.length c1, .slice A0 L0.length c0] w' fun e w'' => e = .returned (.int .i64 (cmpW L1 L0)) ∧ w' = w'') :=
    fun w' h => ringCompare_any A1 A0 c1 c0 _ _ L1 L0 w' (r1.below h) (r0.below h) o1 o0 (by omega) (by omega) rfl rfl
  have CB0 : Hid (∀ w', Below w.heap.size w w' → Calls Try.prog 19 #[.slice A0 L0.length c0] w' fun e w'' => ∃ g cap, e = .returned (.slice (some ⟨g, 0, none⟩) (bytesW L0).length cap) ∧ RdN w'' (some ⟨g, 0, none⟩) (bytesW L0) ∧ Below w'.heap.size w' w'') :=
    fun w' h => bytes_any A0 c0 _ L0 w' (r0.below h) t0 rfl s0
  have CB1 : Hid (∀ w', Below w.heap.size w w' → Calls Try.prog 19 #[.slice A1 L1.length c1] w' fun e w'' => ∃ g cap, e = .returned (.slice (some ⟨g, 0, none⟩) (bytesW L1).length cap) ∧ RdN w'' (some ⟨g, 0, none⟩) (bytesW L1) ∧ Below w'.heap.size w' w'') :=
    fun w' h => bytes_any A1 c1 _ L1 w' (r1.below h) t1 rfl s1
  have CT1 : Hid (∀ w', Below w.heap.size w w' → Calls Try.prog 12 #[.slice A0 L0.length c0, .int .i64 k] w' fun e w'' => ∃ A' c', e = .returned (.slice A' L0.length c') ∧ RdW w'' A' (turnOf L0 k) ∧ Below w'.heap.size w' w'') :=
    fun w' h => turn_all A0 c0 _ k L0 w' (r0.below h) u0 rfl (by omega)
  have CT2 : Hid (∀ A' c' w', RdW w' A' (turnOf L0 k) → Calls Try.prog 12 #[.slice A' L0.length c', .int .i64 (-k)] w' fun e w'' => ∃ A' c', e = .returned (.slice A' L0.length c') ∧ RdW w'' A' L0 ∧ Below w'.heap.size w' w'') := by
    intro A' c' w' h
    have := turn_all A' c' L0.length (-k) (turnOf L0 k) w' h u1 (turnOf_length L0 k).symm (by omega)
    rw [turn_back] at this
    exact this
  have CS : Hid (∀ A' c' w', RdW w' A' L0 → Below w.heap.size w w' → Calls Try.prog 11 #[.slice A' L0.length c', .slice A0 L0.length c0] w' fun e w'' => e = .returned (.bool true) ∧ Below w'.heap.size w' w'') := by
    intro A' c' w' h hb
    have := same_any A' A0 c' c0 L0.length L0.length L0 L0 w' h (r0.below hb) o0 o0 (by omega) rfl rfl
    rw [decide_eq_true rfl] at this
    exact this
  have CF1 : Hid (∀ w', Below w.heap.size w w' → Calls Try.prog 14 #[.slice A0 L0.length c0] w' fun e w'' => ∃ A' c', e = .returned (.slice A' L0.length c') ∧ RdW w'' A' L0.reverse ∧ Below w'.heap.size w' w'') :=
    fun w' h => flip_all A0 c0 _ L0 w' (r0.below h) u0 rfl (by omega)
  have CF2 : Hid (∀ A' c' w', RdW w' A' L0.reverse → Calls Try.prog 14 #[.slice A' L0.length c'] w' fun e w'' => ∃ A' c', e = .returned (.slice A' L0.length c') ∧ RdW w'' A' L0 ∧ Below w'.heap.size w' w'') := by
    intro A' c' w' h
    have := flip_all A' c' L0.length L0.reverse w' h u2 (by simp) (by omega)
    rw [List.reverse_reverse] at this
    exact this
  have hEq : ((strN (bytesW L0)).toList == (strN (bytesW L1)).toList) = decide (L0 = L1) := by
    rw [strN_beq (bytesW_lt o0 t0 s0) (bytesW_lt o1 t1 s1)]
    by_cases h : L0 = L1
    · subst h; simp
    · rw [decide_eq_false h, decide_eq_false (fun e => h (bytesW_inj e))]
  have hq : (cmpW L0 L1 == 0) = decide (L0 = L1) := by
    by_cases h : L0 = L1
    · subst h
      rw [cmpW_stands.same]
      simp
    · rw [decide_eq_false h]
      have : cmpW L0 L1 ≠ 0 := fun e => h (cmpW_stands.only _ _ e)
      simpa using this
  have hfl := cmpW_stands.flip L0 L1
  have hrg := cmpW_stands.rng L0 L1
  have hneg : IntKind.i64.wrap (-(cmpW L1 L0)) = cmpW L0 L1 := by
    rw [hfl, Int.neg_neg]
    exact IntWalk.i64_in _ (by omega)
  have hk1 : IntKind.i64.wrap k = k := IntWalk.i64_in _ (by omega)
  have hcv : ∀ (w' : World) (A : Option Addr) (c n : Nat) (xs : List Nat), n = xs.length → RdN w' A xs → (convert 33 9 (.slice A n c)).run Try.prog w' = .ok (.string (strN xs)) w' :=
    fun w' A c n xs hn hr => conv_rd (P := Try.prog) w' 33 5 Try.underlying33 Try.underlying5 A c n xs hn hr 9 Try.underlying9
  have HCV := Lib.hid hcv
  obtain ⟨mk, hmk⟩ : ∃ mk, mk = -k := ⟨_, rfl⟩
  rw [← hmk] at CT2
  have hk2 : IntKind.i64.wrap (-k) = mk := by rw [hmk]; exact IntWalk.i64_in _ (by omega)
  clear r0 r1 o0 o1 g0 g1 u0 u1 u2 t0 t1 hfl hrg hcv hmk
  generalize cmpW L0 L1 = q at *
  generalize cmpW L1 L0 = d at *
  generalize decide (L0 = L1) = sm at *
  generalize hX : bytesW L0 = X at *
  generalize hY : bytesW L1 = Y at *
  clear hX hY
  generalize turnOf L0 k = T1 at *
  generalize L0.reverse = F1 at *
  generalize L0.length = n0 at *
  generalize L1.length = n1 at *
  have E1 := Lib.hid hEq
  have E2 := Lib.hid hq
  have E3 := Lib.hid hneg
  have E4 := Lib.hid hk1
  have E5 := Lib.hid hk2
  clear hEq hq hneg hk1 hk2
  have HG0 := Lib.hid G0
  have HG1 := Lib.hid G1
  clear G0 G1
  have CB0 : Hid (∀ w', (Below w.heap.size w w' ∧ True) → _) := fun w' h => CB0.out w' h.1
  have CB1 : Hid (∀ w', (Below w.heap.size w w' ∧ True) → _) := fun w' h => CB1.out w' h.1
  have CT1 : Hid (∀ w', (Below w.heap.size w w' ∧ True) → _) := fun w' h => CT1.out w' h.1
  have CF1 : Hid (∀ w', (Below w.heap.size w w' ∧ True) → _) := fun w' h => CF1.out w' h.1
  cases sm
  all_goals
    go_enter Try.func5, Try.ntmps5
    go_wp2_with fail
    refine HG0.out.mono ?_
    rintro e w1 ⟨rfl, rfl⟩
    go_wp2_with fail
    refine HG1.out.mono ?_
    rintro e w1 ⟨rfl, rfl⟩
    go_wp2_with fail
    refine S01.out.mono ?_
    rintro e w1 ⟨rfl, hb1⟩
    go_wp2_with fail
    refine (D01.out _ hb1).mono ?_
    rintro e w2 ⟨rfl, rfl⟩
    go_wp2_with fail
    refine (D10.out _ hb1).mono ?_
    rintro e w2 ⟨rfl, rfl⟩
    go_upto_region 5 with fail
    have hB : Below w.heap.size w w1.drew := hb1.drew
    have hEq := E1.out
    have hq := E2.out
    have hneg := E3.out
    have hk1 := E4.out
    have hk2 := E5.out
    clear E1 E2 E3 E4 E5
    clear hb1 S01 D01 D10 HG0 HG1
    have hS : Below w.heap.size w w1.drew ∧ True := ⟨hB, trivial⟩
    clear hB
    go_region_held3 (fun w' => Below w.heap.size w w' ∧ True)
      (first | exact hS)
      (first
      | (go_at_call 19; (with_reducible refine (CB0.out _ (by assumption)).mono ?_); rintro e wA ⟨gA, cA, rfl, hRA, hbA⟩; have hS := (show _ ∧ True from ⟨next_below hS.1 hbA, trivial⟩); have hvA := HCV.out wA (some ⟨gA, 0, none⟩) cA _ X rfl hRA)
      | (go_at_call 19; (with_reducible refine (CB1.out _ (by assumption)).mono ?_); rintro e wC ⟨gC, cC, rfl, hRC, hbC⟩; have hS := (show _ ∧ True from ⟨next_below hS.1 hbC, trivial⟩); have hvC := HCV.out wC (some ⟨gC, 0, none⟩) cC _ Y rfl hRC; have hvA2 := HCV.out wC (some ⟨gA, 0, none⟩) cA _ X rfl (hRA.below hbC))
      | (go_at_call 12; (with_reducible refine (CT1.out _ (by assumption)).mono ?_); rintro e wT ⟨aT, cT, rfl, hRT, hbT⟩; have hS := (show _ ∧ True from ⟨next_below hS.1 hbT, trivial⟩))
      | (go_at_call 12; (with_reducible refine (CT2.out _ _ _ (by assumption)).mono ?_); rintro e wU ⟨aU, cU, rfl, hRU, hbU⟩; have hS := (show _ ∧ True from ⟨next_below hS.1 hbU, trivial⟩))
      | (go_at_call 11; (with_reducible refine (CS.out _ _ _ (by assumption) hS.1).mono ?_); rintro e wS ⟨rfl, hbS⟩; have hS := (show _ ∧ True from ⟨next_below hS.1 hbS, trivial⟩))
      | (go_at_call 14; (with_reducible refine (CF1.out _ (by assumption)).mono ?_); rintro e wF ⟨aF, cF, rfl, hRF, hbF⟩; have hS := (show _ ∧ True from ⟨next_below hS.1 hbF, trivial⟩))
      | (go_at_call 14; (with_reducible refine (CF2.out _ _ _ (by assumption)).mono ?_); rintro e wH ⟨aH, cH, rfl, hRH, hbH⟩; have hS := (show _ ∧ True from ⟨next_below hS.1 hbH, trivial⟩))
      | (go_at_call 8; refine (awake_any _).mono ?_; rintro e wW ⟨rfl, hbW⟩; have hS := (show _ ∧ True from ⟨next_below hS.1 hbW, trivial⟩)))
    all_goals go_wp2_with fail
    all_goals go_ret
    all_goals exact ⟨rfl, hS.1⟩

theorem bytes_walk (v0 v1 : Value) (k : Int) (w : World) (h0 : OkWords w v0) (h1 : OkWords w v1) (hk : -32768 ≤ k ∧ k < 32768) :
    Calls Try.prog 5 #[v0, v1, .int .i16 k] w fun e w' => e = .returned (.bool true) ∧ Below w.heap.size w w' := by
  obtain ⟨A0, c0, L0, rfl, o0, r0, l0, m0, _⟩ := h0
  obtain ⟨A1, c1, L1, rfl, o1, r1, l1, m1, _⟩ := h1
  have G0 := Lib.hid (great_any A0 c0 L0 w r0 (by omega))
  have G1 := Lib.hid (great_any A1 c1 L1 w r1 (by omega))
  cases b0 : gW L0 <;> cases b1 : gW L1
  case false.false => exact bytes_main A0 A1 c0 c1 L0 L1 k w r0 r1 o0 o1 b0 b1 hk
  all_goals
    rw [b0] at G0
    rw [b1] at G1
    clear b0 b1 r0 r1 o0 o1
    generalize L0.length = n0 at *
    generalize L1.length = n1 at *
    go_enter Try.func5, Try.ntmps5
    go_wp2_with (first
      | (go_at_call 7; (first | (with_reducible refine G0.out.mono ?_) | (with_reducible refine G1.out.mono ?_)); rintro e wx ⟨rfl, rfl⟩)
      | (go_at_call 8; refine (awake_any _).mono ?_; rintro e wx ⟨rfl, hb⟩))
    go_ret
    exact ⟨rfl, hb⟩
end Go.Proofs.Ytmnkghbbcjnlfaa
