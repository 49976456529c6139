/- The walk of RingBytes. -/
import Derived.Test.YtmnkghbbcjnlfaaR12
namespace Go.Proofs.Ytmnkghbbcjnlfaa
open Go.RowKit

theorem gW_small {L : List (List Nat)} (h : gW L = false) : L.length ≤ 60 ∧ ∀ xs ∈ L, xs.length ≤ 60 := by
  unfold gW at h
  rw [Bool.or_eq_false_iff] at h
  refine ⟨by have := of_decide_eq_false h.2; omega, fun xs hx => ?_⟩
  have := List.any_eq_false.1 h.1 xs hx
  simp at this
  exact this
theorem held_mono {P : Program} {md : Region.Mode} {ops : Array Oper} {Q : Exit → Act → World → Prop} {S S' : World → Prop} (h : ∀ w, S' w → S w) :
    ∀ (fuel : Nat) (listed : Array Bool) (a : Act) (w : World), wpAnyH P md ops Q S' fuel listed a w → wpAnyH P md ops Q S fuel listed a w
  | 0, _, _, _, hh => hh
  | fuel + 1, _, _, _, hh => ⟨hh.1, fun i hi => wpOp_mono (fun a' w' h' => ⟨h _ h'.1, held_mono h fuel _ a' w' h'.2⟩) (hh.2 i hi)⟩
set_option maxRecDepth 100000 in
set_option maxHeartbeats 4000000 in
theorem bytes_main (A0 A1 : Option Addr) (c0 c1 : Nat) (L0 L1 : List (List Nat)) (k : Int) (w : World) (r0 : RdW w A0 L0) (r1 : RdW w A1 L1) (o0 : OkW L0) (o1 : OkW L1) (g0 : gW L0 = false) (g1 : gW L1 = false) (hk : -32768 ≤ k ∧ k < 32768) :
    Calls Try.prog 5 #[.slice A0 L0.length c0, .slice A1 L1.length c1, .int .i16 k] w fun e w' => e = .returned (.bool true) ∧ Below w.heap.size w w' := by
  obtain ⟨s0, t0⟩ := gW_small g0
  obtain ⟨s1, t1⟩ := gW_small g1
  have G0 := great_any A0 c0 L0 w r0 (by omega)
  have G1 := great_any A1 c1 L1 w r1 (by omega)
  rw [g0] at G0
  rw [g1] at G1
  have u0 : ∀ xs ∈ L0, xs.length ≤ 1000000 := fun xs h => by have := t0 xs h; omega
  have u1 : ∀ xs ∈ turnOf L0 k, xs.length ≤ 1000000 := fun xs h => u0 xs (turnN_mem h)
  have u2 : ∀ xs ∈ L0.reverse, xs.length ≤ 1000000 := fun xs h => u0 xs (List.mem_reverse.1 h)
  have S01 := Lib.hid (same_any A0 A1 c0 c1 L0.length L1.length L0 L1 w r0 r1 o0 o1 (by omega) rfl rfl)
  have D01 : Hid (∀ w', Below w.heap.size w w' → Calls Try.prog 16 #[.slice A0 L0.length c0, .slice A1 L1.length c1] w' fun e w'' => e = .returned (.int .i64 (cmpW L0 L1)) ∧ w' = w'') :=
    fun w' h => ringCompare_any A0 A1 c0 c1 _ _ L0 L1 w' (r0.below h) (r1.below h) o0 o1 (by omega) (by omega) rfl rfl
  have D10 : Hid (∀ w', Below w.heap.size w w' → Calls Try.prog 16 #[.slice A1 L1.length c1, .slice A0 L0.length c0] w' fun e w'' => e = .returned (.int .i64 (cmpW L1 L0)) ∧ w' = w'') :=
    fun w' h => ringCompare_any A1 A0 c1 c0 _ _ L1 L0 w' (r1.below h) (r0.below h) o1 o0 (by omega) (by omega) rfl rfl
  have CB0 : Hid (∀ w', Below w.heap.size w w' → Calls Try.prog 19 #[.slice A0 L0.length c0] w' fun e w'' => ∃ g cap, e = .returned (.slice (some ⟨g, 0, none⟩) (bytesW L0).length cap) ∧ RdN w'' (some ⟨g, 0, none⟩) (bytesW L0) ∧ Below w'.heap.size w' w'') :=
    fun w' h => bytes_any A0 c0 _ L0 w' (r0.below h) t0 rfl s0
  have CB1 : Hid (∀ w', Below w.heap.size w w' → Calls Try.prog 19 #[.slice A1 L1.length c1] w' fun e w'' => ∃ g cap, e = .returned (.slice (some ⟨g, 0, none⟩) (bytesW L1).length cap) ∧ RdN w'' (some ⟨g, 0, none⟩) (bytesW L1) ∧ Below w'.heap.size w' w'') :=
    fun w' h => bytes_any A1 c1 _ L1 w' (r1.below h) t1 rfl s1
  have CT1 : Hid (∀ w', Below w.heap.size w w' → Calls Try.prog 12 #[.slice A0 L0.length c0, .int .i64 k] w' fun e w'' => ∃ A' c', e = .returned (.slice A' L0.length c') ∧ RdW w'' A' (turnOf L0 k) ∧ Below w'.heap.size w' w'') :=
    fun w' h => turn_all A0 c0 _ k L0 w' (r0.below h) u0 rfl (by omega)
  have CT2 : Hid (∀ A' c' w', RdW w' A' (turnOf L0 k) → Calls Try.prog 12 #[.slice A' L0.length c', .int .i64 (-k)] w' fun e w'' => ∃ A' c', e = .returned (.slice A' L0.length c') ∧ RdW w'' A' L0 ∧ Below w'.heap.size w' w'') := by
    intro A' c' w' h
    have := turn_all A' c' L0.length (-k) (turnOf L0 k) w' h u1 (turnOf_length L0 k).symm (by omega)
    rw [turn_back] at this
    exact this
  have CS : Hid (∀ A' c' w', RdW w' A' L0 → Below w.heap.size w w' → Calls Try.prog 11 #[.slice A' L0.length c', .slice A0 L0.length c0] w' fun e w'' => e = .returned (.bool true) ∧ Below w'.heap.size w' w'') := by
    intro A' c' w' h hb
    have := same_any A' A0 c' c0 L0.length L0.length L0 L0 w' h (r0.below hb) o0 o0 (by omega) rfl rfl
    rw [decide_eq_true rfl] at this
    exact this
  have CF1 : Hid (∀ w', Below w.heap.size w w' → Calls Try.prog 14 #[.slice A0 L0.length c0] w' fun e w'' => ∃ A' c', e = .returned (.slice A' L0.length c') ∧ RdW w'' A' L0.reverse ∧ Below w'.heap.size w' w'') :=
    fun w' h => flip_all A0 c0 _ L0 w' (r0.below h) u0 rfl (by omega)
  have CF2 : Hid (∀ A' c' w', RdW w' A' L0.reverse → Calls Try.prog 14 #[.slice A' L0.length c'] w' fun e w'' => ∃ A' c', e = .returned (.slice A' L0.length c') ∧ RdW w'' A' L0 ∧ Below w'.heap.size w' w'') := by
    intro A' c' w' h
    have := flip_all A' c' L0.length L0.reverse w' h u2 (by simp) (by omega)
    rw [List.reverse_reverse] at this
    exact this
  have hEq : ((strN (bytesW L0)).toList == (strN (bytesW L1)).toList) = decide (L0 = L1) := by
    rw [strN_beq (bytesW_lt o0 t0 s0) (bytesW_lt o1 t1 s1)]
    by_cases h : L0 = L1
    · subst h; simp
    · rw [decide_eq_false h, decide_eq_false (fun e => h (bytesW_inj e))]
  have hq : (cmpW L0 L1 == 0) = decide (L0 = L1) := by
    by_cases h : L0 = L1
    · subst h
      rw [cmpW_stands.same]
      simp
    · rw [decide_eq_false h]
      have : cmpW L0 L1 ≠ 0 := fun e => h (cmpW_stands.only _ _ e)
      simpa using this
  have hfl := cmpW_stands.flip L0 L1
  have hrg := cmpW_stands.rng L0 L1
  have hneg : IntKind.i64.wrap (-(cmpW L1 L0)) = cmpW L0 L1 := by
    rw [hfl, Int.neg_neg]
    exact IntWalk.i64_in _ (by omega)
  have hk1 : IntKind.i64.wrap k = k := IntWalk.i64_in _ (by omega)
  have hcv : ∀ (w' : World) (A : Option Addr) (c n : Nat) (xs : List Nat), n = xs.length → RdN w' A xs → (convert 33 9 (.slice A n c)).run Try.prog w' = .ok (.string (strN xs)) w' :=
    fun w' A c n xs hn hr => conv_rd (P := Try.prog) w' 33 5 Try.underlying33 Try.underlying5 A c n xs hn hr 9 Try.underlying9
  have HCV := Lib.hid hcv
  obtain ⟨mk, hmk⟩ : ∃ mk, mk = -k := ⟨_, rfl⟩
  rw [← hmk] at CT2
  have hk2 : IntKind.i64.wrap (-k) = mk := by rw [hmk]; exact IntWalk.i64_in _ (by omega)
  clear r0 r1 o0 o1 g0 g1 u0 u1 u2 t0 t1 hfl hrg hcv hmk
  generalize cmpW L0 L1 = q at *
  generalize cmpW L1 L0 = d at *
  generalize decide (L0 = L1) = sm at *
  generalize hX : bytesW L0 = X at *
  generalize hY : bytesW L1 = Y at *
  clear hX hY
  generalize turnOf L0 k = T1 at *
  generalize L0.reverse = F1 at *
  generalize L0.length = n0 at *
  generalize L1.length = n1 at *
  have E1 := Lib.hid hEq
  have E2 := Lib.hid hq
  have E3 := Lib.hid hneg
  have E4 := Lib.hid hk1
  have E5 := Lib.hid hk2
  clear hEq hq hneg hk1 hk2
  have HG0 := Lib.hid G0
  have HG1 := Lib.hid G1
  clear G0 G1
  go_enter Try.func5, Try.ntmps5
  go_wp2_with fail
  refine HG0.out.mono ?_
  rintro e w1 ⟨rfl, rfl⟩
  go_wp2_with fail
  refine HG1.out.mono ?_
  rintro e w1 ⟨rfl, rfl⟩
  go_wp2_with fail
  refine S01.out.mono ?_
  rintro e w1 ⟨rfl, hb1⟩
  go_wp2_with fail
  refine (D01.out _ hb1).mono ?_
  rintro e w2 ⟨rfl, rfl⟩
  go_wp2_with fail
  refine (D10.out _ hb1).mono ?_
  rintro e w2 ⟨rfl, rfl⟩
  go_upto_region 5 with fail
  have hB : Below w.heap.size w w1.drew := hb1.drew
  have hEq := E1.out
  have hq := E2.out
  have hneg := E3.out
  have hk1 := E4.out
  have hk2 := E5.out
  clear E1 E2 E3 E4 E5
  clear hb1 S01 D01 D10 HG0 HG1
  refine wp_region_held_drew (S := fun w' => Below w.heap.size w w') (by kernel_rfl) hB (fun hS => ?_)
  refine wpAnyH_take (i := 0) (v := ?_) rfl (by kernel_rfl) (by kernel_rfl) (by kernel_rfl) (fun _ _ _ h => h) (Or.inl ⟨by rfl, ?_⟩) hS ?_
  rotate_left
  · intro wz hSw; go_simp; (try with_reducible rfl)
  try simp only [List.getElem_toArray, List.getElem_cons_zero, List.getElem_cons_succ, Act.put, List.setIfInBounds_toArray, List.set_cons_zero, List.set_cons_succ]
  refine wpAnyH_take (i := 3) (v := ?_) rfl (by kernel_rfl) (by kernel_rfl) (by kernel_rfl) (fun _ _ _ h => h) (Or.inl ⟨by rfl, ?_⟩) hS ?_
  rotate_left
  · intro wz hSw; go_simp; (try with_reducible rfl)
  try simp only [List.getElem_toArray, List.getElem_cons_zero, List.getElem_cons_succ, Act.put, List.setIfInBounds_toArray, List.set_cons_zero, List.set_cons_succ]
  refine wpAnyH_take (i := 7) (v := ?_) rfl (by kernel_rfl) (by kernel_rfl) (by kernel_rfl) (fun _ _ _ h => h) (Or.inl ⟨by rfl, ?_⟩) hS ?_
  rotate_left
  · intro wz hSw; go_simp; (try with_reducible rfl)
  try simp only [List.getElem_toArray, List.getElem_cons_zero, List.getElem_cons_succ, Act.put, List.setIfInBounds_toArray, List.set_cons_zero, List.set_cons_succ]
  refine wpAnyH_ready (rs := [1]) (by kernel_rfl) (by simp) (AllReadyH.cons rfl (fun K hK => ?_) AllReadyH.nil)
  go_simp
  go_at_call 19
  refine (CB0.out _ hS).mono ?_
  rintro e wA ⟨gA, cA, rfl, hRA, hbA⟩
  go_wp2_with fail
  have hS := next_below hS hbA
  refine hK.out _ _ hS (fun _ => ?_)
  clear hK K
  try simp only [List.getElem_toArray, List.getElem_cons_zero, List.getElem_cons_succ, Act.put, List.setIfInBounds_toArray, List.set_cons_zero, List.set_cons_succ]
  refine held_mono (S' := fun w' => Below w.heap.size w w' ∧ RdN w' (some ⟨gA, 0, none⟩) X) (fun _ h => h.1) _ _ _ _ ?_
  replace hS : Below w.heap.size w wA ∧ RdN wA (some ⟨gA, 0, none⟩) X := ⟨hS, hRA⟩
  refine wpAnyH_take (i := 2) (v := ?_) rfl (by kernel_rfl) (by kernel_rfl) (by kernel_rfl) (fun _ _ _ h => h) (Or.inl ⟨by rfl, ?_⟩) hS ?_
  rotate_left
  · intro wz hSw; have hvA := HCV.out wz (some ⟨gA, 0, none⟩) cA _ X rfl hSw.2; go_simp; (try with_reducible rfl)
  try simp only [List.getElem_toArray, List.getElem_cons_zero, List.getElem_cons_succ, Act.put, List.setIfInBounds_toArray, List.set_cons_zero, List.set_cons_succ]
  refine wpAnyH_ready (rs := [4]) (by kernel_rfl) (by simp) (AllReadyH.cons rfl (fun K hK => ?_) AllReadyH.nil)
  go_simp
  go_at_call 19
  refine (CB1.out _ hS.1).mono ?_
  rintro e wC ⟨gC, cC, rfl, hRC, hbC⟩
  go_wp2_with fail
  have hS := (show _ ∧ _ from ⟨next_below hS.1 hbC, hS.2.below hbC⟩)
  refine hK.out _ _ hS (fun _ => ?_)
  clear hK K
  try simp only [List.getElem_toArray, List.getElem_cons_zero, List.getElem_cons_succ, Act.put, List.setIfInBounds_toArray, List.set_cons_zero, List.set_cons_succ]
  refine held_mono (S' := fun w' => Below w.heap.size w w' ∧ RdN w' (some ⟨gC, 0, none⟩) Y ∧ RdN w' (some ⟨gA, 0, none⟩) X) (fun _ h => ⟨h.1, h.2.2⟩) _ _ _ _ ?_
  replace hS : Below w.heap.size w wC ∧ RdN wC (some ⟨gC, 0, none⟩) Y ∧ RdN wC (some ⟨gA, 0, none⟩) X := ⟨hS.1, hRC, hS.2⟩
  refine wpAnyH_take (i := 5) (v := ?_) rfl (by kernel_rfl) (by kernel_rfl) (by kernel_rfl) (fun _ _ _ h => h) (Or.inl ⟨by rfl, ?_⟩) hS ?_
  rotate_left
  · intro wz hSw; have hvC := HCV.out wz (some ⟨gC, 0, none⟩) cC _ Y rfl hSw.2.1; go_simp; (try with_reducible rfl)
  try simp only [List.getElem_toArray, List.getElem_cons_zero, List.getElem_cons_succ, Act.put, List.setIfInBounds_toArray, List.set_cons_zero, List.set_cons_succ]
  refine wpAnyH_take (i := 6) (v := ?_) rfl (by kernel_rfl) (by kernel_rfl) (by kernel_rfl) (fun _ _ _ h => h) (Or.inl ⟨by rfl, ?_⟩) hS ?_
  rotate_left
  · intro wz hSw; go_simp; (try with_reducible rfl)
  try simp only [List.getElem_toArray, List.getElem_cons_zero, List.getElem_cons_succ, Act.put, List.setIfInBounds_toArray, List.set_cons_zero, List.set_cons_succ]
  refine wpAnyH_take (i := 8) (v := ?_) rfl (by kernel_rfl) (by kernel_rfl) (by kernel_rfl) (fun _ _ _ h => h) (Or.inl ⟨by rfl, ?_⟩) hS ?_
  rotate_left
  · intro wz hSw; go_simp; (try with_reducible rfl)
  try simp only [List.getElem_toArray, List.getElem_cons_zero, List.getElem_cons_succ, Act.put, List.setIfInBounds_toArray, List.set_cons_zero, List.set_cons_succ]
  refine wpAnyH_take (i := 9) (v := ?_) rfl (by kernel_rfl) (by kernel_rfl) (by kernel_rfl) (fun _ _ _ h => h) (Or.inl ⟨by rfl, ?_⟩) hS ?_
  rotate_left
  · intro wz hSw; go_simp; (try with_reducible rfl)
  try simp only [List.getElem_toArray, List.getElem_cons_zero, List.getElem_cons_succ, Act.put, List.setIfInBounds_toArray, List.set_cons_zero, List.set_cons_succ]
  refine wpAnyH_take (i := 10) (v := ?_) rfl (by kernel_rfl) (by kernel_rfl) (by kernel_rfl) (fun _ _ _ h => h) (Or.inl ⟨by rfl, ?_⟩) hS ?_
  rotate_left
  · intro wz hSw; go_simp; (try with_reducible rfl)
  try simp only [List.getElem_toArray, List.getElem_cons_zero, List.getElem_cons_succ, Act.put, List.setIfInBounds_toArray, List.set_cons_zero, List.set_cons_succ]
  refine wpAnyH_take (i := 11) (v := ?_) rfl (by kernel_rfl) (by kernel_rfl) (by kernel_rfl) (fun _ _ _ h => h) (Or.inl ⟨by rfl, ?_⟩) hS ?_
  rotate_left
  · intro wz hSw; go_simp; (try with_reducible rfl)
  try simp only [List.getElem_toArray, List.getElem_cons_zero, List.getElem_cons_succ, Act.put, List.setIfInBounds_toArray, List.set_cons_zero, List.set_cons_succ]
  refine wpAnyH_take (i := 12) (v := ?_) rfl (by kernel_rfl) (by kernel_rfl) (by kernel_rfl) (fun _ _ _ h => h) (Or.inl ⟨by rfl, ?_⟩) hS ?_
  rotate_left
  · intro wz hSw; go_simp; (try with_reducible rfl)
  try simp only [List.getElem_toArray, List.getElem_cons_zero, List.getElem_cons_succ, Act.put, List.setIfInBounds_toArray, List.set_cons_zero, List.set_cons_succ]
  refine wpAnyH_take (i := 13) (v := ?_) rfl (by kernel_rfl) (by kernel_rfl) (by kernel_rfl) (fun _ _ _ h => h) (Or.inl ⟨by rfl, ?_⟩) hS ?_
  rotate_left
  · intro wz hSw; go_simp; (try with_reducible rfl)
  try simp only [List.getElem_toArray, List.getElem_cons_zero, List.getElem_cons_succ, Act.put, List.setIfInBounds_toArray, List.set_cons_zero, List.set_cons_succ]
  refine wpAnyH_take (i := 14) (v := ?_) rfl (by kernel_rfl) (by kernel_rfl) (by kernel_rfl) (fun _ _ _ h => h) (Or.inl ⟨by rfl, ?_⟩) hS ?_
  rotate_left
  · intro wz hSw; go_simp; (try with_reducible rfl)
  try simp only [List.getElem_toArray, List.getElem_cons_zero, List.getElem_cons_succ, Act.put, List.setIfInBounds_toArray, List.set_cons_zero, List.set_cons_succ]
  refine wpAnyH_take (i := 15) (v := ?_) rfl (by kernel_rfl) (by kernel_rfl) (by kernel_rfl) (fun _ _ _ h => h) (Or.inl ⟨by rfl, ?_⟩) hS ?_
  rotate_left
  · intro wz hSw; go_simp; (try with_reducible rfl)
  try simp only [List.getElem_toArray, List.getElem_cons_zero, List.getElem_cons_succ, Act.put, List.setIfInBounds_toArray, List.set_cons_zero, List.set_cons_succ]
  refine wpAnyH_take (i := 16) (v := ?_) rfl (by kernel_rfl) (by kernel_rfl) (by kernel_rfl) (fun _ _ _ h => h) (Or.inl ⟨by rfl, ?_⟩) hS ?_
  rotate_left
  · intro wz hSw; go_simp; (try with_reducible rfl)
  try simp only [List.getElem_toArray, List.getElem_cons_zero, List.getElem_cons_succ, Act.put, List.setIfInBounds_toArray, List.set_cons_zero, List.set_cons_succ]
  refine wpAnyH_take (i := 17) (v := ?_) rfl (by kernel_rfl) (by kernel_rfl) (by kernel_rfl) (fun _ _ _ h => h) (Or.inl ⟨by rfl, ?_⟩) hS ?_
  rotate_left
  · intro wz hSw; go_simp; (try with_reducible rfl)
  try simp only [List.getElem_toArray, List.getElem_cons_zero, List.getElem_cons_succ, Act.put, List.setIfInBounds_toArray, List.set_cons_zero, List.set_cons_succ]
  refine wpAnyH_take (i := 18) (v := ?_) rfl (by kernel_rfl) (by kernel_rfl) (by kernel_rfl) (fun _ _ _ h => h) (Or.inl ⟨by rfl, ?_⟩) hS ?_
  rotate_left
  · intro wz hSw; go_simp; (try with_reducible rfl)
  try simp only [List.getElem_toArray, List.getElem_cons_zero, List.getElem_cons_succ, Act.put, List.setIfInBounds_toArray, List.set_cons_zero, List.set_cons_succ]
  refine wpAnyH_take (i := 19) (v := ?_) rfl (by kernel_rfl) (by kernel_rfl) (by kernel_rfl) (fun _ _ _ h => h) (Or.inl ⟨by rfl, ?_⟩) hS ?_
  rotate_left
  · intro wz hSw; go_simp; (try with_reducible rfl)
  try simp only [List.getElem_toArray, List.getElem_cons_zero, List.getElem_cons_succ, Act.put, List.setIfInBounds_toArray, List.set_cons_zero, List.set_cons_succ]
  refine wpAnyH_take (i := 20) (v := ?_) rfl (by kernel_rfl) (by kernel_rfl) (by kernel_rfl) (fun _ _ _ h => h) (Or.inl ⟨by rfl, ?_⟩) hS ?_
  rotate_left
  · intro wz hSw; go_simp; (try with_reducible rfl)
  try simp only [List.getElem_toArray, List.getElem_cons_zero, List.getElem_cons_succ, Act.put, List.setIfInBounds_toArray, List.set_cons_zero, List.set_cons_succ]
  refine wpAnyH_take (i := 21) (v := ?_) rfl (by kernel_rfl) (by kernel_rfl) (by kernel_rfl) (fun _ _ _ h => h) (Or.inl ⟨by rfl, ?_⟩) hS ?_
  rotate_left
  · intro wz hSw; go_simp; (try with_reducible rfl)
  try simp only [List.getElem_toArray, List.getElem_cons_zero, List.getElem_cons_succ, Act.put, List.setIfInBounds_toArray, List.set_cons_zero, List.set_cons_succ]
  refine wpAnyH_take (i := 22) (v := ?_) rfl (by kernel_rfl) (by kernel_rfl) (by kernel_rfl) (fun _ _ _ h => h) (Or.inl ⟨by rfl, ?_⟩) hS ?_
  rotate_left
  · intro wz hSw; go_simp; (try with_reducible rfl)
  try simp only [List.getElem_toArray, List.getElem_cons_zero, List.getElem_cons_succ, Act.put, List.setIfInBounds_toArray, List.set_cons_zero, List.set_cons_succ]
  refine wpAnyH_take (i := 23) (v := ?_) rfl (by kernel_rfl) (by kernel_rfl) (by kernel_rfl) (fun _ _ _ h => h) (Or.inl ⟨by rfl, ?_⟩) hS ?_
  rotate_left
  · intro wz hSw; go_simp; (try with_reducible rfl)
  try simp only [List.getElem_toArray, List.getElem_cons_zero, List.getElem_cons_succ, Act.put, List.setIfInBounds_toArray, List.set_cons_zero, List.set_cons_succ]
  refine wpAnyH_take (i := 24) (v := ?_) rfl (by kernel_rfl) (by kernel_rfl) (by kernel_rfl) (fun _ _ _ h => h) (Or.inl ⟨by rfl, ?_⟩) hS ?_
  rotate_left
  · intro wz hSw; go_simp; (try with_reducible rfl)
  try simp only [List.getElem_toArray, List.getElem_cons_zero, List.getElem_cons_succ, Act.put, List.setIfInBounds_toArray, List.set_cons_zero, List.set_cons_succ]
  refine wpAnyH_take (i := 26) (v := ?_) rfl (by kernel_rfl) (by kernel_rfl) (by kernel_rfl) (fun _ _ _ h => h) (Or.inl ⟨by rfl, ?_⟩) hS ?_
  rotate_left
  · intro wz hSw; go_simp; (try with_reducible rfl)
  try simp only [List.getElem_toArray, List.getElem_cons_zero, List.getElem_cons_succ, Act.put, List.setIfInBounds_toArray, List.set_cons_zero, List.set_cons_succ]
  refine wpAnyH_take (i := 27) (v := ?_) rfl (by kernel_rfl) (by kernel_rfl) (by kernel_rfl) (fun _ _ _ h => h) (Or.inl ⟨by rfl, ?_⟩) hS ?_
  rotate_left
  · intro wz hSw; go_simp; (try with_reducible rfl)
  try simp only [List.getElem_toArray, List.getElem_cons_zero, List.getElem_cons_succ, Act.put, List.setIfInBounds_toArray, List.set_cons_zero, List.set_cons_succ]
  refine wpAnyH_take (i := 28) (v := ?_) rfl (by kernel_rfl) (by kernel_rfl) (by kernel_rfl) (fun _ _ _ h => h) (Or.inl ⟨by rfl, ?_⟩) hS ?_
  rotate_left
  · intro wz hSw; go_simp; (try with_reducible rfl)
  try simp only [List.getElem_toArray, List.getElem_cons_zero, List.getElem_cons_succ, Act.put, List.setIfInBounds_toArray, List.set_cons_zero, List.set_cons_succ]
  refine wpAnyH_take (i := 30) (v := ?_) rfl (by kernel_rfl) (by kernel_rfl) (by kernel_rfl) (fun _ _ _ h => h) (Or.inl ⟨by rfl, ?_⟩) hS ?_
  rotate_left
  · intro wz hSw; go_simp; (try with_reducible rfl)
  try simp only [List.getElem_toArray, List.getElem_cons_zero, List.getElem_cons_succ, Act.put, List.setIfInBounds_toArray, List.set_cons_zero, List.set_cons_succ]
  refine wpAnyH_ready (rs := [25]) (by kernel_rfl) (by simp) (AllReadyH.cons rfl (fun K hK => ?_) AllReadyH.nil)
  go_simp
  go_at_call 12
  refine (CT1.out _ hS.1).mono ?_
  rintro e wT ⟨aT, cT, rfl, hRT, hbT⟩
  go_wp2_with fail
  have hS := (show _ ∧ _ ∧ _ from ⟨next_below hS.1 hbT, hS.2.1.below hbT, hS.2.2.below hbT⟩)
  refine hK.out _ _ hS (fun _ => ?_)
  clear hK K
  try simp only [List.getElem_toArray, List.getElem_cons_zero, List.getElem_cons_succ, Act.put, List.setIfInBounds_toArray, List.set_cons_zero, List.set_cons_succ]
  refine wpAnyH_ready (rs := [29]) (by kernel_rfl) (by simp) (AllReadyH.cons rfl (fun K hK => ?_) AllReadyH.nil)
  go_simp
  go_at_call 12
  refine (CT2.out _ _ _ hRT).mono ?_
  rintro e wU ⟨aU, cU, rfl, hRU, hbU⟩
  go_wp2_with fail
  have hS := (show _ ∧ _ ∧ _ from ⟨next_below hS.1 hbU, hS.2.1.below hbU, hS.2.2.below hbU⟩)
  refine hK.out _ _ hS (fun _ => ?_)
  clear hK K
  try simp only [List.getElem_toArray, List.getElem_cons_zero, List.getElem_cons_succ, Act.put, List.setIfInBounds_toArray, List.set_cons_zero, List.set_cons_succ]
  refine wpAnyH_ready (rs := [31]) (by kernel_rfl) (by simp) (AllReadyH.cons rfl (fun K hK => ?_) AllReadyH.nil)
  go_simp
  go_at_call 11
  refine (CS.out _ _ _ hRU hS.1).mono ?_
  rintro e wS ⟨rfl, hbS⟩
  go_wp2_with fail
  have hS := (show _ ∧ _ ∧ _ from ⟨next_below hS.1 hbS, hS.2.1.below hbS, hS.2.2.below hbS⟩)
  refine hK.out _ _ hS (fun _ => ?_)
  clear hK K
  try simp only [List.getElem_toArray, List.getElem_cons_zero, List.getElem_cons_succ, Act.put, List.setIfInBounds_toArray, List.set_cons_zero, List.set_cons_succ]
  refine wpAnyH_take (i := 32) (v := ?_) rfl (by kernel_rfl) (by kernel_rfl) (by kernel_rfl) (fun _ _ _ h => h) (Or.inl ⟨by rfl, ?_⟩) hS ?_
  rotate_left
  · intro wz hSw; go_simp; (try with_reducible rfl)
  try simp only [List.getElem_toArray, List.getElem_cons_zero, List.getElem_cons_succ, Act.put, List.setIfInBounds_toArray, List.set_cons_zero, List.set_cons_succ]
  refine wpAnyH_take (i := 33) (v := ?_) rfl (by kernel_rfl) (by kernel_rfl) (by kernel_rfl) (fun _ _ _ h => h) (Or.inl ⟨by rfl, ?_⟩) hS ?_
  rotate_left
  · intro wz hSw; go_simp; (try with_reducible rfl)
  try simp only [List.getElem_toArray, List.getElem_cons_zero, List.getElem_cons_succ, Act.put, List.setIfInBounds_toArray, List.set_cons_zero, List.set_cons_succ]
  refine wpAnyH_take (i := 34) (v := ?_) rfl (by kernel_rfl) (by kernel_rfl) (by kernel_rfl) (fun _ _ _ h => h) (Or.inl ⟨by rfl, ?_⟩) hS ?_
  rotate_left
  · intro wz hSw; go_simp; (try with_reducible rfl)
  try simp only [List.getElem_toArray, List.getElem_cons_zero, List.getElem_cons_succ, Act.put, List.setIfInBounds_toArray, List.set_cons_zero, List.set_cons_succ]
  refine wpAnyH_take (i := 37) (v := ?_) rfl (by kernel_rfl) (by kernel_rfl) (by kernel_rfl) (fun _ _ _ h => h) (Or.inl ⟨by rfl, ?_⟩) hS ?_
  rotate_left
  · intro wz hSw; go_simp; (try with_reducible rfl)
  try simp only [List.getElem_toArray, List.getElem_cons_zero, List.getElem_cons_succ, Act.put, List.setIfInBounds_toArray, List.set_cons_zero, List.set_cons_succ]
  refine wpAnyH_ready (rs := [35]) (by kernel_rfl) (by simp) (AllReadyH.cons rfl (fun K hK => ?_) AllReadyH.nil)
  go_simp
  go_at_call 14
  refine (CF1.out _ hS.1).mono ?_
  rintro e wF ⟨aF, cF, rfl, hRF, hbF⟩
  go_wp2_with fail
  have hS := (show _ ∧ _ ∧ _ from ⟨next_below hS.1 hbF, hS.2.1.below hbF, hS.2.2.below hbF⟩)
  refine hK.out _ _ hS (fun _ => ?_)
  clear hK K
  try simp only [List.getElem_toArray, List.getElem_cons_zero, List.getElem_cons_succ, Act.put, List.setIfInBounds_toArray, List.set_cons_zero, List.set_cons_succ]
  refine wpAnyH_ready (rs := [36]) (by kernel_rfl) (by simp) (AllReadyH.cons rfl (fun K hK => ?_) AllReadyH.nil)
  go_simp
  go_at_call 14
  refine (CF2.out _ _ _ hRF).mono ?_
  rintro e wH ⟨aH, cH, rfl, hRH, hbH⟩
  go_wp2_with fail
  have hS := (show _ ∧ _ ∧ _ from ⟨next_below hS.1 hbH, hS.2.1.below hbH, hS.2.2.below hbH⟩)
  refine hK.out _ _ hS (fun _ => ?_)
  clear hK K
  try simp only [List.getElem_toArray, List.getElem_cons_zero, List.getElem_cons_succ, Act.put, List.setIfInBounds_toArray, List.set_cons_zero, List.set_cons_succ]
  refine wpAnyH_ready (rs := [38]) (by kernel_rfl) (by simp) (AllReadyH.cons rfl (fun K hK => ?_) AllReadyH.nil)
  go_simp
  go_at_call 11
  refine (CS.out _ _ _ hRH hS.1).mono ?_
  rintro e wI ⟨rfl, hbI⟩
  go_wp2_with fail
  have hS := (show _ ∧ _ ∧ _ from ⟨next_below hS.1 hbI, hS.2.1.below hbI, hS.2.2.below hbI⟩)
  refine hK.out _ _ hS (fun _ => ?_)
  clear hK K
  try simp only [List.getElem_toArray, List.getElem_cons_zero, List.getElem_cons_succ, Act.put, List.setIfInBounds_toArray, List.set_cons_zero, List.set_cons_succ]
  refine wpAnyH_take (i := 39) (v := ?_) rfl (by kernel_rfl) (by kernel_rfl) (by kernel_rfl) (fun _ _ _ h => h) (Or.inl ⟨by rfl, ?_⟩) hS ?_
  rotate_left
  · intro wz hSw; go_simp; (try with_reducible rfl)
  try simp only [List.getElem_toArray, List.getElem_cons_zero, List.getElem_cons_succ, Act.put, List.setIfInBounds_toArray, List.set_cons_zero, List.set_cons_succ]
  refine wpAnyH_take (i := 40) (v := ?_) rfl (by kernel_rfl) (by kernel_rfl) (by kernel_rfl) (fun _ _ _ h => h) (Or.inl ⟨by rfl, ?_⟩) hS ?_
  rotate_left
  · intro wz hSw; go_simp; (try with_reducible rfl)
  try simp only [List.getElem_toArray, List.getElem_cons_zero, List.getElem_cons_succ, Act.put, List.setIfInBounds_toArray, List.set_cons_zero, List.set_cons_succ]
  refine wpAnyH_ready (rs := [41]) (by kernel_rfl) (by simp) (AllReadyH.cons rfl (fun K hK => ?_) AllReadyH.nil)
  go_simp
  go_at_call 8
  refine (awake_any _).mono ?_
  rintro e wW ⟨rfl, hbW⟩
  go_wp2_with fail
  have hS := (show _ ∧ _ ∧ _ from ⟨next_below hS.1 hbW, hS.2.1.below hbW, hS.2.2.below hbW⟩)
  refine hK.out _ _ hS (fun _ => ?_)
  clear hK K
  try simp only [List.getElem_toArray, List.getElem_cons_zero, List.getElem_cons_succ, Act.put, List.setIfInBounds_toArray, List.set_cons_zero, List.set_cons_succ]
  refine wpAnyH_take (i := 42) (v := ?_) rfl (by kernel_rfl) (by kernel_rfl) (by kernel_rfl) (fun _ _ _ h => h) (Or.inl ⟨by rfl, ?_⟩) hS ?_
  rotate_left
  · intro wz hSw; go_simp; (try with_reducible rfl)
  try simp only [List.getElem_toArray, List.getElem_cons_zero, List.getElem_cons_succ, Act.put, List.setIfInBounds_toArray, List.set_cons_zero, List.set_cons_succ]
  refine wpAnyH_take (i := 43) (v := ?_) rfl (by kernel_rfl) (by kernel_rfl) (by kernel_rfl) (fun _ _ _ h => h) (Or.inl ⟨by rfl, ?_⟩) hS ?_
  rotate_left
  · intro wz hSw; go_simp; (try with_reducible rfl)
  try simp only [List.getElem_toArray, List.getElem_cons_zero, List.getElem_cons_succ, Act.put, List.setIfInBounds_toArray, List.set_cons_zero, List.set_cons_succ]
  refine wpAnyH_done (by kernel_rfl) ?_ _
  go_wp2_with fail
  go_ret
  exact ⟨rfl, hS.1⟩

theorem bytes_walk (v0 v1 : Value) (k : Int) (w : World) (h0 : OkWords w v0) (h1 : OkWords w v1) (hk : -32768 ≤ k ∧ k < 32768) :
    Calls Try.prog 5 #[v0, v1, .int .i16 k] w fun e w' => e = .returned (.bool true) ∧ Below w.heap.size w w' := by
  obtain ⟨A0, c0, L0, rfl, o0, r0, l0, m0, _⟩ := h0
  obtain ⟨A1, c1, L1, rfl, o1, r1, l1, m1, _⟩ := h1
  have G0 := Lib.hid (great_any A0 c0 L0 w r0 (by omega))
  have G1 := Lib.hid (great_any A1 c1 L1 w r1 (by omega))
  cases b0 : gW L0 <;> cases b1 : gW L1
  case false.false => exact bytes_main A0 A1 c0 c1 L0 L1 k w r0 r1 o0 o1 b0 b1 hk
  all_goals
    rw [b0] at G0
    rw [b1] at G1
    clear b0 b1 r0 r1 o0 o1
    generalize L0.length = n0 at *
    generalize L1.length = n1 at *
    go_enter Try.func5, Try.ntmps5
    go_wp2_with (first
      | (go_at_call 7; (first | (with_reducible refine G0.out.mono ?_) | (with_reducible refine G1.out.mono ?_)); rintro e wx ⟨rfl, rfl⟩)
      | (go_at_call 8; refine (awake_any _).mono ?_; rintro e wx ⟨rfl, hb⟩))
    go_ret
    exact ⟨rfl, hb⟩
end Go.Proofs.Ytmnkghbbcjnlfaa
