/- The walk of RingTells: its drawn region by hand. -/
import Derived.Test.YtmnkghbbcjnlfaaR23
namespace Go.Proofs.Ytmnkghbbcjnlfaa
open Go.RowKit

set_option maxRecDepth 100000 in
set_option maxHeartbeats 8000000 in
theorem tells_main (A0 A1 : Option Addr) (c0 c1 : Nat) (L0 L1 : List (List Nat)) (k : Int) (w : World) (r0 : RdW w A0 L0) (r1 : RdW w A1 L1) (o0 : OkW L0) (o1 : OkW L1) (g0 : gW L0 = false) (g1 : gW L1 = false) :
    Calls Try.prog 3 #[.slice A0 L0.length c0, .slice A1 L1.length c1, .int .i64 k] w fun e w' => e = .returned (.bool true) ∧ Below w.heap.size w w' := by
  obtain ⟨s0, t0⟩ := gW_smallL g0
  obtain ⟨s1, t1⟩ := gW_smallL g1
  have G0 := great_any A0 c0 L0 w r0 (by omega)
  have G1 := great_any A1 c1 L1 w r1 (by omega)
  rw [g0] at G0
  rw [g1] at G1
  have u0 : ∀ xs ∈ L0, xs.length ≤ 1000000 := fun xs h => by have := t0 xs h; omega
  have u1 : ∀ xs ∈ L1, xs.length ≤ 1000000 := fun xs h => by have := t1 xs h; omega
  have oT : OkW (turnOf L0 k) := fun xs h => o0 xs (turnN_mem h)
  have oF : OkW L0.reverse := fun xs h => o0 xs (List.mem_reverse.1 h)
  have oB : OkW (turnN L0 (lp L0 L0.length 0 1).1) := fun xs h => o0 xs (turnN_mem h)
  have hTl : L0.length = (turnOf L0 k).length := (turnOf_length L0 k).symm
  have hBl : L0.length = (turnN L0 (lp L0 L0.length 0 1).1).length := (turnN_length L0 _).symm
  have hPl := placesL_le L0
  have LD := Lib.hid (least_all A0 c0 _ L0 w r0 o0 u0 rfl (by omega))
  have LR : Hid (∀ w', Below w.heap.size w w' → Calls Try.prog 10 #[.slice A0 L0.length c0] w' fun e w'' => ∃ (Av : Option Addr) (cv : Nat) (A' : Option Addr) (c' : Nat), e = .returned (.tuple #[.slice Av (placesL L0).length cv, .slice A' L0.length c']) ∧ RdI w'' Av (placesL L0) ∧ RdW w'' A' (turnN L0 (lp L0 L0.length 0 1).1) ∧ Below w'.heap.size w' w'') :=
    fun w' h => refLeast_all A0 c0 _ L0 w' (r0.below h) u0 rfl (by omega)
  have CT : Hid (∀ w', Below w.heap.size w w' → Calls Try.prog 12 #[.slice A0 L0.length c0, .int .i64 k] w' fun e w'' => ∃ A' c', e = .returned (.slice A' L0.length c') ∧ RdW w'' A' (turnOf L0 k) ∧ Below w'.heap.size w' w'') :=
    fun w' h => turn_all A0 c0 _ k L0 w' (r0.below h) u0 rfl (by omega)
  have CU : Hid (∀ w', Below w.heap.size w w' → Calls Try.prog 13 #[.slice A0 L0.length c0, .int .i64 k] w' fun e w'' => ∃ A' c', e = .returned (.slice A' L0.length c') ∧ RdW w'' A' (turnOf L0 k) ∧ Below w'.heap.size w' w'') :=
    fun w' h => refTurn_any A0 c0 _ k L0 w' (r0.below h) u0 rfl (by omega)
  have CF : Hid (∀ w', Below w.heap.size w w' → Calls Try.prog 14 #[.slice A0 L0.length c0] w' fun e w'' => ∃ A' c', e = .returned (.slice A' L0.length c') ∧ RdW w'' A' L0.reverse ∧ Below w'.heap.size w' w'') :=
    fun w' h => flip_all A0 c0 _ L0 w' (r0.below h) u0 rfl (by omega)
  have CG : Hid (∀ w', Below w.heap.size w w' → Calls Try.prog 15 #[.slice A0 L0.length c0] w' fun e w'' => ∃ A' c', e = .returned (.slice A' L0.length c') ∧ RdW w'' A' L0.reverse ∧ Below w'.heap.size w' w'') :=
    fun w' h => refFlip_any A0 c0 _ L0 w' (r0.below h) u0 rfl (by omega)
  have CS : Hid (∀ A2 c2 A3 c3 w', RdW w' A2 (turnOf L0 k) → RdW w' A3 (turnOf L0 k) → Calls Try.prog 11 #[.slice A2 L0.length c2, .slice A3 L0.length c3] w' fun e w'' => e = .returned (.bool true) ∧ Below w'.heap.size w' w'') := by
    intro A2 c2 A3 c3 w' h1 h2
    have := same_any A2 A3 c2 c3 L0.length L0.length _ _ w' h1 h2 oT oT (by omega) hTl hTl
    rw [decide_eq_true rfl] at this
    exact this
  have CS2 : Hid (∀ A2 c2 A3 c3 w', RdW w' A2 L0.reverse → RdW w' A3 L0.reverse → Calls Try.prog 11 #[.slice A2 L0.length c2, .slice A3 L0.length c3] w' fun e w'' => e = .returned (.bool true) ∧ Below w'.heap.size w' w'') := by
    intro A2 c2 A3 c3 w' h1 h2
    have := same_any A2 A3 c2 c3 L0.length L0.length _ _ w' h1 h2 oF oF (by omega) (by simp) (by simp)
    rw [decide_eq_true rfl] at this
    exact this
  have CS3 : Hid (∀ A2 c2 A3 c3 w', RdW w' A2 (turnN L0 (lp L0 L0.length 0 1).1) → RdW w' A3 (turnN L0 (lp L0 L0.length 0 1).1) → Calls Try.prog 11 #[.slice A2 L0.length c2, .slice A3 L0.length c3] w' fun e w'' => e = .returned (.bool true) ∧ Below w'.heap.size w' w'') := by
    intro A2 c2 A3 c3 w' h1 h2
    have := same_any A2 A3 c2 c3 L0.length L0.length _ _ w' h1 h2 oB oB (by omega) hBl hBl
    rw [decide_eq_true rfl] at this
    exact this
  have CI : Hid (∀ A2 c2 A3 c3 w', RdI w' A2 (placesL L0) → RdI w' A3 (placesL L0) → Calls Try.prog 18 #[.slice A2 (placesL L0).length c2, .slice A3 (placesL L0).length c3] w' fun e w'' => e = .returned (.bool true) ∧ Below w'.heap.size w' w'') := by
    intro A2 c2 A3 c3 w' h1 h2
    have := sameInts_any A2 A3 c2 c3 _ _ (placesL L0) (placesL L0) w' h1 h2 (by omega) rfl rfl
    rw [decide_eq_true rfl] at this
    exact this
  have D01 : Hid (∀ w', Below w.heap.size w w' → Calls Try.prog 16 #[.slice A0 L0.length c0, .slice A1 L1.length c1] w' fun e w'' => e = .returned (.int .i64 (cmpW L0 L1)) ∧ w' = w'') :=
    fun w' h => ringCompare_any A0 A1 c0 c1 _ _ L0 L1 w' (r0.below h) (r1.below h) o0 o1 (by omega) (by omega) rfl rfl
  have E01 : Hid (∀ w', Below w.heap.size w w' → Calls Try.prog 17 #[.slice A0 L0.length c0, .slice A1 L1.length c1] w' fun e w'' => e = .returned (.int .i64 (cmpW L0 L1)) ∧ Below w'.heap.size w' w'') :=
    fun w' h => refCompare_any A0 A1 c0 c1 _ _ L0 L1 w' (r0.below h) (r1.below h) u0 u1 (by omega) (by omega) rfl rfl
  have CB0 : Hid (∀ w', Below w.heap.size w w' → Calls Try.prog 19 #[.slice A0 L0.length c0] w' fun e w'' => ∃ g cap, e = .returned (.slice (some ⟨g, 0, none⟩) (bytesW L0).length cap) ∧ RdN w'' (some ⟨g, 0, none⟩) (bytesW L0) ∧ Below w'.heap.size w' w'') :=
    fun w' h => bytes_any A0 c0 _ L0 w' (r0.below h) t0 rfl s0
  have CB1 : Hid (∀ w', Below w.heap.size w w' → Calls Try.prog 20 #[.slice A0 L0.length c0] w' fun e w'' => ∃ g cap, e = .returned (.slice (some ⟨g, 0, none⟩) (bytesW L0).length cap) ∧ RdN w'' (some ⟨g, 0, none⟩) (bytesW L0) ∧ Below w'.heap.size w' w'') :=
    fun w' h => refBytes_any A0 c0 _ L0 w' (r0.below h) t0 rfl s0
  have HCV : Hid (∀ (w' : World) (A : Option Addr) (c n : Nat) (xs : List Nat), n = xs.length → RdN w' A xs → (convert 33 9 (.slice A n c)).run Try.prog w' = .ok (.string (strN xs)) w') :=
    fun w' A c n xs hn hr => conv_rd (P := Try.prog) w' 33 5 Try.underlying33 Try.underlying5 A c n xs hn hr 9 Try.underlying9
  clear r0 r1 o0 o1 g0 g1 u0 u1 t0 t1 oT oF oB hTl hBl
  generalize cmpW L0 L1 = q at *
  generalize bytesW L0 = X at *
  generalize turnOf L0 k = T1 at *
  generalize L0.reverse = F1 at *
  generalize turnN L0 (lp L0 L0.length 0 1).1 = TB at *
  generalize hPP : placesL L0 = PL at *
  clear hPP
  generalize L0.length = n0 at *
  generalize L1.length = n1 at *
  have HG0 := Lib.hid G0
  have HG1 := Lib.hid G1
  clear G0 G1
  go_enter Try.func3, Try.ntmps3
  go_wp2_with fail
  refine HG0.out.mono ?_
  rintro e w1 ⟨rfl, rfl⟩
  go_wp2_with fail
  refine HG1.out.mono ?_
  rintro e w1 ⟨rfl, rfl⟩
  go_wp2_with fail
  refine LD.out.mono ?_
  rintro e w1 ⟨Av, cv, Ab, cb, rfl, hi1, hr1, hb1⟩
  have HB1 := Lib.hid hb1
  have HI1 := Lib.hid hi1
  have HR1 := Lib.hid hr1
  clear hi1 hr1 hb1 LD
  go_wp2_with fail
  refine (LR.out _ HB1.out).mono ?_
  rintro e w2 ⟨Aw, cw, Ad, cd, rfl, hi2, hr2, hb2⟩
  have HB2 := Lib.hid (next_below HB1.out hb2)
  have HI2 := Lib.hid hi2
  have HR2 := Lib.hid hr2
  have HI1b := Lib.hid (HI1.out.below hb2)
  have HR1b := Lib.hid (HR1.out.below hb2)
  clear hi2 hr2 hb2 LR HI1 HR1 HB1 HG0 HG1
  go_upto_region 5 with fail
  have hB : Below w.heap.size w w2.drew ∧ Below w2.heap.size w2 w2.drew := ⟨HB2.out.drew, (Below.refl _ _).drew⟩
  refine wp_region_held_drew (S := fun w' => Below w.heap.size w w' ∧ Below w2.heap.size w2 w') (by kernel_rfl) hB (fun hS => ?_)
  refine wpAnyH_take (i := 0) (v := ?_) rfl (by kernel_rfl) (by kernel_rfl) (by kernel_rfl) (fun _ _ _ h => h) (Or.inl ⟨by rfl, ?_⟩) hS ?_
  rotate_left
  · intro wz hSw; go_simp; (try with_reducible rfl)
  try simp only [List.getElem_toArray, List.getElem_cons_zero, Act.put, List.setIfInBounds_toArray, List.set_cons_zero, List.set_cons_succ]
  refine wpAnyH_take (i := 1) (v := ?_) rfl (by kernel_rfl) (by kernel_rfl) (by kernel_rfl) (fun _ _ _ h => h) (Or.inl ⟨by rfl, ?_⟩) hS ?_
  rotate_left
  · intro wz hSw; go_simp; (try with_reducible rfl)
  try simp only [List.getElem_toArray, List.getElem_cons_zero, List.getElem_cons_succ, Act.put, List.setIfInBounds_toArray, List.set_cons_zero, List.set_cons_succ]
  refine wpAnyH_take (i := 3) (v := ?_) rfl (by kernel_rfl) (by kernel_rfl) (by kernel_rfl) (fun _ _ _ h => h) (Or.inl ⟨by rfl, ?_⟩) hS ?_
  rotate_left
  · intro wz hSw; go_simp; (try with_reducible rfl)
  try simp only [List.getElem_toArray, List.getElem_cons_zero, List.getElem_cons_succ, Act.put, List.setIfInBounds_toArray, List.set_cons_zero, List.set_cons_succ]
  refine wpAnyH_take (i := 4) (v := ?_) rfl (by kernel_rfl) (by kernel_rfl) (by kernel_rfl) (fun _ _ _ h => h) (Or.inl ⟨by rfl, ?_⟩) hS ?_
  rotate_left
  · intro wz hSw; go_simp; (try with_reducible rfl)
  try simp only [List.getElem_toArray, List.getElem_cons_zero, List.getElem_cons_succ, Act.put, List.setIfInBounds_toArray, List.set_cons_zero, List.set_cons_succ]
  refine wpAnyH_ready (rs := [2]) (by kernel_rfl) (by simp) (AllReadyH.cons rfl (fun K hK => ?_) AllReadyH.nil)
  go_simp
  go_at_call 12
  refine (CT.out _ hS.1).mono ?_
  rintro e wT ⟨aT, cT, rfl, hRT, hbT⟩
  go_wp2_with fail
  have hS := (show _ ∧ _ from ⟨next_below hS.1 hbT, next_below hS.2 hbT⟩)
  refine hK.out _ _ hS (fun _ => ?_)
  clear hK K
  try simp only [List.getElem_toArray, List.getElem_cons_zero, List.getElem_cons_succ, Act.put, List.setIfInBounds_toArray, List.set_cons_zero, List.set_cons_succ]
  refine wpAnyH_ready (rs := [5]) (by kernel_rfl) (by simp) (AllReadyH.cons rfl (fun K hK => ?_) AllReadyH.nil)
  go_simp
  go_at_call 13
  refine (CU.out _ hS.1).mono ?_
  rintro e wU ⟨aU, cU, rfl, hRU, hbU⟩
  go_wp2_with fail
  have hS := (show _ ∧ _ from ⟨next_below hS.1 hbU, next_below hS.2 hbU⟩)
  refine hK.out _ _ hS (fun _ => ?_)
  clear hK K
  try simp only [List.getElem_toArray, List.getElem_cons_zero, List.getElem_cons_succ, Act.put, List.setIfInBounds_toArray, List.set_cons_zero, List.set_cons_succ]
  refine wpAnyH_ready (rs := [6]) (by kernel_rfl) (by simp) (AllReadyH.cons rfl (fun K hK => ?_) AllReadyH.nil)
  go_simp
  go_at_call 11
  refine (CS.out _ _ _ _ _ (hRT.below hbU) hRU).mono ?_
  rintro e wS ⟨rfl, hbS⟩
  go_wp2_with fail
  have hS := (show _ ∧ _ from ⟨next_below hS.1 hbS, next_below hS.2 hbS⟩)
  refine hK.out _ _ hS (fun _ => ?_)
  clear hK K
  try simp only [List.getElem_toArray, List.getElem_cons_zero, List.getElem_cons_succ, Act.put, List.setIfInBounds_toArray, List.set_cons_zero, List.set_cons_succ]
  refine wpAnyH_take (i := 7) (v := ?_) rfl (by kernel_rfl) (by kernel_rfl) (by kernel_rfl) (fun _ _ _ h => h) (Or.inl ⟨by rfl, ?_⟩) hS ?_
  rotate_left
  · intro wz hSw; go_simp; (try with_reducible rfl)
  try simp only [List.getElem_toArray, List.getElem_cons_zero, List.getElem_cons_succ, Act.put, List.setIfInBounds_toArray, List.set_cons_zero, List.set_cons_succ]
  refine wpAnyH_take (i := 8) (v := ?_) rfl (by kernel_rfl) (by kernel_rfl) (by kernel_rfl) (fun _ _ _ h => h) (Or.inl ⟨by rfl, ?_⟩) hS ?_
  rotate_left
  · intro wz hSw; go_simp; (try with_reducible rfl)
  try simp only [List.getElem_toArray, List.getElem_cons_zero, List.getElem_cons_succ, Act.put, List.setIfInBounds_toArray, List.set_cons_zero, List.set_cons_succ]
  refine wpAnyH_take (i := 10) (v := ?_) rfl (by kernel_rfl) (by kernel_rfl) (by kernel_rfl) (fun _ _ _ h => h) (Or.inl ⟨by rfl, ?_⟩) hS ?_
  rotate_left
  · intro wz hSw; go_simp; (try with_reducible rfl)
  try simp only [List.getElem_toArray, List.getElem_cons_zero, List.getElem_cons_succ, Act.put, List.setIfInBounds_toArray, List.set_cons_zero, List.set_cons_succ]
  refine wpAnyH_ready (rs := [9]) (by kernel_rfl) (by simp) (AllReadyH.cons rfl (fun K hK => ?_) AllReadyH.nil)
  go_simp
  go_at_call 14
  refine (CF.out _ hS.1).mono ?_
  rintro e wF ⟨aF, cF, rfl, hRF, hbF⟩
  go_wp2_with fail
  have hS := (show _ ∧ _ from ⟨next_below hS.1 hbF, next_below hS.2 hbF⟩)
  refine hK.out _ _ hS (fun _ => ?_)
  clear hK K
  try simp only [List.getElem_toArray, List.getElem_cons_zero, List.getElem_cons_succ, Act.put, List.setIfInBounds_toArray, List.set_cons_zero, List.set_cons_succ]
  refine wpAnyH_ready (rs := [11]) (by kernel_rfl) (by simp) (AllReadyH.cons rfl (fun K hK => ?_) AllReadyH.nil)
  go_simp
  go_at_call 15
  refine (CG.out _ hS.1).mono ?_
  rintro e wG ⟨aG, cG, rfl, hRG, hbG⟩
  go_wp2_with fail
  have hS := (show _ ∧ _ from ⟨next_below hS.1 hbG, next_below hS.2 hbG⟩)
  refine hK.out _ _ hS (fun _ => ?_)
  clear hK K
  try simp only [List.getElem_toArray, List.getElem_cons_zero, List.getElem_cons_succ, Act.put, List.setIfInBounds_toArray, List.set_cons_zero, List.set_cons_succ]
  refine wpAnyH_ready (rs := [12]) (by kernel_rfl) (by simp) (AllReadyH.cons rfl (fun K hK => ?_) AllReadyH.nil)
  go_simp
  go_at_call 11
  refine (CS2.out _ _ _ _ _ (hRF.below hbG) hRG).mono ?_
  rintro e wH ⟨rfl, hbH⟩
  go_wp2_with fail
  have hS := (show _ ∧ _ from ⟨next_below hS.1 hbH, next_below hS.2 hbH⟩)
  refine hK.out _ _ hS (fun _ => ?_)
  clear hK K
  try simp only [List.getElem_toArray, List.getElem_cons_zero, List.getElem_cons_succ, Act.put, List.setIfInBounds_toArray, List.set_cons_zero, List.set_cons_succ]
  refine wpAnyH_take (i := 13) (v := ?_) rfl (by kernel_rfl) (by kernel_rfl) (by kernel_rfl) (fun _ _ _ h => h) (Or.inl ⟨by rfl, ?_⟩) hS ?_
  rotate_left
  · intro wz hSw; go_simp; (try with_reducible rfl)
  try simp only [List.getElem_toArray, List.getElem_cons_zero, List.getElem_cons_succ, Act.put, List.setIfInBounds_toArray, List.set_cons_zero, List.set_cons_succ]
  refine wpAnyH_take (i := 14) (v := ?_) rfl (by kernel_rfl) (by kernel_rfl) (by kernel_rfl) (fun _ _ _ h => h) (Or.inl ⟨by rfl, ?_⟩) hS ?_
  rotate_left
  · intro wz hSw; go_simp; (try with_reducible rfl)
  try simp only [List.getElem_toArray, List.getElem_cons_zero, List.getElem_cons_succ, Act.put, List.setIfInBounds_toArray, List.set_cons_zero, List.set_cons_succ]
  refine wpAnyH_take (i := 15) (v := ?_) rfl (by kernel_rfl) (by kernel_rfl) (by kernel_rfl) (fun _ _ _ h => h) (Or.inl ⟨by rfl, ?_⟩) hS ?_
  rotate_left
  · intro wz hSw; go_simp; (try with_reducible rfl)
  try simp only [List.getElem_toArray, List.getElem_cons_zero, List.getElem_cons_succ, Act.put, List.setIfInBounds_toArray, List.set_cons_zero, List.set_cons_succ]
  refine wpAnyH_take (i := 16) (v := ?_) rfl (by kernel_rfl) (by kernel_rfl) (by kernel_rfl) (fun _ _ _ h => h) (Or.inl ⟨by rfl, ?_⟩) hS ?_
  rotate_left
  · intro wz hSw; go_simp; (try with_reducible rfl)
  try simp only [List.getElem_toArray, List.getElem_cons_zero, List.getElem_cons_succ, Act.put, List.setIfInBounds_toArray, List.set_cons_zero, List.set_cons_succ]
  refine wpAnyH_take (i := 18) (v := ?_) rfl (by kernel_rfl) (by kernel_rfl) (by kernel_rfl) (fun _ _ _ h => h) (Or.inl ⟨by rfl, ?_⟩) hS ?_
  rotate_left
  · intro wz hSw; go_simp; (try with_reducible rfl)
  try simp only [List.getElem_toArray, List.getElem_cons_zero, List.getElem_cons_succ, Act.put, List.setIfInBounds_toArray, List.set_cons_zero, List.set_cons_succ]
  refine wpAnyH_take (i := 19) (v := ?_) rfl (by kernel_rfl) (by kernel_rfl) (by kernel_rfl) (fun _ _ _ h => h) (Or.inl ⟨by rfl, ?_⟩) hS ?_
  rotate_left
  · intro wz hSw; go_simp; (try with_reducible rfl)
  try simp only [List.getElem_toArray, List.getElem_cons_zero, List.getElem_cons_succ, Act.put, List.setIfInBounds_toArray, List.set_cons_zero, List.set_cons_succ]
  refine wpAnyH_ready (rs := [17]) (by kernel_rfl) (by simp) (AllReadyH.cons rfl (fun K hK => ?_) AllReadyH.nil)
  go_simp
  go_at_call 16
  refine (D01.out _ hS.1).mono ?_
  rintro e wI ⟨rfl, rfl⟩
  go_wp2_with fail
  have hS := hS
  refine hK.out _ _ hS (fun _ => ?_)
  clear hK K
  try simp only [List.getElem_toArray, List.getElem_cons_zero, List.getElem_cons_succ, Act.put, List.setIfInBounds_toArray, List.set_cons_zero, List.set_cons_succ]
  refine wpAnyH_ready (rs := [20]) (by kernel_rfl) (by simp) (AllReadyH.cons rfl (fun K hK => ?_) AllReadyH.nil)
  go_simp
  go_at_call 17
  refine (E01.out _ hS.1).mono ?_
  rintro e wJ ⟨rfl, hbJ⟩
  go_wp2_with fail
  have hS := (show _ ∧ _ from ⟨next_below hS.1 hbJ, next_below hS.2 hbJ⟩)
  refine hK.out _ _ hS (fun _ => ?_)
  clear hK K
  try simp only [List.getElem_toArray, List.getElem_cons_zero, List.getElem_cons_succ, Act.put, List.setIfInBounds_toArray, List.set_cons_zero, List.set_cons_succ]
  refine wpAnyH_take (i := 21) (v := ?_) rfl (by kernel_rfl) (by kernel_rfl) (by kernel_rfl) (fun _ _ _ h => h) (Or.inl ⟨by rfl, ?_⟩) hS ?_
  rotate_left
  · intro wz hSw; go_simp; (try with_reducible rfl)
  try simp only [List.getElem_toArray, List.getElem_cons_zero, List.getElem_cons_succ, Act.put, List.setIfInBounds_toArray, List.set_cons_zero, List.set_cons_succ]
  refine wpAnyH_take (i := 22) (v := ?_) rfl (by kernel_rfl) (by kernel_rfl) (by kernel_rfl) (fun _ _ _ h => h) (Or.inl ⟨by rfl, ?_⟩) hS ?_
  rotate_left
  · intro wz hSw; go_simp; (try with_reducible rfl)
  try simp only [List.getElem_toArray, List.getElem_cons_zero, List.getElem_cons_succ, Act.put, List.setIfInBounds_toArray, List.set_cons_zero, List.set_cons_succ]
  refine wpAnyH_take (i := 23) (v := ?_) rfl (by kernel_rfl) (by kernel_rfl) (by kernel_rfl) (fun _ _ _ h => h) (Or.inl ⟨by rfl, ?_⟩) hS ?_
  rotate_left
  · intro wz hSw; go_simp; (try with_reducible rfl)
  try simp only [List.getElem_toArray, List.getElem_cons_zero, List.getElem_cons_succ, Act.put, List.setIfInBounds_toArray, List.set_cons_zero, List.set_cons_succ]
  refine wpAnyH_take (i := 24) (v := ?_) rfl (by kernel_rfl) (by kernel_rfl) (by kernel_rfl) (fun _ _ _ h => h) (Or.inl ⟨by rfl, ?_⟩) hS ?_
  rotate_left
  · intro wz hSw; go_simp; (try with_reducible rfl)
  try simp only [List.getElem_toArray, List.getElem_cons_zero, List.getElem_cons_succ, Act.put, List.setIfInBounds_toArray, List.set_cons_zero, List.set_cons_succ]
  refine wpAnyH_take (i := 25) (v := ?_) rfl (by kernel_rfl) (by kernel_rfl) (by kernel_rfl) (fun _ _ _ h => h) (Or.inl ⟨by rfl, ?_⟩) hS ?_
  rotate_left
  · intro wz hSw; go_simp; (try with_reducible rfl)
  try simp only [List.getElem_toArray, List.getElem_cons_zero, List.getElem_cons_succ, Act.put, List.setIfInBounds_toArray, List.set_cons_zero, List.set_cons_succ]
  refine wpAnyH_ready (rs := [26]) (by kernel_rfl) (by simp) (AllReadyH.cons rfl (fun K hK => ?_) AllReadyH.nil)
  go_simp
  go_at_call 18
  refine (CI.out _ _ _ _ _ (HI1b.out.below hS.2) (HI2.out.below hS.2)).mono ?_
  rintro e wK ⟨rfl, hbK⟩
  go_wp2_with fail
  have hS := (show _ ∧ _ from ⟨next_below hS.1 hbK, next_below hS.2 hbK⟩)
  refine hK.out _ _ hS (fun _ => ?_)
  clear hK K
  try simp only [List.getElem_toArray, List.getElem_cons_zero, List.getElem_cons_succ, Act.put, List.setIfInBounds_toArray, List.set_cons_zero, List.set_cons_succ]
  refine wpAnyH_take (i := 27) (v := ?_) rfl (by kernel_rfl) (by kernel_rfl) (by kernel_rfl) (fun _ _ _ h => h) (Or.inl ⟨by rfl, ?_⟩) hS ?_
  rotate_left
  · intro wz hSw; go_simp; (try with_reducible rfl)
  try simp only [List.getElem_toArray, List.getElem_cons_zero, List.getElem_cons_succ, Act.put, List.setIfInBounds_toArray, List.set_cons_zero, List.set_cons_succ]
  refine wpAnyH_take (i := 28) (v := ?_) rfl (by kernel_rfl) (by kernel_rfl) (by kernel_rfl) (fun _ _ _ h => h) (Or.inl ⟨by rfl, ?_⟩) hS ?_
  rotate_left
  · intro wz hSw; go_simp; (try with_reducible rfl)
  try simp only [List.getElem_toArray, List.getElem_cons_zero, List.getElem_cons_succ, Act.put, List.setIfInBounds_toArray, List.set_cons_zero, List.set_cons_succ]
  refine wpAnyH_take (i := 29) (v := ?_) rfl (by kernel_rfl) (by kernel_rfl) (by kernel_rfl) (fun _ _ _ h => h) (Or.inl ⟨by rfl, ?_⟩) hS ?_
  rotate_left
  · intro wz hSw; go_simp; (try with_reducible rfl)
  try simp only [List.getElem_toArray, List.getElem_cons_zero, List.getElem_cons_succ, Act.put, List.setIfInBounds_toArray, List.set_cons_zero, List.set_cons_succ]
  refine wpAnyH_take (i := 30) (v := ?_) rfl (by kernel_rfl) (by kernel_rfl) (by kernel_rfl) (fun _ _ _ h => h) (Or.inl ⟨by rfl, ?_⟩) hS ?_
  rotate_left
  · intro wz hSw; go_simp; (try with_reducible rfl)
  try simp only [List.getElem_toArray, List.getElem_cons_zero, List.getElem_cons_succ, Act.put, List.setIfInBounds_toArray, List.set_cons_zero, List.set_cons_succ]
  refine wpAnyH_ready (rs := [31]) (by kernel_rfl) (by simp) (AllReadyH.cons rfl (fun K hK => ?_) AllReadyH.nil)
  go_simp
  go_at_call 11
  refine (CS3.out _ _ _ _ _ (HR1b.out.below hS.2) (HR2.out.below hS.2)).mono ?_
  rintro e wM ⟨rfl, hbM⟩
  go_wp2_with fail
  have hS := (show _ ∧ _ from ⟨next_below hS.1 hbM, next_below hS.2 hbM⟩)
  refine hK.out _ _ hS (fun _ => ?_)
  clear hK K
  try simp only [List.getElem_toArray, List.getElem_cons_zero, List.getElem_cons_succ, Act.put, List.setIfInBounds_toArray, List.set_cons_zero, List.set_cons_succ]
  refine wpAnyH_take (i := 32) (v := ?_) rfl (by kernel_rfl) (by kernel_rfl) (by kernel_rfl) (fun _ _ _ h => h) (Or.inl ⟨by rfl, ?_⟩) hS ?_
  rotate_left
  · intro wz hSw; go_simp; (try with_reducible rfl)
  try simp only [List.getElem_toArray, List.getElem_cons_zero, List.getElem_cons_succ, Act.put, List.setIfInBounds_toArray, List.set_cons_zero, List.set_cons_succ]
  refine wpAnyH_take (i := 33) (v := ?_) rfl (by kernel_rfl) (by kernel_rfl) (by kernel_rfl) (fun _ _ _ h => h) (Or.inl ⟨by rfl, ?_⟩) hS ?_
  rotate_left
  · intro wz hSw; go_simp; (try with_reducible rfl)
  try simp only [List.getElem_toArray, List.getElem_cons_zero, List.getElem_cons_succ, Act.put, List.setIfInBounds_toArray, List.set_cons_zero, List.set_cons_succ]
  refine wpAnyH_take (i := 34) (v := ?_) rfl (by kernel_rfl) (by kernel_rfl) (by kernel_rfl) (fun _ _ _ h => h) (Or.inl ⟨by rfl, ?_⟩) hS ?_
  rotate_left
  · intro wz hSw; go_simp; (try with_reducible rfl)
  try simp only [List.getElem_toArray, List.getElem_cons_zero, List.getElem_cons_succ, Act.put, List.setIfInBounds_toArray, List.set_cons_zero, List.set_cons_succ]
  refine wpAnyH_take (i := 37) (v := ?_) rfl (by kernel_rfl) (by kernel_rfl) (by kernel_rfl) (fun _ _ _ h => h) (Or.inl ⟨by rfl, ?_⟩) hS ?_
  rotate_left
  · intro wz hSw; go_simp; (try with_reducible rfl)
  try simp only [List.getElem_toArray, List.getElem_cons_zero, List.getElem_cons_succ, Act.put, List.setIfInBounds_toArray, List.set_cons_zero, List.set_cons_succ]
  refine wpAnyH_ready (rs := [35]) (by kernel_rfl) (by simp) (AllReadyH.cons rfl (fun K hK => ?_) AllReadyH.nil)
  go_simp
  go_at_call 19
  refine (CB0.out _ hS.1).mono ?_
  rintro e wA ⟨gA, cA, rfl, hRA, hbA⟩
  go_wp2_with fail
  have hS := (show _ ∧ _ from ⟨next_below hS.1 hbA, next_below hS.2 hbA⟩)
  refine hK.out _ _ hS (fun _ => ?_)
  clear hK K
  try simp only [List.getElem_toArray, List.getElem_cons_zero, List.getElem_cons_succ, Act.put, List.setIfInBounds_toArray, List.set_cons_zero, List.set_cons_succ]
  refine held_monoT (S' := fun w' => (Below w.heap.size w w' ∧ Below w2.heap.size w2 w') ∧ RdN w' (some ⟨gA, 0, none⟩) X) (fun _ h => h.1) _ _ _ _ ?_
  replace hS : (Below w.heap.size w wA ∧ Below w2.heap.size w2 wA) ∧ RdN wA (some ⟨gA, 0, none⟩) X := ⟨hS, hRA⟩
  refine wpAnyH_take (i := 36) (v := ?_) rfl (by kernel_rfl) (by kernel_rfl) (by kernel_rfl) (fun _ _ _ h => h) (Or.inl ⟨by rfl, ?_⟩) hS ?_
  rotate_left
  · intro wz hSw; have hvA := HCV.out wz (some ⟨gA, 0, none⟩) cA _ X rfl hSw.2; go_simp; (try with_reducible rfl)
  try simp only [List.getElem_toArray, List.getElem_cons_zero, List.getElem_cons_succ, Act.put, List.setIfInBounds_toArray, List.set_cons_zero, List.set_cons_succ]
  refine wpAnyH_ready (rs := [38]) (by kernel_rfl) (by simp) (AllReadyH.cons rfl (fun K hK => ?_) AllReadyH.nil)
  go_simp
  go_at_call 20
  refine (CB1.out _ hS.1.1).mono ?_
  rintro e wC ⟨gC, cC, rfl, hRC, hbC⟩
  go_wp2_with fail
  have hS := (show (_ ∧ _) ∧ _ from ⟨⟨next_below hS.1.1 hbC, next_below hS.1.2 hbC⟩, hS.2.below hbC⟩)
  refine hK.out _ _ hS (fun _ => ?_)
  clear hK K
  try simp only [List.getElem_toArray, List.getElem_cons_zero, List.getElem_cons_succ, Act.put, List.setIfInBounds_toArray, List.set_cons_zero, List.set_cons_succ]
  refine held_monoT (S' := fun w' => ((Below w.heap.size w w' ∧ Below w2.heap.size w2 w') ∧ RdN w' (some ⟨gA, 0, none⟩) X) ∧ RdN w' (some ⟨gC, 0, none⟩) X) (fun _ h => h.1) _ _ _ _ ?_
  replace hS : ((Below w.heap.size w wC ∧ Below w2.heap.size w2 wC) ∧ RdN wC (some ⟨gA, 0, none⟩) X) ∧ RdN wC (some ⟨gC, 0, none⟩) X := ⟨hS, hRC⟩
  refine wpAnyH_take (i := 39) (v := ?_) rfl (by kernel_rfl) (by kernel_rfl) (by kernel_rfl) (fun _ _ _ h => h) (Or.inl ⟨by rfl, ?_⟩) hS ?_
  rotate_left
  · intro wz hSw; have hvC := HCV.out wz (some ⟨gC, 0, none⟩) cC _ X rfl hSw.2; go_simp; (try with_reducible rfl)
  try simp only [List.getElem_toArray, List.getElem_cons_zero, List.getElem_cons_succ, Act.put, List.setIfInBounds_toArray, List.set_cons_zero, List.set_cons_succ]
  refine wpAnyH_take (i := 40) (v := ?_) rfl (by kernel_rfl) (by kernel_rfl) (by kernel_rfl) (fun _ _ _ h => h) (Or.inl ⟨by rfl, ?_⟩) hS ?_
  rotate_left
  · intro wz hSw; go_simp; (try with_reducible rfl)
  try simp only [List.getElem_toArray, List.getElem_cons_zero, List.getElem_cons_succ, Act.put, List.setIfInBounds_toArray, List.set_cons_zero, List.set_cons_succ]
  refine wpAnyH_take (i := 41) (v := ?_) rfl (by kernel_rfl) (by kernel_rfl) (by kernel_rfl) (fun _ _ _ h => h) (Or.inl ⟨by rfl, ?_⟩) hS ?_
  rotate_left
  · intro wz hSw; go_simp; (try with_reducible rfl)
  try simp only [List.getElem_toArray, List.getElem_cons_zero, List.getElem_cons_succ, Act.put, List.setIfInBounds_toArray, List.set_cons_zero, List.set_cons_succ]
  refine wpAnyH_take (i := 42) (v := ?_) rfl (by kernel_rfl) (by kernel_rfl) (by kernel_rfl) (fun _ _ _ h => h) (Or.inl ⟨by rfl, ?_⟩) hS ?_
  rotate_left
  · intro wz hSw; go_simp; (try with_reducible rfl)
  try simp only [List.getElem_toArray, List.getElem_cons_zero, List.getElem_cons_succ, Act.put, List.setIfInBounds_toArray, List.set_cons_zero, List.set_cons_succ]
  refine wpAnyH_ready (rs := [43]) (by kernel_rfl) (by simp) (AllReadyH.cons rfl (fun K hK => ?_) AllReadyH.nil)
  go_simp
  go_at_call 8
  refine (awake_any _).mono ?_
  rintro e wW ⟨rfl, hbW⟩
  go_wp2_with fail
  have hS := (show ((_ ∧ _) ∧ _) ∧ _ from ⟨⟨⟨next_below hS.1.1.1 hbW, next_below hS.1.1.2 hbW⟩, hS.1.2.below hbW⟩, hS.2.below hbW⟩)
  refine hK.out _ _ hS (fun _ => ?_)
  clear hK K
  try simp only [List.getElem_toArray, List.getElem_cons_zero, List.getElem_cons_succ, Act.put, List.setIfInBounds_toArray, List.set_cons_zero, List.set_cons_succ]
  refine wpAnyH_take (i := 44) (v := ?_) rfl (by kernel_rfl) (by kernel_rfl) (by kernel_rfl) (fun _ _ _ h => h) (Or.inl ⟨by rfl, ?_⟩) hS ?_
  rotate_left
  · intro wz hSw; go_simp; (try with_reducible rfl)
  try simp only [List.getElem_toArray, List.getElem_cons_zero, List.getElem_cons_succ, Act.put, List.setIfInBounds_toArray, List.set_cons_zero, List.set_cons_succ]
  refine wpAnyH_take (i := 45) (v := ?_) rfl (by kernel_rfl) (by kernel_rfl) (by kernel_rfl) (fun _ _ _ h => h) (Or.inl ⟨by rfl, ?_⟩) hS ?_
  rotate_left
  · intro wz hSw; go_simp; (try with_reducible rfl)
  try simp only [List.getElem_toArray, List.getElem_cons_zero, List.getElem_cons_succ, Act.put, List.setIfInBounds_toArray, List.set_cons_zero, List.set_cons_succ]
  refine wpAnyH_done (by kernel_rfl) ?_ _
  go_wp2_with fail
  go_ret
  exact ⟨rfl, hS.1.1.1⟩

theorem tells_walk (v0 v1 : Value) (k : Int) (w : World) (h0 : OkWords w v0) (h1 : OkWords w v1) (_hk : -9223372036854775808 ≤ k ∧ k < 9223372036854775808) :
    Calls Try.prog 3 #[v0, v1, .int .i64 k] w fun e w' => e = .returned (.bool true) ∧ Below w.heap.size w w' := by
  obtain ⟨A0, c0, L0, rfl, o0, r0, l0, m0, _⟩ := h0
  obtain ⟨A1, c1, L1, rfl, o1, r1, l1, m1, _⟩ := h1
  have G0 := Lib.hid (great_any A0 c0 L0 w r0 (by omega))
  have G1 := Lib.hid (great_any A1 c1 L1 w r1 (by omega))
  cases b0 : gW L0 <;> cases b1 : gW L1
  case false.false => exact tells_main A0 A1 c0 c1 L0 L1 k w r0 r1 o0 o1 b0 b1
  all_goals
    rw [b0] at G0
    rw [b1] at G1
    clear b0 b1 r0 r1 o0 o1
    generalize L0.length = n0 at *
    generalize L1.length = n1 at *
    go_enter Try.func3, Try.ntmps3
    go_wp2_with (first
      | (go_at_call 7; (first | (with_reducible refine G0.out.mono ?_) | (with_reducible refine G1.out.mono ?_)); rintro e wx ⟨rfl, rfl⟩)
      | (go_at_call 8; refine (awake_any _).mono ?_; rintro e wx ⟨rfl, hb⟩))
    go_ret
    exact ⟨rfl, hb⟩
end Go.Proofs.Ytmnkghbbcjnlfaa
