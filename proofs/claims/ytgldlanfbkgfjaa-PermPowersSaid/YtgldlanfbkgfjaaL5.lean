/- The law PermPowers (layer 3): its walk. -/
import Derived.Test.YtgldlanfbkgfjaaP10
import Derived.Test.YtgldlanfbkgfjaaPI
import Derived.Deep.RegionHeld
namespace Go.Proofs.Ytgldlanfbkgfjaa
open Go.RowKit

theorem iz_eq {p q : List Nat} (b : Bool) (h : p = q ↔ b = true) : decide (iz p = iz q) = b := by
  cases b with
  | true => exact decide_eq_true (congrArg iz (h.2 rfl))
  | false =>
    refine decide_eq_false (fun e => ?_)
    have := h.1 (iz_inj e)
    cases this
set_option maxRecDepth 100000 in
set_option maxHeartbeats 8000000 in
theorem powers_main (A : Option Addr) (c n : Nat) (p : List Nat) (j k : Int) (w : World) (hA : RdZ w A (iz p)) (hp : Perm n p) (hn : n ≤ 200) (hj : -2147483648 ≤ j ∧ j < 2147483648) (hk : -2147483648 ≤ k ∧ k < 2147483648) :
    Calls Try.prog 5 #[.slice A n c, .int .i32 j, .int .i32 k] w fun e w' => e = .returned (.bool true) ∧ Below w.heap.size w w' := by
  have RP := Lib.hid hA
  have HP := Lib.hid hp
  have HP1 := Lib.hid (perm_right hp hn)
  have hcj : IntKind.i64.wrap j = j := IntWalk.i64_in _ (by omega)
  have hck : IntKind.i64.wrap k = k := IntWalk.i64_in _ (by omega)
  have hcs : IntKind.i64.wrap (j + k) = j + k := IntWalk.i64_in _ (by omega)
  obtain ⟨ho1, ho2⟩ := ord_small hp hn
  obtain ⟨bb, hbb⟩ : ∃ bb, bb = decide ((ord n p : Int) ∣ j) := ⟨_, rfl⟩
  have HBB : Hid (powP n p j = List.range n ↔ bb = true) := by
    show _ ↔ _
    rw [hbb, decide_eq_true_iff]
    exact pow_id hp j
  have HPO : Hid (powP n p (ord n p : Nat) = List.range n) := (pow_id hp _).2 (Int.dvd_refl _)
  have HADD := Lib.hid (pow_add hp j k)
  have HONE := Lib.hid (pow_one hp)
  obtain ⟨N, hN⟩ : ∃ N, N = ord n p := ⟨_, rfl⟩
  obtain ⟨r, hr⟩ : ∃ r, j.tmod (N : Int) = r := ⟨_, rfl⟩
  have hr0 : (r == 0) = bb := by
    rw [hbb, ← hr, hN]
    rw [Bool.eq_iff_iff, beq_iff_eq, decide_eq_true_iff]
    exact (Int.dvd_iff_tmod_eq_zero ..).symm
  rw [← hN] at ho1 ho2 HPO
  have HORD := Lib.hid hN
  have hN0 : ¬ (N : Int) = 0 := by omega
  have hN1 : ¬ N = 0 := by omega
  have hN2 : decide ((N : Int) < 1) = false := by rw [decide_eq_false_iff_not]; omega
  clear hA hp hbb hN
  go_enter Try.func5, Try.ntmps5
  go_wp2_with fail
  refine (rightP_any A c n (iz p) w RP.out (izl HP.out) (by omega)).mono ?_
  rintro e w1 ⟨rfl, hb⟩
  rw [HP1.out]
  have RP := Lib.hid (RP.out.below hb)
  have HB := Lib.hid hb
  clear  hb
  go_wp2_with fail
  refine (power_yes A c n p j w1 RP.out HP.out hn (by omega) (by omega)).mono ?_
  rintro e w2 ⟨K1, rfl, hz, _, hb⟩
  have RP := Lib.hid (RP.out.below hb)
  have HB := Lib.hid (next_below HB.out hb)
  have Z1 := Lib.hid hz
  clear hz hb
  go_wp2_with fail
  refine (power_yes A c n p k w2 RP.out HP.out hn (by omega) (by omega)).mono ?_
  rintro e w3 ⟨K2, rfl, hz, _, hb⟩
  have RP := Lib.hid (RP.out.below hb)
  have Z1 := Lib.hid (Z1.out.below hb)
  have HB := Lib.hid (next_below HB.out hb)
  have Z2 := Lib.hid hz
  clear hz hb
  go_wp2_with fail
  refine (power_yes A c n p (j + k) w3 RP.out HP.out hn (by omega) (by omega)).mono ?_
  rintro e w4 ⟨K3, rfl, hz, _, hb⟩
  have RP := Lib.hid (RP.out.below hb)
  have Z1 := Lib.hid (Z1.out.below hb)
  have Z2 := Lib.hid (Z2.out.below hb)
  have HB := Lib.hid (next_below HB.out hb)
  have Z3 := Lib.hid hz
  clear hz hb
  go_wp2_with fail
  refine (both_yes (some ⟨K1, 0, none⟩) (some ⟨K2, 0, none⟩) n n n (powP n p j) (powP n p k) w4 Z1.out.rd Z2.out.rd (HP.out.pow j) (HP.out.pow k) hn).mono ?_
  rintro e w5 ⟨K4, rfl, hz, _, hb⟩
  have RP := Lib.hid (RP.out.below hb)
  have Z1 := Lib.hid (Z1.out.below hb)
  have Z2 := Lib.hid (Z2.out.below hb)
  have Z3 := Lib.hid (Z3.out.below hb)
  have HB := Lib.hid (next_below HB.out hb)
  have Z4 := Lib.hid hz
  clear hz hb
  go_wp2_with fail
  refine (power_yes A c n p 1 w5 RP.out HP.out hn (by omega) (by omega)).mono ?_
  rintro e w6 ⟨K5, rfl, hz, _, hb⟩
  have RP := Lib.hid (RP.out.below hb)
  have Z1 := Lib.hid (Z1.out.below hb)
  have Z2 := Lib.hid (Z2.out.below hb)
  have Z3 := Lib.hid (Z3.out.below hb)
  have Z4 := Lib.hid (Z4.out.below hb)
  have HB := Lib.hid (next_below HB.out hb)
  have Z5 := Lib.hid hz
  clear hz hb
  go_wp2_with fail
  refine (order_yes A c n p w6 RP.out HP.out hn).mono ?_
  rintro e w7 ⟨rfl, hb⟩
  rw [← HORD.out]
  have RP := Lib.hid (RP.out.below hb)
  have Z1 := Lib.hid (Z1.out.below hb)
  have Z2 := Lib.hid (Z2.out.below hb)
  have Z3 := Lib.hid (Z3.out.below hb)
  have Z4 := Lib.hid (Z4.out.below hb)
  have Z5 := Lib.hid (Z5.out.below hb)
  have HB := Lib.hid (next_below HB.out hb)
  clear  hb
  have hsz := sameZ_any (some ⟨K3, 0, none⟩) (some ⟨K4, 0, none⟩) n n n n (iz (powP n p (j + k))) (iz (compP (powP n p j) (powP n p k))) w7 Z3.out.rd Z4.out.rd (by omega) (by omega) (izl (HP.out.pow (j + k))) (izl ((HP.out.pow j).comp (HP.out.pow k)))
  rw [decide_eq_true (congrArg iz HADD.out.symm)] at hsz
  have HSZ := Lib.hid hsz
  clear hsz
  go_wp2_with fail
  refine (HSZ.out).mono ?_
  rintro e w8 ⟨rfl, hb⟩
  have RP := Lib.hid (RP.out.below hb)
  have Z1 := Lib.hid (Z1.out.below hb)
  have Z5 := Lib.hid (Z5.out.below hb)
  have HB := Lib.hid (next_below HB.out hb)
  clear  hb
  have hsz := sameZ_any (some ⟨K5, 0, none⟩) A n c n n (iz (powP n p 1)) (iz p) w8 Z5.out.rd RP.out (by omega) (by omega) (izl (HP.out.pow 1)) (izl HP.out)
  rw [decide_eq_true (congrArg iz HONE.out)] at hsz
  have HSZ := Lib.hid hsz
  clear hsz
  go_wp2_with fail
  refine (HSZ.out).mono ?_
  rintro e w9 ⟨rfl, hb⟩
  have RP := Lib.hid (RP.out.below hb)
  have Z1 := Lib.hid (Z1.out.below hb)
  have HB := Lib.hid (next_below HB.out hb)
  clear  hb
  go_wp2_with fail
  refine (ident_yes n w9 hn).mono ?_
  rintro e w10 ⟨KI, rfl, hz, _, hb⟩
  have RP := Lib.hid (RP.out.below hb)
  have Z1 := Lib.hid (Z1.out.below hb)
  have HB := Lib.hid (next_below HB.out hb)
  have ZI := Lib.hid hz
  clear hz hb
  go_wp2_with fail
  refine (power_yes A c n p ((N : Nat) : Int) w10 RP.out HP.out hn (by omega) (by omega)).mono ?_
  rintro e w11 ⟨K6, rfl, hz, _, hb⟩
  have RP := Lib.hid (RP.out.below hb)
  have Z1 := Lib.hid (Z1.out.below hb)
  have ZI := Lib.hid (ZI.out.below hb)
  have HB := Lib.hid (next_below HB.out hb)
  have Z6 := Lib.hid hz
  clear hz hb
  go_wp2_with fail
  have hs1 : ∀ W : World, Below w11.heap.size w11 W → Calls Try.prog 18 #[.slice (some ⟨K6, 0, none⟩) n n, .slice (some ⟨KI, 0, none⟩) n n] W fun e w' => e = .returned (.bool true) ∧ Below W.heap.size W w' := fun W hb => by
    have h := sameZ_any (some ⟨K6, 0, none⟩) (some ⟨KI, 0, none⟩) n n n n (iz (powP n p ((N : Nat) : Int))) (iz (List.range n)) W (Z6.out.below hb).rd (ZI.out.below hb).rd (by omega) (by omega) (izl (HP.out.pow _)) (izl (perm_range n))
    rw [decide_eq_true (congrArg iz HPO.out)] at h
    exact h
  have hs2 : ∀ W : World, Below w11.heap.size w11 W → Calls Try.prog 18 #[.slice (some ⟨K1, 0, none⟩) n n, .slice (some ⟨KI, 0, none⟩) n n] W fun e w' => e = .returned (.bool bb) ∧ Below W.heap.size W w' := fun W hb => by
    have h := sameZ_any (some ⟨K1, 0, none⟩) (some ⟨KI, 0, none⟩) n n n n (iz (powP n p j)) (iz (List.range n)) W (Z1.out.below hb).rd (ZI.out.below hb).rd (by omega) (by omega) (izl (HP.out.pow _)) (izl (perm_range n))
    rw [iz_eq bb HBB.out] at h
    exact h
  have HS1 := Lib.hid hs1
  have HS2 := Lib.hid hs2
  clear hs1 hs2 hj hk ho1 ho2 hck hcs hn
  refine wp_region_held_drew (S := fun wz => Below w11.heap.size w11 wz) (by kernel_rfl) ⟨rfl, rfl, rfl, Nat.le_refl _, fun _ _ => rfl⟩ (fun hS => ?_)
  refine wpAnyH_take (i := 0) (v := ?_) rfl (by kernel_rfl) (by kernel_rfl) (by kernel_rfl) (fun _ _ _ h => h) (Or.inl ⟨by rfl, ?_⟩) hS ?_
  rotate_left
  · intro wz hSw; (try dsimp only at hSw); go_simp; (try with_reducible rfl)
  try simp only [List.getElem_toArray, List.getElem_cons_zero, List.getElem_cons_succ, Act.put, List.setIfInBounds_toArray, List.set_cons_zero, List.set_cons_succ]
  refine wpAnyH_take (i := 1) (v := ?_) rfl (by kernel_rfl) (by kernel_rfl) (by kernel_rfl) (fun _ _ _ h => h) (Or.inl ⟨by rfl, ?_⟩) hS ?_
  rotate_left
  · intro wz hSw; (try dsimp only at hSw); go_simp; (try with_reducible rfl)
  try simp only [List.getElem_toArray, List.getElem_cons_zero, List.getElem_cons_succ, Act.put, List.setIfInBounds_toArray, List.set_cons_zero, List.set_cons_succ]
  refine wpAnyH_take (i := 2) (v := ?_) rfl (by kernel_rfl) (by kernel_rfl) (by kernel_rfl) (fun _ _ _ h => h) (Or.inl ⟨by rfl, ?_⟩) hS ?_
  rotate_left
  · intro wz hSw; (try dsimp only at hSw); go_simp; (try with_reducible rfl)
  try simp only [List.getElem_toArray, List.getElem_cons_zero, List.getElem_cons_succ, Act.put, List.setIfInBounds_toArray, List.set_cons_zero, List.set_cons_succ]
  refine wpAnyH_take (i := 3) (v := ?_) rfl (by kernel_rfl) (by kernel_rfl) (by kernel_rfl) (fun _ _ _ h => h) (Or.inl ⟨by rfl, ?_⟩) hS ?_
  rotate_left
  · intro wz hSw; (try dsimp only at hSw); go_simp; (try with_reducible rfl)
  try simp only [List.getElem_toArray, List.getElem_cons_zero, List.getElem_cons_succ, Act.put, List.setIfInBounds_toArray, List.set_cons_zero, List.set_cons_succ]
  refine wpAnyH_take (i := 4) (v := ?_) rfl (by kernel_rfl) (by kernel_rfl) (by kernel_rfl) (fun _ _ _ h => h) (Or.inl ⟨by rfl, ?_⟩) hS ?_
  rotate_left
  · intro wz hSw; (try dsimp only at hSw); go_simp; (try with_reducible rfl)
  try simp only [List.getElem_toArray, List.getElem_cons_zero, List.getElem_cons_succ, Act.put, List.setIfInBounds_toArray, List.set_cons_zero, List.set_cons_succ]
  refine wpAnyH_ready (rs := [5]) (by kernel_rfl) (by simp) (AllReadyH.cons rfl (fun K hK => ?_) AllReadyH.nil)
  go_simp
  go_at_call 18
  refine (HS1.out _ hS).mono ?_
  rintro e w30 ⟨rfl, hb30⟩
  go_wp2_with fail
  have hS := next_below hS hb30
  refine hK.out _ _ hS (fun _ => ?_)
  clear hK K
  try simp only [List.getElem_toArray, List.getElem_cons_zero, List.getElem_cons_succ, Act.put, List.setIfInBounds_toArray, List.set_cons_zero, List.set_cons_succ]
  refine wpAnyH_take (i := 6) (v := ?_) rfl (by kernel_rfl) (by kernel_rfl) (by kernel_rfl) (fun _ _ _ h => h) (Or.inl ⟨by rfl, ?_⟩) hS ?_
  rotate_left
  · intro wz hSw; (try dsimp only at hSw); go_simp; (try with_reducible rfl)
  try simp only [List.getElem_toArray, List.getElem_cons_zero, List.getElem_cons_succ, Act.put, List.setIfInBounds_toArray, List.set_cons_zero, List.set_cons_succ]
  refine wpAnyH_take (i := 7) (v := ?_) rfl (by kernel_rfl) (by kernel_rfl) (by kernel_rfl) (fun _ _ _ h => h) (Or.inl ⟨by rfl, ?_⟩) hS ?_
  rotate_left
  · intro wz hSw; (try dsimp only at hSw); go_simp; (try with_reducible rfl)
  try simp only [List.getElem_toArray, List.getElem_cons_zero, List.getElem_cons_succ, Act.put, List.setIfInBounds_toArray, List.set_cons_zero, List.set_cons_succ]
  refine wpAnyH_take (i := 8) (v := ?_) rfl (by kernel_rfl) (by kernel_rfl) (by kernel_rfl) (fun _ _ _ h => h) (Or.inl ⟨by rfl, ?_⟩) hS ?_
  rotate_left
  · intro wz hSw; (try dsimp only at hSw); go_simp; (try with_reducible rfl)
  try simp only [List.getElem_toArray, List.getElem_cons_zero, List.getElem_cons_succ, Act.put, List.setIfInBounds_toArray, List.set_cons_zero, List.set_cons_succ]
  refine wpAnyH_take (i := 9) (v := ?_) rfl (by kernel_rfl) (by kernel_rfl) (by kernel_rfl) (fun _ _ _ h => h) (Or.inl ⟨by rfl, ?_⟩) hS ?_
  rotate_left
  · intro wz hSw; (try dsimp only at hSw); go_simp; (try with_reducible rfl)
  try simp only [List.getElem_toArray, List.getElem_cons_zero, List.getElem_cons_succ, Act.put, List.setIfInBounds_toArray, List.set_cons_zero, List.set_cons_succ]
  refine wpAnyH_take (i := 11) (v := ?_) rfl (by kernel_rfl) (by kernel_rfl) (by kernel_rfl) (fun _ _ _ h => h) (Or.inl ⟨by rfl, ?_⟩) hS ?_
  rotate_left
  · intro wz hSw; (try dsimp only at hSw); go_simp; (try with_reducible rfl)
  try simp only [List.getElem_toArray, List.getElem_cons_zero, List.getElem_cons_succ, Act.put, List.setIfInBounds_toArray, List.set_cons_zero, List.set_cons_succ]
  refine wpAnyH_take (i := 12) (v := ?_) rfl (by kernel_rfl) (by kernel_rfl) (by kernel_rfl) (fun _ _ _ h => h) (Or.inl ⟨by rfl, ?_⟩) hS ?_
  rotate_left
  · intro wz hSw; (try dsimp only at hSw); go_simp; (try with_reducible rfl)
  try simp only [List.getElem_toArray, List.getElem_cons_zero, List.getElem_cons_succ, Act.put, List.setIfInBounds_toArray, List.set_cons_zero, List.set_cons_succ]
  refine wpAnyH_take (i := 13) (v := ?_) rfl (by kernel_rfl) (by kernel_rfl) (by kernel_rfl) (fun _ _ _ h => h) (Or.inl ⟨by rfl, ?_⟩) hS ?_
  rotate_left
  · intro wz hSw; (try dsimp only at hSw); go_simp; (try with_reducible rfl)
  try simp only [List.getElem_toArray, List.getElem_cons_zero, List.getElem_cons_succ, Act.put, List.setIfInBounds_toArray, List.set_cons_zero, List.set_cons_succ]
  refine wpAnyH_take (i := 14) (v := ?_) rfl (by kernel_rfl) (by kernel_rfl) (by kernel_rfl) (fun _ _ _ h => h) (Or.inl ⟨by rfl, ?_⟩) hS ?_
  rotate_left
  · intro wz hSw; (try dsimp only at hSw); go_simp; (try with_reducible rfl)
  try simp only [List.getElem_toArray, List.getElem_cons_zero, List.getElem_cons_succ, Act.put, List.setIfInBounds_toArray, List.set_cons_zero, List.set_cons_succ]
  refine wpAnyH_take (i := 15) (v := ?_) rfl (by kernel_rfl) (by kernel_rfl) (by kernel_rfl) (fun _ _ _ h => h) (Or.inl ⟨by rfl, ?_⟩) hS ?_
  rotate_left
  · intro wz hSw; (try dsimp only at hSw); go_simp; (try with_reducible rfl)
  try simp only [List.getElem_toArray, List.getElem_cons_zero, List.getElem_cons_succ, Act.put, List.setIfInBounds_toArray, List.set_cons_zero, List.set_cons_succ]
  refine wpAnyH_ready (rs := [10]) (by kernel_rfl) (by simp) (AllReadyH.cons rfl (fun K hK => ?_) AllReadyH.nil)
  go_simp
  go_at_call 18
  refine (HS2.out _ hS).mono ?_
  rintro e w31 ⟨rfl, hb31⟩
  go_wp2_with fail
  have hS := next_below hS hb31
  refine hK.out _ _ hS (fun _ => ?_)
  clear hK K
  try simp only [List.getElem_toArray, List.getElem_cons_zero, List.getElem_cons_succ, Act.put, List.setIfInBounds_toArray, List.set_cons_zero, List.set_cons_succ]
  refine wpAnyH_take (i := 16) (v := ?_) rfl (by kernel_rfl) (by kernel_rfl) (by kernel_rfl) (fun _ _ _ h => h) (Or.inl ⟨by rfl, ?_⟩) hS ?_
  rotate_left
  · intro wz hSw; (try dsimp only at hSw); go_simp; (try with_reducible rfl)
  try simp only [List.getElem_toArray, List.getElem_cons_zero, List.getElem_cons_succ, Act.put, List.setIfInBounds_toArray, List.set_cons_zero, List.set_cons_succ]
  refine wpAnyH_take (i := 17) (v := ?_) rfl (by kernel_rfl) (by kernel_rfl) (by kernel_rfl) (fun _ _ _ h => h) (Or.inl ⟨by rfl, ?_⟩) hS ?_
  rotate_left
  · intro wz hSw; (try dsimp only at hSw); go_simp; (try with_reducible rfl)
  try simp only [List.getElem_toArray, List.getElem_cons_zero, List.getElem_cons_succ, Act.put, List.setIfInBounds_toArray, List.set_cons_zero, List.set_cons_succ]
  refine wpAnyH_take (i := 18) (v := ?_) rfl (by kernel_rfl) (by kernel_rfl) (by kernel_rfl) (fun _ _ _ h => h) (Or.inl ⟨by rfl, ?_⟩) hS ?_
  rotate_left
  · intro wz hSw; (try dsimp only at hSw); go_simp; (try with_reducible rfl)
  try simp only [List.getElem_toArray, List.getElem_cons_zero, List.getElem_cons_succ, Act.put, List.setIfInBounds_toArray, List.set_cons_zero, List.set_cons_succ]
  refine wpAnyH_ready (rs := [19]) (by kernel_rfl) (by simp) (AllReadyH.cons rfl (fun K hK => ?_) AllReadyH.nil)
  go_simp
  go_at_call 9
  refine (awake_any _).mono ?_
  rintro e w32 ⟨rfl, hb32⟩
  go_wp2_with fail
  have hS := next_below hS hb32
  refine hK.out _ _ hS (fun _ => ?_)
  clear hK K
  try simp only [List.getElem_toArray, List.getElem_cons_zero, List.getElem_cons_succ, Act.put, List.setIfInBounds_toArray, List.set_cons_zero, List.set_cons_succ]
  refine wpAnyH_take (i := 20) (v := ?_) rfl (by kernel_rfl) (by kernel_rfl) (by kernel_rfl) (fun _ _ _ h => h) (Or.inl ⟨by rfl, ?_⟩) hS ?_
  rotate_left
  · intro wz hSw; (try dsimp only at hSw); go_simp; (try with_reducible rfl)
  try simp only [List.getElem_toArray, List.getElem_cons_zero, List.getElem_cons_succ, Act.put, List.setIfInBounds_toArray, List.set_cons_zero, List.set_cons_succ]
  refine wpAnyH_take (i := 21) (v := ?_) rfl (by kernel_rfl) (by kernel_rfl) (by kernel_rfl) (fun _ _ _ h => h) (Or.inl ⟨by rfl, ?_⟩) hS ?_
  rotate_left
  · intro wz hSw; (try dsimp only at hSw); go_simp; (try with_reducible rfl)
  try simp only [List.getElem_toArray, List.getElem_cons_zero, List.getElem_cons_succ, Act.put, List.setIfInBounds_toArray, List.set_cons_zero, List.set_cons_succ]
  refine wpAnyH_done (by kernel_rfl) ?_ _
  go_wp2_with fail
  go_ret
  exact ⟨rfl, next_below HB.out hS⟩

set_option maxRecDepth 100000 in
set_option maxHeartbeats 8000000 in
theorem powers_walk (v0 : Value) (j k : Int) (w : World) (o0 : OkInts w v0) (hj : -2147483648 ≤ j ∧ j < 2147483648) (hk : -2147483648 ≤ k ∧ k < 2147483648) :
    Calls Try.prog 5 #[v0, .int .i32 j, .int .i32 k] w fun e w' => e = .returned (.bool true) ∧ Below w.heap.size w w' := by
  obtain ⟨A0, c0, x0, rfl, _, r0, l0, m0, hc⟩ := o0
  have R0 := Lib.hid r0
  clear r0
  by_cases h0 : rightP x0 = false
  · have H0 := Lib.hid h0
    clear h0 hc hj hk
    go_enter Try.func5, Try.ntmps5
    go_wp2_with fail
    refine (rightP_any A0 c0 x0.length x0 w R0.out rfl (by omega)).mono ?_
    rintro e w1 ⟨rfl, hb⟩
    rw [show rightP x0 = false from H0.out]
    have HB := Lib.hid hb
    clear hb
    go_wp2_with fail
    refine (awake_any w1).mono ?_
    rintro e w99 ⟨rfl, hb⟩
    go_wp2_with fail
    go_ret
    exact ⟨rfl, next_below HB.out hb⟩
  · obtain ⟨p, rfl, hp, hpl⟩ := rightP_iff.1 (by simpa using h0)
    have e1 : (iz p).length = p.length := iz_length p
    rw [e1]
    exact powers_main A0 c0 p.length p j k w R0.out hp hpl hj hk
end Go.Proofs.Ytgldlanfbkgfjaa
