/- Power of both sides, in one form. -/
import Derived.Test.YtgldlanfbkgfjaaM2
import Derived.Test.YtgldlanfbkgfjaaP10
namespace Go.Proofs.Ytgldlanfbkgfjaa
open Go.RowKit

section
variable {n : Nat} {p : List Nat}
theorem pow_zero_ (h : Perm n p) : powP n p 0 = List.range n := (pow_id h 0).2 ⟨0, by simp⟩
theorem inv_pow (h : Perm n p) : invP p = powP n p (-1) := by
  have hl : (invP p).length = n := by simp [invP, h.len]
  refine gn_ext (by rw [hl, (h.pow (-1)).len]) fun v hv => ?_
  rw [hl] at hv
  obtain ⟨h1, h2⟩ := gn_inv2 h hv
  have h3 := powAt_add h 1 (-1) h2
  rw [powAt_one h h2, h1] at h3
  rw [gn_pow hv, h3]
  show _ = powAt p (1 + -1) _
  rw [show (1 : Int) + -1 = 0 from rfl, powAt_zero]
theorem pow_inv (h : Perm n p) : ∀ k : Nat, powP n (invP p) (k : Int) = powP n p (-(k : Int))
  | 0 => by
    show powP n (invP p) 0 = powP n p (-0)
    rw [show (-0 : Int) = 0 from rfl, pow_zero_ h, pow_zero_ h.inv]
  | k + 1 => by
    have h1 := pow_add h.inv (k : Int) 1
    rw [pow_one h.inv, pow_inv h k] at h1
    have e : ((k + 1 : Nat) : Int) = (k : Int) + 1 := by omega
    rw [e, ← h1]
    have h2 : compP (powP n p (-(k : Int))) (invP p) = compP (powP n p (-(k : Int))) (powP n p (-1)) := by rw [inv_pow h]
    rw [h2, pow_add h]
    congr 1
    omega
/-- A half of it twice, and one more if it is odd. -/
theorem pow_half (h : Perm n p) {k a : Int} (ha : k = a + a) : compP (powP n p a) (powP n p a) = powP n p k := by rw [pow_add h, ha]
theorem pow_half1 (h : Perm n p) {k a : Int} (ha : k = a + a + 1) : compP (compP (powP n p a) (powP n p a)) p = powP n p k := by
  have h2 : compP (compP (powP n p a) (powP n p a)) p = compP (compP (powP n p a) (powP n p a)) (powP n p 1) := by rw [pow_one h]
  rw [h2, pow_add h, pow_add h, ha]
end
def PowS (n : Nat) (k : Int) : Prop := ∀ (A : Option Addr) (c : Nat) (p : List Nat) (w : World), RdZ w A (iz p) → Perm n p →
    Calls Try.prog 22 #[.slice A n c, .int .i64 k] w fun e w' => ∃ (K : Option Addr) (ck : Nat), e = .returned (.tuple #[.slice K n ck, .int .i64 0]) ∧ RdZ w' K (iz (powP n p k)) ∧ Below w.heap.size w w'
set_option maxRecDepth 100000 in
set_option maxHeartbeats 8000000 in
theorem refPow_zero (n : Nat) (hn : n ≤ 200) : PowS n 0 := by
  intro A c p w hA hp
  have HA := Lib.hid hA
  have HP := Lib.hid hp
  have HP1 := Lib.hid (perm_right hp hn)
  have HI : Hid (idL (n : Int) = iz (powP n p 0)) := by show _ = _; rw [pow_zero_ hp]; unfold idL; rw [if_pos (by omega)]; rfl
  have HL : Hid ((idL (n : Int)).length = n) := by show _ = _; rw [HI.out, iz_length, (hp.pow 0).len]
  clear hA hp
  go_enter Try.func22, Try.ntmps22
  go_wp2_with fail
  refine (refRt_any A c n (iz p) w HA.out (izl HP.out) hn).mono ?_
  rintro e w1 ⟨rfl, hb1⟩
  rw [HP1.out]
  have HB1 := Lib.hid hb1
  clear hb1
  go_wp2_with fail
  refine (refId_any (n : Int) w1).mono ?_
  rintro e w2 ⟨B, cb, rfl, hr, hb⟩
  have HB2 := Lib.hid (next_below HB1.out hb)
  have HR := Lib.hid hr
  clear hb hr
  rw [HL.out]
  go_wp2_with fail
  go_ret2
  exact ⟨B, cb, rfl, by rw [← HI.out]; exact HR.out, HB2.out⟩
set_option maxRecDepth 100000 in
set_option maxHeartbeats 8000000 in
theorem refPow_pos (n : Nat) (k a r : Int) (hn : n ≤ 200) (hk : 0 < k) (ha : k.tdiv 2 = a) (hrr : k.tmod 2 = r) (hk0 : -9223372036854775808 ≤ k) (hk1 : k ≤ 9223372036854775807) (ha0 : 0 ≤ a) (ha1 : a ≤ 4611686018427387904) (hka : k = a + a + r) (hr1 : r ≠ 0 → r = 1) (IH : PowS n a) : PowS n k := by
  intro A c p w hA hp
  have HA := Lib.hid hA
  have HP := Lib.hid hp
  have HP1 := Lib.hid (perm_right hp hn)
  have HIH := Lib.hid IH
  have hz : (k == 0) = false := by rw [beq_eq_false_iff_ne]; omega
  have hlt : decide (k < 0) = false := by simp; omega
  have hr2 : r = 0 ∨ r ≠ 0 := Classical.em _
  have HKA := Lib.hid hka
  have HR1 := Lib.hid hr1
  have wq : IntKind.i64.wrap (k.tdiv 2) = a := by rw [ha]; exact IntWalk.i64_in _ (by omega)
  have wq2 : IntKind.i64.wrap (- -a) = a := by rw [Int.neg_neg]; exact IntWalk.i64_in _ (by omega)
  have hrb : -1 ≤ r ∧ r ≤ 1 := by
    rcases hr2 with h | h
    · omega
    · have := hr1 h; omega
  have wr : IntKind.i64.wrap (k.tmod 2) = r := by rw [hrr]; exact IntWalk.i64_in _ (by omega)
  have hne2 : (r != 0) = (r != 0) := rfl
  clear hA hp IH hka hr1 hk hrb
  go_enter Try.func22, Try.ntmps22
  go_wp2_with fail
  refine (refRt_any A c n (iz p) w HA.out (izl HP.out) hn).mono ?_
  rintro e w1 ⟨rfl, hb1⟩
  rw [HP1.out]
  have HA1 := Lib.hid (HA.out.below hb1)
  have HB1 := Lib.hid hb1
  clear hb1
  go_wp2_with fail
  refine (HIH.out A c p w1 HA1.out HP.out).mono ?_
  rintro e w3 ⟨H, ch, rfl, hH, hb⟩
  have HH := Lib.hid hH
  have H0 := Lib.hid (HA1.out.below hb)
  have HB3 := Lib.hid (next_below HB1.out hb)
  clear hH hb
  go_wp2_with fail
  refine (refComp_yes H H ch ch n (powP n p a) (powP n p a) w3 HH.out HH.out (HP.out.pow a) (HP.out.pow a) hn).mono ?_
  rintro e w4 ⟨O, co, rfl, hO, hb⟩
  have HO := Lib.hid hO
  have H4 := Lib.hid (H0.out.below hb)
  have HB4 := Lib.hid (next_below HB3.out hb)
  clear hO hb
  rcases hr2 with h | h
  · have d1 : (r != 0) = false := by simp [h]
    have HE : Hid (compP (powP n p a) (powP n p a) = powP n p k) := by
      show _ = _
      have hka := HKA.out
      exact pow_half HP.out (by omega)
    clear h
    go_wp2_with fail
    go_ret2
    exact ⟨O, co, rfl, by rw [← HE.out]; exact HO.out, HB4.out⟩
  · have d1 : (r != 0) = true := by simpa using h
    have HE : Hid (compP (compP (powP n p a) (powP n p a)) p = powP n p k) := by
      show _ = _
      have hka := HKA.out
      have hr := HR1.out h
      exact pow_half1 HP.out (by omega)
    clear h
    go_wp2_with fail
    refine (refComp_yes O A co c n (compP (powP n p a) (powP n p a)) p w4 HO.out H4.out ((HP.out.pow a).comp (HP.out.pow a)) HP.out hn).mono ?_
    rintro e w5 ⟨O2, co2, rfl, hO2, hb⟩
    have HO2 := Lib.hid hO2
    have HB5 := Lib.hid (next_below HB4.out hb)
    clear hO2 hb
    go_wp2_with fail
    go_ret2
    exact ⟨O2, co2, rfl, by rw [← HE.out]; exact HO2.out, HB5.out⟩
set_option maxRecDepth 100000 in
set_option maxHeartbeats 8000000 in
theorem refPow_neg (n : Nat) (k a r : Int) (hn : n ≤ 200) (hk : k < 0) (ha : k.tdiv 2 = -a) (hrr : k.tmod 2 = r) (hk0 : -9223372036854775808 ≤ k) (hk1 : k ≤ 9223372036854775807) (ha0 : 0 ≤ a) (ha1 : a ≤ 4611686018427387904) (hka : k = -a + -a + r) (hr1 : r ≠ 0 → r = -1) (IH : PowS n a) : PowS n k := by
  intro A c p w hA hp
  have HA := Lib.hid hA
  have HP := Lib.hid hp
  have HP1 := Lib.hid (perm_right hp hn)
  have HIH := Lib.hid IH
  have hz : (k == 0) = false := by rw [beq_eq_false_iff_ne]; omega
  have hlt : decide (k < 0) = true := by simp; omega
  have hr2 : r = 0 ∨ r ≠ 0 := Classical.em _
  have HKA := Lib.hid hka
  have HR1 := Lib.hid hr1
  have wq : IntKind.i64.wrap (k.tdiv 2) = -a := by rw [ha]; exact IntWalk.i64_in _ (by omega)
  have wq2 : IntKind.i64.wrap (- -a) = a := by rw [Int.neg_neg]; exact IntWalk.i64_in _ (by omega)
  have hrb : -1 ≤ r ∧ r ≤ 1 := by
    rcases hr2 with h | h
    · omega
    · have := hr1 h; omega
  have wr : IntKind.i64.wrap (k.tmod 2) = r := by rw [hrr]; exact IntWalk.i64_in _ (by omega)
  have hne2 : (r != 0) = (r != 0) := rfl
  clear hA hp IH hka hr1 hk hrb
  go_enter Try.func22, Try.ntmps22
  go_wp2_with fail
  refine (refRt_any A c n (iz p) w HA.out (izl HP.out) hn).mono ?_
  rintro e w1 ⟨rfl, hb1⟩
  rw [HP1.out]
  have HA1 := Lib.hid (HA.out.below hb1)
  have HB1 := Lib.hid hb1
  clear hb1
  go_wp2_with fail
  refine (refInv_yes A c n p w1 HA1.out HP.out hn).mono ?_
  rintro e w2 ⟨I, ci, rfl, hI, hb⟩
  have HI := Lib.hid hI
  have HB2 := Lib.hid (next_below HB1.out hb)
  clear hI hb
  go_wp2_with fail
  refine (HIH.out I ci (invP p) w2 HI.out HP.out.inv).mono ?_
  rintro e w3 ⟨H, ch, rfl, hH, hb⟩
  have HH := Lib.hid hH
  have H0 := Lib.hid (HI.out.below hb)
  have HB3 := Lib.hid (next_below HB2.out hb)
  clear hH hb
  go_wp2_with fail
  refine (refComp_yes H H ch ch n (powP n (invP p) a) (powP n (invP p) a) w3 HH.out HH.out (HP.out.inv.pow a) (HP.out.inv.pow a) hn).mono ?_
  rintro e w4 ⟨O, co, rfl, hO, hb⟩
  have HO := Lib.hid hO
  have H4 := Lib.hid (H0.out.below hb)
  have HB4 := Lib.hid (next_below HB3.out hb)
  clear hO hb
  rcases hr2 with h | h
  · have d1 : (r != 0) = false := by simp [h]
    have HE : Hid (compP (powP n (invP p) a) (powP n (invP p) a) = powP n p k) := by
      show _ = _
      have hka := HKA.out
      rw [← Int.toNat_of_nonneg ha0, pow_inv HP.out]
      exact pow_half HP.out (by omega)
    clear h
    go_wp2_with fail
    go_ret2
    exact ⟨O, co, rfl, by rw [← HE.out]; exact HO.out, HB4.out⟩
  · have d1 : (r != 0) = true := by simpa using h
    have HE : Hid (compP (compP (powP n (invP p) a) (powP n (invP p) a)) (invP p) = powP n p k) := by
      show _ = _
      have hka := HKA.out
      have hr := HR1.out h
      have e0 := pow_inv HP.out a.toNat
      rw [Int.toNat_of_nonneg ha0] at e0
      have e1 : compP (compP (powP n (invP p) a) (powP n (invP p) a)) (invP p) = compP (compP (powP n p (-a)) (powP n p (-a))) (powP n p (-1)) := by rw [e0, inv_pow HP.out]
      rw [e1, pow_add HP.out, pow_add HP.out]
      congr 1
      omega
    clear h
    go_wp2_with fail
    refine (refComp_yes O I co ci n (compP (powP n (invP p) a) (powP n (invP p) a)) (invP p) w4 HO.out H4.out ((HP.out.inv.pow a).comp (HP.out.inv.pow a)) HP.out.inv hn).mono ?_
    rintro e w5 ⟨O2, co2, rfl, hO2, hb⟩
    have HO2 := Lib.hid hO2
    have HB5 := Lib.hid (next_below HB4.out hb)
    clear hO2 hb
    go_wp2_with fail
    go_ret2
    exact ⟨O2, co2, rfl, by rw [← HE.out]; exact HO2.out, HB5.out⟩
theorem refPow_nat (n : Nat) (hn : n ≤ 200) : ∀ (m k : Nat), k ≤ m → k ≤ 9223372036854775807 → PowS n (k : Int)
  | 0, k, h, _ => by
    obtain rfl : k = 0 := by omega
    exact refPow_zero n hn
  | m + 1, k, h, hb => by
    by_cases h0 : k = 0
    · subst h0
      exact refPow_zero n hn
    · have e1 : ((k : Int)).tdiv 2 = ((k / 2 : Nat) : Int) := rfl
      exact refPow_pos n k ((k / 2 : Nat) : Int) ((k % 2 : Nat) : Int) hn (by omega) e1 rfl (by omega) (by omega) (by omega) (by omega) (by omega) (by omega) (refPow_nat n hn m (k / 2) (by omega) (by omega))
theorem refPow_any (n : Nat) (hn : n ≤ 200) (k : Int) (hk0 : -9223372036854775808 ≤ k) (hk1 : k ≤ 9223372036854775807) : PowS n k := by
  by_cases h0 : 0 ≤ k
  · rw [← Int.toNat_of_nonneg h0]
    exact refPow_nat n hn _ _ (Nat.le_refl _) (by omega)
  · obtain ⟨m, hm⟩ := Int.eq_ofNat_of_zero_le (show 0 ≤ -k by omega)
    obtain rfl : k = -(m : Int) := by omega
    have e1 : (-(m : Int)).tdiv 2 = -((m / 2 : Nat) : Int) := by rw [Int.neg_tdiv]; rfl
    have e2 : (-(m : Int)).tmod 2 = -((m % 2 : Nat) : Int) := by rw [Int.neg_tmod]; rfl
    exact refPow_neg n _ ((m / 2 : Nat) : Int) _ hn (by omega) e1 e2 hk0 hk1 (by omega) (by omega) (by omega) (by omega) (refPow_nat n hn _ _ (Nat.le_refl _) (by omega))
set_option maxHeartbeats 4000000 in
theorem power_no (A : Option Addr) (c n : Nat) (xs : List Int) (k : Int) (w : World) (hA : RdZ w A xs) (hn : n = xs.length) (hs : n ≤ 200) (hx : rightP xs = false) :
    Calls Try.prog 21 #[.slice A n c, .int .i64 k] w fun e w' => e = .returned (.tuple #[.slice none 0 0, .int .i64 30]) ∧ Below w.heap.size w w' := by
  have HA := Lib.hid hA
  have HN := Lib.hid hn
  have HX := Lib.hid hx
  obtain ⟨W, hW⟩ : ∃ W, W = w.alloc (.cells #[.int .i64 k] 3) := ⟨_, rfl⟩
  have hbW : Below w.heap.size w W := by rw [hW]; exact (Below.refl _ _).alloc (Nat.le_refl _) _
  have HBW := Lib.hid hbW
  have HAW := Lib.hid (hA.below hbW)
  have HW := Lib.hid hW
  clear hA hn hx hW hbW
  go_enter Try.func21, Try.ntmps21
  go_wp2_with fail
  rw [← HW.out]
  refine (rightP_any A c n xs W HAW.out HN.out (by omega)).mono ?_
  rintro e w2 ⟨rfl, hb1⟩
  rw [HX.out]
  go_wp2_with fail
  go_ret2
  exact ⟨rfl, next_below HBW.out hb1⟩
set_option maxHeartbeats 4000000 in
theorem refPow_no (A : Option Addr) (c n : Nat) (xs : List Int) (k : Int) (w : World) (hA : RdZ w A xs) (hn : n = xs.length) (hs : n ≤ 200) (hx : rightP xs = false) :
    Calls Try.prog 22 #[.slice A n c, .int .i64 k] w fun e w' => e = .returned (.tuple #[.slice none 0 0, .int .i64 30]) ∧ Below w.heap.size w w' := by
  have HA := Lib.hid hA
  have HN := Lib.hid hn
  have HX := Lib.hid hx
  clear hA hn hx
  go_enter Try.func22, Try.ntmps22
  go_wp2_with fail
  refine (refRt_any A c n xs w HA.out HN.out (by omega)).mono ?_
  rintro e w2 ⟨rfl, hb1⟩
  rw [HX.out]
  go_wp2_with fail
  go_ret2
  exact ⟨rfl, hb1⟩
theorem powT (A : Option Addr) (c n : Nat) (xs : List Int) (k : Int) (w : World) (hA : RdZ w A xs) (hn : n = xs.length) (hs : n ≤ 200) (hk0 : -9223372036854775808 ≤ k) (hk1 : k ≤ 9223372036854775807) :
    Calls Try.prog 21 #[.slice A n c, .int .i64 k] w fun e w' => LAns e w' (lsA (rightP xs) (iz (powP n (tn xs) k))) (erA (rightP xs)) ∧ Below w.heap.size w w' := by
  by_cases hx : rightP xs = true
  · obtain ⟨p, rfl, hp, _⟩ := rightP_iff.1 hx
    rw [iz_length] at hn
    rw [← hn] at hp
    refine (power_yes A c n p k w hA hp hs hk0 hk1).mono ?_
    rintro e w2 ⟨K, rfl, hr, _, hb⟩
    refine ⟨?_, hb⟩
    rw [hx, tn_iz]
    have e1 : (lsA true (iz (powP n p k))) = iz (powP n p k) := rfl
    rw [e1]
    have e2 : (iz (powP n p k)).length = n := by rw [iz_length]; rw [(hp.pow k).len]
    exact ⟨some ⟨K, 0, none⟩, n, by rw [e2]; rfl, hr.rd⟩
  · have hx' : rightP xs = false := by simpa using hx
    refine (power_no A c n xs k w hA hn hs hx').mono ?_
    rintro e w2 ⟨rfl, hb⟩
    rw [hx']
    exact ⟨ans_no w2, hb⟩
theorem refPowT (A : Option Addr) (c n : Nat) (xs : List Int) (k : Int) (w : World) (hA : RdZ w A xs) (hn : n = xs.length) (hs : n ≤ 200) (hk0 : -9223372036854775808 ≤ k) (hk1 : k ≤ 9223372036854775807) :
    Calls Try.prog 22 #[.slice A n c, .int .i64 k] w fun e w' => LAns e w' (lsA (rightP xs) (iz (powP n (tn xs) k))) (erA (rightP xs)) ∧ Below w.heap.size w w' := by
  by_cases hx : rightP xs = true
  · obtain ⟨p, rfl, hp, _⟩ := rightP_iff.1 hx
    rw [iz_length] at hn
    rw [← hn] at hp
    refine (refPow_any n hs k hk0 hk1 A c p w hA hp).mono ?_
    rintro e w2 ⟨K, ck, rfl, hr, hb⟩
    refine ⟨?_, hb⟩
    rw [hx, tn_iz]
    have e1 : (lsA true (iz (powP n p k))) = iz (powP n p k) := rfl
    rw [e1]
    have e2 : (iz (powP n p k)).length = n := by rw [iz_length]; rw [(hp.pow k).len]
    exact ⟨K, ck, by rw [e2]; rfl, hr⟩
  · have hx' : rightP xs = false := by simpa using hx
    refine (refPow_no A c n xs k w hA hn hs hx').mono ?_
    rintro e w2 ⟨rfl, hb⟩
    rw [hx']
    exact ⟨ans_no w2, hb⟩
end Go.Proofs.Ytgldlanfbkgfjaa
