/- Order of both sides, in one form. -/
import Derived.Test.YtgldlanfbkgfjaaM3
namespace Go.Proofs.Ytgldlanfbkgfjaa
open Go.RowKit

def ordA (n : Nat) (xs : List Int) : Int := if rightP xs then (ord n (tn xs) : Nat) else 0
theorem ord_first {n m : Nat} {p : List Nat} (h : Perm n p) (h1 : 1 ≤ m) (h2 : m ≤ ord n p) : iz (powP n p (m : Int)) = idL (n : Int) ∧ n ≤ 200 → m = ord n p := by
  rintro ⟨e, hn⟩
  have e2 : idL (n : Int) = iz (List.range n) := by unfold idL; rw [if_pos (by omega)]; rfl
  rw [e2] at e
  have h3 := Int.natCast_dvd_natCast.1 ((pow_id h (m : Int)).1 (iz_inj e))
  have := Nat.le_of_dvd (by omega) h3
  omega
set_option maxRecDepth 100000 in
set_option maxHeartbeats 8000000 in
theorem refOrd_yes (A : Option Addr) (c n : Nat) (p : List Nat) (w : World) (hA : RdZ w A (iz p)) (hp : Perm n p) (hn : n ≤ 200) :
    Calls Try.prog 27 #[.slice A n c] w fun e w' => e = .returned (.tuple #[.int .i64 (ord n p : Nat), .int .i64 0]) ∧ Below w.heap.size w w' := by
  have HA := Lib.hid hA
  have HP := Lib.hid hp
  have HP1 := Lib.hid (perm_right hp hn)
  have HIL : Hid ((idL (n : Int)).length = n) := by show _ = _; unfold idL; rw [if_pos (by omega), iz_length]; simp
  obtain ⟨o, ho⟩ : ∃ o, o = ord n p := ⟨_, rfl⟩
  have HO := Lib.hid ho
  have hos : 0 < o ∧ o < 2 ^ 60 := by rw [ho]; exact ord_small hp hn
  have ho0 := hos.1
  have ho1 : o < 1152921504606846976 := hos.2
  rw [← ho]
  clear hA hp ho hos
  go_enter Try.func27, Try.ntmps27
  go_wp2_with fail
  refine (refRt_any A c n (iz p) w HA.out (izl HP.out) hn).mono ?_
  rintro e w1 ⟨rfl, hb1⟩
  rw [HP1.out]
  have HA1 := Lib.hid (HA.out.below hb1)
  have HB1 := Lib.hid hb1
  clear hb1
  have H0 : Hid (RdZ w1 A (iz (powP n p ((1 : Nat) : Int)))) := by
    show RdZ _ _ _
    have e1 := pow_one HP.out
    rw [show ((1 : Nat) : Int) = 1 from rfl, e1]
    exact HA1.out
  have HB0 := Lib.hid (Below.refl w1.heap.size w1)
  go_wp2_with fail
  go_loopw [4, 5] (fun s4 s5 wr => ∃ (m cb : Nat) (B : Option Addr), m ≤ o ∧ 1 ≤ m ∧ s4 = .slice B n cb ∧ s5 = .int .i64 m ∧ Hid (RdZ wr B (iz (powP n p (m : Int)))) ∧ Hid (Below w1.heap.size w1 wr)) (fun _ s5 _ => o - (intOf s5).toNat)
  case atStart => exact ⟨1, c, A, by omega, by omega, rfl, rfl, H0, HB0⟩
  case round =>
    obtain ⟨m, cb, B, hm, hm1, rfl, rfl, hR, hb⟩ := hrel
    go_wp2_with fail
    refine (refId_any (n : Int) wr).mono ?_
    rintro e w2 ⟨I, ci, rfl, hI, hb2⟩
    have HI := Lib.hid hI
    have HR2 := Lib.hid (hR.out.below hb2)
    have HB2 := Lib.hid (next_below hb.out hb2)
    rw [HIL.out]
    clear hI hb2
    go_wp2_with fail
    refine (refSame_any B I cb ci n (iz (powP n p (m : Int))) (idL (n : Int)) w2 HR2.out HI.out (by rw [iz_length, (HP.out.pow (m : Int)).len]) HIL.out.symm hn).mono ?_
    rintro e w3 ⟨rfl, hb3⟩
    have HR3 := Lib.hid (HR2.out.below hb3)
    have HB3 := Lib.hid (next_below HB2.out hb3)
    clear hb3
    by_cases hq : iz (powP n p (m : Int)) = idL (n : Int)
    · rw [decide_eq_true hq]
      obtain rfl : m = o := by rw [HO.out]; rw [HO.out] at hm; exact ord_first HP.out hm1 hm ⟨hq, hn⟩
      clear hq
      go_wp2_with fail
      go_ret2
      exact ⟨rfl, next_below HB1.out HB3.out⟩
    · rw [decide_eq_false hq]
      have hlt : m < o := by
        by_cases e : m < o
        · exact e
        · exfalso
          refine hq ?_
          have e1 : m = ord n p := by rw [← HO.out]; omega
          have e2 := (pow_id HP.out (m : Int)).2 ⟨1, by rw [e1]; simp⟩
          rw [e2]
          unfold idL
          rw [if_pos (by omega)]
          rfl
      clear hq
      go_wp2_with fail
      refine (refComp_yes B A cb c n (powP n p (m : Int)) p w3 HR3.out (HA1.out.below HB3.out) (HP.out.pow (m : Int)) HP.out hn).mono ?_
      rintro e w4 ⟨K, ck, rfl, hK, hb4⟩
      have HK : Hid (RdZ w4 K (iz (powP n p ((m + 1 : Nat) : Int)))) := by
        show RdZ _ _ _
        have e1 : compP (powP n p (m : Int)) p = powP n p ((m + 1 : Nat) : Int) := by
          have e2 : compP (powP n p (m : Int)) p = compP (powP n p (m : Int)) (powP n p 1) := by rw [pow_one HP.out]
          rw [e2, pow_add HP.out]
          rfl
        rw [← e1]
        exact hK
      have HB4 := Lib.hid (next_below HB3.out hb4)
      clear hK hb4
      go_wp2_with fail
      go_roundw
      case rel => exact ⟨m + 1, ck, K, by omega, by omega, rfl, by go_num, HK, HB4⟩
      case measure => simp [intOf]; omega
set_option maxHeartbeats 4000000 in
theorem refOrd_no (A : Option Addr) (c n : Nat) (xs : List Int) (w : World) (hA : RdZ w A xs) (hn : n = xs.length) (hs : n ≤ 200) (hx : rightP xs = false) :
    Calls Try.prog 27 #[.slice A n c] w fun e w' => e = .returned (.tuple #[.int .i64 0, .int .i64 30]) ∧ Below w.heap.size w w' := by
  have HA := Lib.hid hA
  have HN := Lib.hid hn
  have HX := Lib.hid hx
  clear hA hn hx
  go_enter Try.func27, Try.ntmps27
  go_wp2_with fail
  refine (refRt_any A c n xs w HA.out HN.out (by omega)).mono ?_
  rintro e w2 ⟨rfl, hb1⟩
  rw [HX.out]
  go_wp2_with fail
  go_ret2
  exact ⟨rfl, hb1⟩
set_option maxHeartbeats 4000000 in
theorem order_no (A : Option Addr) (c n : Nat) (xs : List Int) (w : World) (hA : RdZ w A xs) (hn : n = xs.length) (hs : n ≤ 200) (hx : rightP xs = false) :
    Calls Try.prog 26 #[.slice A n c] w fun e w' => e = .returned (.tuple #[.int .i64 0, .int .i64 30]) ∧ Below w.heap.size w w' := by
  have HA := Lib.hid hA
  have HN := Lib.hid hn
  have HX := Lib.hid hx
  clear hA hn hx
  go_enter Try.func26, Try.ntmps26
  go_wp2_with fail
  refine (rightP_any A c n xs w HA.out HN.out (by omega)).mono ?_
  rintro e w2 ⟨rfl, hb1⟩
  rw [HX.out]
  go_wp2_with fail
  go_ret2
  exact ⟨rfl, hb1⟩
theorem orderT (A : Option Addr) (c n : Nat) (xs : List Int) (w : World) (hA : RdZ w A xs) (hn : n = xs.length) (hs : n ≤ 200) :
    Calls Try.prog 26 #[.slice A n c] w fun e w' => e = .returned (.tuple #[.int .i64 (ordA n xs), .int .i64 (erA (rightP xs))]) ∧ Below w.heap.size w w' := by
  by_cases hx : rightP xs = true
  · obtain ⟨p, rfl, hp, _⟩ := rightP_iff.1 hx
    rw [iz_length] at hn
    rw [← hn] at hp
    refine (order_yes A c n p w hA hp hs).mono ?_
    rintro e w2 ⟨rfl, hb⟩
    refine ⟨?_, hb⟩
    unfold ordA
    rw [hx, tn_iz]
    rfl
  · have hx' : rightP xs = false := by simpa using hx
    refine (order_no A c n xs w hA hn hs hx').mono ?_
    rintro e w2 ⟨rfl, hb⟩
    refine ⟨?_, hb⟩
    unfold ordA
    rw [hx']
    rfl
theorem refOrdT (A : Option Addr) (c n : Nat) (xs : List Int) (w : World) (hA : RdZ w A xs) (hn : n = xs.length) (hs : n ≤ 200) :
    Calls Try.prog 27 #[.slice A n c] w fun e w' => e = .returned (.tuple #[.int .i64 (ordA n xs), .int .i64 (erA (rightP xs))]) ∧ Below w.heap.size w w' := by
  by_cases hx : rightP xs = true
  · obtain ⟨p, rfl, hp, _⟩ := rightP_iff.1 hx
    rw [iz_length] at hn
    rw [← hn] at hp
    refine (refOrd_yes A c n p w hA hp hs).mono ?_
    rintro e w2 ⟨rfl, hb⟩
    refine ⟨?_, hb⟩
    unfold ordA
    rw [hx, tn_iz]
    rfl
  · have hx' : rightP xs = false := by simpa using hx
    refine (refOrd_no A c n xs w hA hn hs hx').mono ?_
    rintro e w2 ⟨rfl, hb⟩
    refine ⟨?_, hb⟩
    unfold ordA
    rw [hx']
    rfl
end Go.Proofs.Ytgldlanfbkgfjaa
