/- The document's own answer: a knot's digits. -/
import Derived.Test.YtgljaimoaijcaaaT2
import Derived.Test.YtgljaimoaijcaaaB5
namespace Go.Proofs.Ytgljaimoaijcaaa
open Go.RowKit

theorem txt_append (a b : List Bool) : txt (a ++ b) = txt a ++ txt b := by
  unfold txt
  apply ByteArray.ext
  rw [ByteArray.data_append]
  simp
theorem digs_more (n b : Nat) : ∀ a, digs n (a + b) = digs (n / 2 ^ b) a ++ digs n b
  | 0 => by simp [digs]
  | a + 1 => by
    rw [show a + 1 + b = a + b + 1 by omega, digs_succ, digs_succ, digs_more n b a, Nat.div_div_eq_div_mul, ← Nat.pow_add, Nat.add_comm b a]
    rfl
theorem knot_txt (n : Nat) (hn : n < 18446744073709551615) : txt (knot n) = txt (digs 0 (lead n)) ++ txt (digs (n + 1) (lead n + 1)) := by
  have hb := lead_bounds n hn
  have e : 2 * Lib.bitLen (n + 1) - 1 = lead n + (lead n + 1) := by
    have := hb.2.2.2; unfold knot at this; rw [digs_length] at this; omega
  rw [← txt_append]
  unfold knot
  rw [e, digs_more, Nat.div_eq_of_lt hb.2.1]

set_option maxHeartbeats 1000000 in
theorem refTied_any (n : Nat) (w : World) (hn : n < 18446744073709551615) :
    Calls Try.prog 49 #[.int .u64 n] w fun e w' => e = .returned (.string (txt (knot n))) ∧ Below w.heap.size w w' := by
  have hb := lead_bounds n hn
  have HK := Lib.hid (knot_txt n hn)
  have hp1 : 0 < 2 ^ lead n := Nat.pow_pos (by omega)
  have C1 := Lib.hid (refDigits_any (n + 1) 0 (lead n + 1) w (by omega) (by omega) (by omega) hb.2.1 (by omega) (fun k hk _ h => by
    have h1 : 2 ^ k ≤ n + 1 := Nat.le_trans (Nat.pow_le_pow_right (by omega) (by omega)) hb.1
    have h2 : 0 < 2 ^ k := Nat.pow_pos (by omega)
    have := Nat.div_pos h1 h2
    omega))
  have C2 : Hid (∀ w', Calls Try.prog 47 #[.int .u64 0, .int .i64 (lead n : Nat)] w' fun e w'' => e = .returned (.string (txt (digs 0 (lead n)))) ∧ Below w'.heap.size w' w'') :=
    Lib.hid (fun w' => refDigits_any 0 (lead n : Nat) (lead n) w' (by omega) (by omega) (by omega) hp1 (by omega) (fun k hk h => by omega))
  have hs1 := txt_size (digs (n + 1) (lead n + 1))
  rw [digs_length] at hs1
  have hs2 := txt_size (digs 0 (lead n))
  rw [digs_length] at hs2
  have hl := hb.2.2.1
  clear hb hp1
  generalize txt (digs (n + 1) (lead n + 1)) = s at *
  generalize txt (digs 0 (lead n)) = t at *
  generalize txt (knot n) = r at *
  generalize lead n = L at *
  go_enter Try.func49, Try.ntmps49
  go_wp2_with fail
  refine C1.out.mono ?_
  rintro e w1 ⟨rfl, hb1⟩
  have HB1 := Lib.hid hb1
  clear hb1
  go_wp2_with fail
  refine (C2.out w1).mono ?_
  rintro e w2 ⟨rfl, hb2⟩
  have HB2 := Lib.hid (next_below HB1.out hb2)
  clear hb2
  go_wp2_with fail
  go_ret
  exact ⟨by rw [HK.out]; rfl, HB2.out⟩
end Go.Proofs.Ytgljaimoaijcaaa
