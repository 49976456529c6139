/- The least turn, wherever a circle begins. -/
import Derived.Test.YtmnkghbbcjnlfaaR14
import Derived.Maps.OwnOps
import Derived.Maps.Views
import Derived.Carry
namespace Go.Proofs.Ytmnkghbbcjnlfaa
open Go.RowKit Go.Maps

theorem turn_turn (L : List (List Nat)) (f x : Nat) (h : 0 < L.length) : turnN (turnN L f) x = turnN L (f + x) := by
  have hl := turnN_length L f
  unfold turnN at hl ⊢
  rw [hl]
  apply List.map_congr_left
  intro i _
  have := at_turn L f (x + i) h
  unfold turnN at this
  rw [this, Nat.add_assoc]
theorem least_turn {L : List (List Nat)} (h : 0 < L.length) (f x : Nat) : Least (turnN L f) x ↔ Least L (f + x) := by
  unfold Least
  constructor
  · intro hl y
    have hle : f ≤ L.length * (f + 1) := Nat.le_trans (Nat.le_succ f) (Nat.le_mul_of_pos_left _ h)
    have := hl (y + (L.length * (f + 1) - f))
    rw [turn_turn L f _ h, turn_turn L f _ h, show f + (y + (L.length * (f + 1) - f)) = y + L.length * (f + 1) by omega, ← turn_mod L (y + L.length * (f + 1)), Nat.add_mul_mod_self_left, turn_mod] at this
    exact this
  · intro hl y
    rw [turn_turn L f _ h, turn_turn L f _ h]
    exact hl _
theorem least_same {L : List (List Nat)} {x y : Nat} (hx : Least L x) (hy : Least L y) : turnN L x = turnN L y := by
  have h1 := hx y
  have h2 := hy x
  have h3 := cmpW_stands.flip (turnN L x) (turnN L y)
  exact cmpW_stands.only _ _ (by omega)
theorem good_turn {L : List (List Nat)} {f p s p' s' : Nat} (h : 0 < L.length) (g : Good L p s) (g' : Good (turnN L f) p' s') : s' = s ∧ turnN (turnN L f) p' = turnN L p := by
  obtain ⟨h1, h2, h3⟩ := g
  obtain ⟨h1', h2', h3'⟩ := g'
  have hp : Least L (f + p') := (least_turn h f p').1 ((h3' p').2 (Nat.mod_eq_of_lt h1'))
  have hq : Least L p := (h3 p).2 (Nat.mod_eq_of_lt h1)
  refine ⟨?_, by rw [turn_turn L f p' h]; exact least_same hp hq⟩
  have hpm := (h3 _).1 hp
  -- s' divides s, and s divides s'
  have d1 : s' ∣ s := by
    have a1 : Least L (f + (p' + s)) := (h3 _).2 (by rw [← Nat.add_assoc, Nat.add_mod_right]; exact hpm)
    have a2 := (h3' _).1 ((least_turn h f _).2 a1)
    have a3 : (p' + s) % s' = p' % s' := by rw [a2, Nat.mod_eq_of_lt h1']
    have a4 := Nat.sub_mod_eq_zero_of_mod_eq a3
    rw [Nat.add_sub_cancel_left] at a4
    exact Nat.dvd_of_mod_eq_zero a4
  have d2 : s ∣ s' := by
    have a1 : Least (turnN L f) (p' + s') := (h3' _).2 (by rw [Nat.add_mod_right, Nat.mod_eq_of_lt h1'])
    have a2 := (h3 _).1 ((least_turn h f _).1 a1)
    have a3 : (f + (p' + s')) % s = (f + p') % s := by rw [a2, hpm]
    have a4 := Nat.sub_mod_eq_zero_of_mod_eq a3
    rw [show f + (p' + s') - (f + p') = s' by omega] at a4
    exact Nat.dvd_of_mod_eq_zero a4
  exact Nat.dvd_antisymm d1 d2
theorem good_count {p s n J : Nat} (hp : p < s) (hd : s ∣ n) (hn : 0 < n) (h1 : n ≤ p + s * J) (h2 : ∀ q, q < J → p + s * q < n) : n = s * J ∧ 0 < J := by
  obtain ⟨c, hc⟩ := hd
  have e : J = c := by
    rcases Nat.lt_trichotomy J c with h | h | h
    · have := Nat.mul_le_mul_left s (show J + 1 ≤ c from h)
      rw [Nat.mul_succ] at this
      omega
    · exact h
    · have := h2 c h
      omega
  subst e
  refine ⟨hc, ?_⟩
  rcases Nat.eq_zero_or_pos J with h | h
  · subst h; simp at hc; omega
  · exact h
/-- Places that are marked in a map. -/
def markTo (p s : Nat) : Nat → DataW Unit
  | 0 => .map []
  | i + 1 => (markTo p s i).put (.int .i64 ((p + s * i : Nat) : Int)) (.lit (.int .i64 1))
theorem markTo_map (p s : Nat) : ∀ i, IsMap (markTo p s i)
  | 0 => isMap_empty
  | i + 1 => (markTo_map p s i).put _ _
theorem markTo_no {p s x : Nat} : ∀ i, (∀ q, q < i → x ≠ p + s * q) → (markTo p s i).atKey (.int .i64 (x : Int)) (.lit (.int .i64 0)) = .lit (.int .i64 0)
  | 0, _ => rfl
  | i + 1, h => by
    show ((markTo p s i).put _ _).atKey _ _ = _
    rw [atKey_put_other (fun e => by injection e with _ e; exact h i (by omega) (by omega))]
    exact markTo_no i (fun q hq => h q (by omega))
theorem markTo_yes {p s x : Nat} : ∀ i, (∃ q, q < i ∧ x = p + s * q) → (markTo p s i).atKey (.int .i64 (x : Int)) (.lit (.int .i64 0)) = .lit (.int .i64 1)
  | 0, h => by obtain ⟨q, hq, _⟩ := h; omega
  | i + 1, h => by
    show ((markTo p s i).put _ _).atKey _ _ = _
    by_cases e : x = p + s * i
    · rw [e]
      exact atKey_put_same (markTo_map p s i) (by trivial) _ _
    · rw [atKey_put_other (fun e2 => by injection e2 with _ e2; exact e (by omega))]
      obtain ⟨q, hq, hx⟩ := h
      exact markTo_yes i ⟨q, by
        rcases Nat.lt_or_eq_of_le (Nat.le_of_lt_succ hq) with h1 | h1
        · exact h1
        · subst h1; exact absurd hx e, hx⟩
theorem map_below {w w' : World} {P : Program} {k : TypeId} {R : Value → Option (DataW Unit × List MemPlace)} {b n : Nat} {D : DataW Unit} (h : w.ownsMap P k R b n D) (hb : Below w.heap.size w w') : w'.ownsMap P k R b n D := by
  obtain ⟨es, clock, h1, F, hs, e⟩ := h
  exact ⟨es, clock, (hb.block b (lt_of_block h1)).trans h1, F, hs, e⟩
theorem keyI : Keyed Try.prog 3 := int_keyed Try.underlying3
theorem zeroI (w : World) : (zeroValue 3).run Try.prog w = .ok (.int .i64 0) w := by kernel_rfl
theorem wfI {x : Nat} (h : x ≤ 1000000) : (Lit.int .i64 (x : Int)).wf = true := by
  simp [Lit.wf, IntKind.min, IntKind.max, IntKind.signed, IntKind.bits]
  omega

set_option maxHeartbeats 400000 in
theorem least_nil (A : Option Addr) (c : Nat) (w : World) : Calls Try.prog 9 #[.slice A 0 c] w fun e w' => e = .returned (.tuple #[.slice none 0 0, .slice none 0 0]) ∧ w = w' := by
  go_enter Try.func9, Try.ntmps9
  go_wp2_with fail
  exact bodyPost_ret (v := .tuple #[.slice none 0 0, .slice none 0 0]) (by simp [results, Try.results9, go_sem]) rfl ⟨rfl, rfl⟩
end Go.Proofs.Ytmnkghbbcjnlfaa
