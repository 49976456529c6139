/- The walk of RingOrder. -/
import Derived.Test.YtmnkghbbcjnlfaaR9
namespace Go.Proofs.Ytmnkghbbcjnlfaa
open Go.RowKit

set_option maxRecDepth 100000 in
set_option maxHeartbeats 2000000 in
theorem order_walk (v0 v1 v2 : Value) (w : World) (h0 : OkWords w v0) (h1 : OkWords w v1) (h2 : OkWords w v2) :
    Calls Try.prog 6 #[v0, v1, v2] w fun e w' => e = .returned (.bool true) ∧ Below w.heap.size w w' := by
  obtain ⟨A0, c0, L0, rfl, o0, r0, l0, m0, _⟩ := h0
  obtain ⟨A1, c1, L1, rfl, o1, r1, l1, m1, _⟩ := h1
  obtain ⟨A2, c2, L2, rfl, o2, r2, l2, m2, _⟩ := h2
  have g0 := great_any A0 c0 L0 w r0 (by omega)
  have g1 := great_any A1 c1 L1 w r1 (by omega)
  have g2 := great_any A2 c2 L2 w r2 (by omega)
  have hs : ∀ L : List (List Nat), gW L = false → L.length ≤ 60 := by
    intro L h
    unfold gW at h
    rw [Bool.or_eq_false_iff] at h
    have := of_decide_eq_false h.2
    omega
  have hord := cmpW_stands
  have C01 := Lib.hid (fun ha hb => ringCompare_any A0 A1 c0 c1 _ _ L0 L1 w r0 r1 o0 o1 ha hb rfl rfl)
  have C12 := Lib.hid (fun ha hb => ringCompare_any A1 A2 c1 c2 _ _ L1 L2 w r1 r2 o1 o2 ha hb rfl rfl)
  have C02 := Lib.hid (fun ha hb => ringCompare_any A0 A2 c0 c2 _ _ L0 L2 w r0 r2 o0 o2 ha hb rfl rfl)
  have C00 := Lib.hid (fun ha hb => ringCompare_any A0 A0 c0 c0 _ _ L0 L0 w r0 r0 o0 o0 ha hb rfl rfl)
  have ht := hord.trans L0 L1 L2
  have hz := hord.same L0
  have HS := Lib.hid hs
  have G0 := Lib.hid g0
  have G1 := Lib.hid g1
  have G2 := Lib.hid g2
  have s0 := hs L0
  have s1 := hs L1
  have s2 := hs L2
  rw [hz] at C00
  clear g0 g1 g2 hs hord hz o0 o1 o2 r0 r1 r2
  generalize cmpW L0 L1 = q01 at *
  generalize cmpW L1 L2 = q12 at *
  generalize cmpW L0 L2 = q02 at *
  generalize L0.length = n0 at *
  generalize L1.length = n1 at *
  generalize L2.length = n2 at *
  have HT := Lib.hid ht
  clear ht
  cases b0 : gW L0 <;> cases b1 : gW L1 <;> cases b2 : gW L2 <;> rw [b0] at G0 s0 <;> rw [b1] at G1 s1 <;> rw [b2] at G2 s2
  all_goals clear b0 b1 b2
  case false.false.false =>
    have s0' := s0 rfl
    have s1' := s1 rfl
    have s2' := s2 rfl
    have D01 := Lib.hid (C01.out (by omega) (by omega))
    have D12 := Lib.hid (C12.out (by omega) (by omega))
    have D02 := Lib.hid (C02.out (by omega) (by omega))
    have D00 := Lib.hid (C00.out (by omega) (by omega))
    clear C01 C12 C02 C00 s0 s1 s2
    have HT2 := Lib.hid (show ¬ 0 < q01 → ¬ 0 < q12 → q02 ≤ 0 from fun a b => HT.out (by omega) (by omega))
    by_cases h01 : 0 < q01
    · clear HT HT2
      go_enter Try.func6, Try.ntmps6
      go_wp2_with (first
        | (go_at_call 7; (first | (with_reducible refine G0.out.mono ?_) | (with_reducible refine G1.out.mono ?_) | (with_reducible refine G2.out.mono ?_)); rintro e wx ⟨rfl, rfl⟩)
        | (go_at_call 16; (first | (with_reducible refine D01.out.mono ?_) | (with_reducible refine D12.out.mono ?_) | (with_reducible refine D02.out.mono ?_) | (with_reducible refine D00.out.mono ?_)); rintro e wx ⟨rfl, rfl⟩)
        | (go_at_call 8; refine (awake_any _).mono ?_; rintro e wx ⟨rfl, hb⟩))
      go_ret
      exact ⟨rfl, hb⟩
    · by_cases h12 : 0 < q12
      · clear HT HT2
        go_enter Try.func6, Try.ntmps6
        go_wp2_with (first
          | (go_at_call 7; (first | (with_reducible refine G0.out.mono ?_) | (with_reducible refine G1.out.mono ?_) | (with_reducible refine G2.out.mono ?_)); rintro e wx ⟨rfl, rfl⟩)
          | (go_at_call 16; (first | (with_reducible refine D01.out.mono ?_) | (with_reducible refine D12.out.mono ?_) | (with_reducible refine D02.out.mono ?_) | (with_reducible refine D00.out.mono ?_)); rintro e wx ⟨rfl, rfl⟩)
          | (go_at_call 8; refine (awake_any _).mono ?_; rintro e wx ⟨rfl, hb⟩))
        go_ret
        exact ⟨rfl, hb⟩
      · have h02 := HT2.out h01 h12
        clear HT HT2
        go_enter Try.func6, Try.ntmps6
        go_wp2_with (first
          | (go_at_call 7; (first | (with_reducible refine G0.out.mono ?_) | (with_reducible refine G1.out.mono ?_) | (with_reducible refine G2.out.mono ?_)); rintro e wx ⟨rfl, rfl⟩)
          | (go_at_call 16; (first | (with_reducible refine D01.out.mono ?_) | (with_reducible refine D12.out.mono ?_) | (with_reducible refine D02.out.mono ?_) | (with_reducible refine D00.out.mono ?_)); rintro e wx ⟨rfl, rfl⟩)
          | (go_at_call 8; refine (awake_any _).mono ?_; rintro e wx ⟨rfl, hb⟩))
        go_ret
        exact ⟨rfl, hb⟩
  all_goals
    clear C01 C12 C02 C00 s0 s1 s2
    go_enter Try.func6, Try.ntmps6
    go_wp2_with (first
      | (go_at_call 7; (first | (with_reducible refine G0.out.mono ?_) | (with_reducible refine G1.out.mono ?_) | (with_reducible refine G2.out.mono ?_)); rintro e wx ⟨rfl, rfl⟩)
      | (go_at_call 8; refine (awake_any _).mono ?_; rintro e wx ⟨rfl, hb⟩))
    go_ret
    exact ⟨rfl, hb⟩
end Go.Proofs.Ytmnkghbbcjnlfaa
