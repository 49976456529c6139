/- Walks: strands that would be too long. -/
import Derived.Test.YtgljaimoaijcaaaB6
namespace Go.Proofs.Ytgljaimoaijcaaa
open Go.RowKit

set_option maxHeartbeats 1000000 in
theorem withDigits_long (A : Option Addr) (l : List Bool) (N c : Nat) (L : Int) (n W : Nat) (w : World) (hL : L = (l.length : Nat)) (hW : W ≤ 200) (hl : l.length ≤ 4194304) (hm : 4194304 < l.length + W) :
    Calls Try.prog 46 #[.agg #[.slice A N c, .int .i64 L], .int .u64 n, .int .i64 W] w (ErrSt 3 w) := by
  subst hL
  go_enter Try.func46, Try.ntmps46
  go_wp2_with fail
  refine bodyPost_ret (v := .tuple #[.agg #[.slice none 0 0, .int .i64 0], .int .i64 3]) (by simp [results, Try.results46, go_sem]) rfl ⟨rfl, ?_⟩
  first
    | exact ((Below.refl _ _).alloc (Nat.le_refl _) _).alloc (by simp) _
    | exact ((((Below.refl _ _).alloc (Nat.le_refl _) _).alloc (by simp) _).setCell (by show _ ≤ w.heap.size + 1; omega) _).setCell (by show _ ≤ w.heap.size + 1; omega) _

set_option maxHeartbeats 1000000 in
theorem join_long (x y : Value) (a b : List Bool) (w : World) (hx : St w x a) (hy : St w y b) (hm : 4194304 < a.length + b.length) :
    Calls Try.prog 14 #[x, y] w (ErrSt 3 w) := by
  obtain ⟨A, c, rfl, hr, h1⟩ := hx
  obtain ⟨B, d, rfl, hs, h2⟩ := hy
  have HR := Lib.hid hr
  have HS := Lib.hid hs
  clear hr hs
  go_enter Try.func14, Try.ntmps14
  go_wp2_with fail
  refine (right_yes A a _ _ _ _ (((HR.out.alloc _).alloc _).alloc _) rfl rfl h1).mono ?_
  rintro e w1 ⟨rfl, hb1⟩
  obtain ⟨hc, hf⟩ := old_cells hb1
  have hS1 := Lib.hid ((((HS.out.alloc _).alloc _).alloc _).below hb1)
  go_wp2_with fail
  refine (right_yes B b _ _ _ _ hS1.out rfl rfl h2).mono ?_
  rintro e w2 ⟨rfl, hb2⟩
  clear hc hf
  have hB2 := next_below hb1 hb2
  clear hb1 hb2
  obtain ⟨hc, hf⟩ := old_cells hB2
  go_wp2_with fail
  refine bodyPost_ret (v := .tuple #[.agg #[.slice none 0 0, .int .i64 0], .int .i64 3]) (by simp [results, Try.results14, go_sem, hc]) rfl ⟨rfl, ?_⟩
  have h0 : Below w.heap.size w w2 := ((((Below.refl _ _).alloc (Nat.le_refl _) _).alloc (by simp) _).alloc (by simp; omega) _).trans (hB2.mono (by simp; omega))
  exact (h0.setCell (by show _ ≤ w.heap.size + 1 + 1; omega) _).setCell (by show _ ≤ w.heap.size + 1 + 1; omega) _

set_option maxHeartbeats 1000000 in
theorem field_long (x : Value) (a : List Bool) (n W : Nat) (w : World) (hx : St w x a) (hW : W ≤ 64) (h : n < 2 ^ W) (hm : 4194304 < a.length + W) :
    Calls Try.prog 20 #[x, .int .u64 n, .int .i64 W] w (ErrSt 3 w) := by
  obtain ⟨A, c, rfl, hr, hm1⟩ := hx
  have HR := Lib.hid hr
  clear hr
  have hsh := div_zero_test n W h
  have d1 : decide ((W : Int) < 0) = false := by simp
  have d2 : decide ((64 : Int) < (W : Int)) = false := by simp; omega
  clear h
  go_enter Try.func20, Try.ntmps20
  go_wp2_with fail
  refine (right_yes A a _ _ _ _ ((HR.out.alloc _).alloc _) rfl rfl hm1).mono ?_
  rintro e w1 ⟨rfl, hb1⟩
  obtain ⟨hc, hf⟩ := old_cells hb1
  go_wp2_with fail
  refine (withDigits_long A a _ _ _ n W _ rfl (by omega) hm1 hm).mono ?_
  rintro e w2 ⟨rfl, hb2⟩
  clear hc hf hsh d1 d2
  have hB2 := next_below hb1 hb2
  obtain ⟨hc, hf⟩ := old_cells hB2
  go_wp2_with fail
  refine bodyPost_ret (v := .tuple #[.agg #[.slice none 0 0, .int .i64 0], .int .i64 3]) (by simp [results, Try.results20, go_sem, hc]) rfl ⟨rfl, ?_⟩
  have h0 : Below w.heap.size w w2 := (((Below.refl _ _).alloc (Nat.le_refl _) _).alloc (by simp) _).trans (hB2.mono (by simp; omega))
  exact (h0.setCell (by show _ ≤ w.heap.size + 1; omega) _).setCell (by show _ ≤ w.heap.size + 1; omega) _
end Go.Proofs.Ytgljaimoaijcaaa
