/- CopyInts (layer 3). -/
import Derived.Test.YtgldlanfbkgfjaaL1
namespace Go.Proofs.Ytgldlanfbkgfjaa
open Go.RowKit

set_option maxHeartbeats 4000000 in
theorem copyZ_any (A : Option Addr) (c n : Nat) (xs : List Int) (w : World) (hr : RdZ w A xs) (hn : n = xs.length) (hs : n ≤ 1000000) (hc : A = none → c = 0) :
    Calls Try.prog 10 #[.slice A n c] w fun e w' => ∃ (B c' : Nat), e = .returned (.slice (some ⟨B, 0, none⟩) n c') ∧ RdZ w' (some ⟨B, 0, none⟩) xs ∧ w.heap.size ≤ B ∧ B < w'.heap.size ∧ Below w.heap.size w w' := by
  obtain ⟨i0, hi, hz0, hz1, hz2⟩ := info_partsI i64info
  obtain ⟨W, hW⟩ : ∃ W, W = w.alloc (.cells #[] 3) := ⟨_, rfl⟩
  have hbW : Below w.heap.size w W := by rw [hW]; exact (Below.refl _ _).alloc (Nat.le_refl _) _
  have hWS : W.heap.size = w.heap.size + 1 := by rw [hW]; simp
  have h0 : W.ownsRow w.heap.size 3 1 (.slice (some ⟨w.heap.size, 0, none⟩) 0 0) 0 [] := by
    refine ⟨rfl, .inr ⟨w.heap.size, 0, #[], rfl, Nat.le_refl _, ?_, Nat.le_refl _, by simp [maxLen], rfl, rfl⟩⟩
    rw [hW]
    exact heap_alloc_new w _
  have hA : A = none → n = 0 := fun e => by
    subst e
    rw [hn]
    match xs, hr with
    | [], _ => rfl
    | x :: r, hr =>
      obtain ⟨ad, e, _⟩ := hr 0 x rfl
      cases e
  have hnews : ∀ ad, A = some ad → ∀ (j : Nat) (u : Value), (zs xs)[j]? = some u → W.cell? (ad.add j) = some u := fun ad e j u hj => by
    subst e
    obtain ⟨x, hx, rfl⟩ : ∃ x, xs[j]? = some x ∧ zv x = u := by
      unfold zs at hj
      rw [List.getElem?_map, Option.map_eq_some_iff] at hj
      exact hj
    obtain ⟨ad', e, _, c0⟩ := (hr.below hbW) j x hx
    injection e with e
    subst e
    exact c0
  have hone : ∀ u ∈ zs xs, u.oneCell' = true := fun u hu => by
    obtain ⟨x, _, rfl⟩ := List.mem_map.1 hu
    rfl
  have hlen : (zs xs).length = n * 1 := by simp [zs, hn]
  have HN := Lib.hid hn
  have HW := Lib.hid hW
  have HBW := Lib.hid hbW
  have HWS := Lib.hid hWS
  obtain ⟨ys, hys⟩ : ∃ ys, zs xs = ys := ⟨_, rfl⟩
  have HX := Lib.hid hys
  rw [hys] at hnews hone hlen
  clear hn hr hW hbW hWS hys
  cases A with
  | none =>
    have e := hA rfl
    subst e
    have e := hc rfl
    subst e
    have HLN := Lib.hid hlen
    clear hc hnews hone hA hlen
    go_enter Try.func10, Try.ntmps10
    go_wp2_with (at_builtin; rw [← HW.out]; refine wpList_append_own_none rfl _ _ 22 rfl w.heap.size 3 i0 1 Try.underlying22 hi (.slice (some ⟨w.heap.size, 0, none⟩) 0 0) 0 [] rfl h0 rfl ?_)
    go_ret
    have hE : xs = [] := List.length_eq_zero_iff.1 HN.out.symm
    subst hE
    exact ⟨w.heap.size, 0, rfl, (by intro q e h; simp at h), Nat.le_refl _, by rw [HWS.out]; omega, HBW.out⟩
  | some ad =>
    have hN := hnews ad rfl
    clear hnews hA hc
    go_enter Try.func10, Try.ntmps10
    go_wp2_with (at_builtin; rw [← HW.out]; refine wpList_append_own _ rfl _ _ 22 rfl w.heap.size 3 i0 (.int .i64 0) 1 8 Try.underlying22 hi hz0 hz1 hz2 rfl (by decide) (.slice (some ⟨w.heap.size, 0, none⟩) 0 0) 0 [] rfl h0 ad n c ys rfl hlen hN hone (by simp [maxLen]; omega) (by omega) (by have := HWS.out; omega) ?_; intro v' w' hown hgr hnil)
    go_ret
    rw [List.nil_append, ← HX.out, Nat.zero_add] at hown
    have hv : v' ≠ .slice none 0 0 := fun e => by
      have := (hnil.1 e).1
      cases this
    rcases Joins.ownsRow_forms hown with ⟨e, _⟩ | ⟨g, cap, rfl⟩
    · exact absurd e hv
    · exact ⟨g, cap, rfl, owns_rd hown, (hown.lt g rfl).1, (hown.lt g rfl).2, HBW.out.grown hgr (by have := HWS.out; omega) (by intro k e; simp [Value.ownBlock] at e; omega)⟩
end Go.Proofs.Ytgldlanfbkgfjaa
