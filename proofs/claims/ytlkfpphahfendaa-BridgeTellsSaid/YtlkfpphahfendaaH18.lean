/- Pairs copied, with the room that they have (layer 8). -/
import Derived.Test.YtlkfpphahfendaaH10
namespace Go.Proofs.Ytlkfpphahfendaa
set_option maxRecDepth 100000
open Go.RowKit

set_option maxHeartbeats 4000000 in
theorem copyPw_any (A : Option Addr) (c n : Nat) (E : List (Int × Int)) (w : World) (hr : RdP w A E) (hn : n = E.length) (hs : n ≤ 1000000) (hc : A = none → c = 0) :
    Calls Try.prog 10 #[.slice A n c] w fun e w' => ∃ (B : Option Addr) (c' : Nat), e = .returned (.slice B n c') ∧ w'.ownsRow w.heap.size 44 2 (.slice B n c') n (pcells E) ∧ Below w.heap.size w w' := by
  obtain ⟨i0, hi, hz0, hz1, hz2⟩ := info_partsI pairinfo
  have h0 : w.ownsRow w.heap.size 44 2 (.slice none 0 0) 0 [] := ⟨rfl, .inl ⟨rfl, rfl⟩⟩
  have hA : A = none → n = 0 := fun e => by
    subst e
    rw [hn]
    match E, hr with
    | [], _ => rfl
    | x :: r, hr =>
      obtain ⟨ad, e, _⟩ := hr 0 x rfl
      cases e
  have hnews : ∀ ad, A = some ad → ∀ (j : Nat) (u : Value), (pcells E)[j]? = some u → w.cell? (ad.add j) = some u := fun ad e j u hj => by
    subst e
    obtain ⟨q, x, hx, h⟩ := pcells_split hj
    obtain ⟨ad', e, _, c0, c1⟩ := hr q x hx
    injection e with e
    subst e
    rcases h with ⟨rfl, rfl⟩ | ⟨rfl, rfl⟩
    · exact c0
    · rw [add_one_off] at c1; exact c1
  have hone : ∀ u ∈ pcells E, u.oneCell' = true := fun u hu => by
    obtain ⟨j, hj⟩ := List.getElem?_of_mem hu
    obtain ⟨q, x, hx, h⟩ := pcells_split hj
    rcases h with ⟨_, rfl⟩ | ⟨_, rfl⟩ <;> rfl
  have hlen : (pcells E).length = n * 2 := by rw [pcells_length, hn]
  obtain ⟨xs, hxs⟩ : ∃ xs, pcells E = xs := ⟨_, rfl⟩
  have HX := Lib.hid hxs
  have HN := Lib.hid hn
  rw [hxs] at hnews hone hlen
  clear hxs hn hr
  cases A with
  | none =>
    have e := hA rfl
    subst e
    have e := hc rfl
    subst e
    have HNL := Lib.hid hlen
    clear hc hnews hone hA hlen
    go_enter Try.func10, Try.ntmps10
    go_wp2_with (at_builtin; refine wpList_append_own_none rfl _ _ 22 rfl w.heap.size 44 i0 2 Try.underlying22 hi (.slice none 0 0) 0 [] rfl h0 rfl ?_)
    go_ret
    have hE : E = [] := List.length_eq_zero_iff.1 HN.out.symm
    subst hE
    exact ⟨none, 0, rfl, World.ownsRow_nil _ _ _ _, Below.refl _ _⟩
  | some ad =>
    have hN := hnews ad rfl
    clear hnews hA hc
    go_enter Try.func10, Try.ntmps10
    go_wp2_with (at_builtin; refine wpList_append_own _ rfl _ _ 22 rfl w.heap.size 44 i0 (.agg #[.int .i64 0, .int .i64 0]) 2 16 Try.underlying22 hi hz0 hz1 hz2 rfl (by decide) (.slice none 0 0) 0 [] rfl h0 ad n c xs rfl hlen hN hone (by simp [maxLen]; omega) (by omega) (Nat.le_refl _) ?_; intro v' w' hown hgr _)
    go_ret
    rw [List.nil_append, ← HX.out] at hown
    have hnn := HN.out
    rw [Nat.zero_add] at hown
    obtain ⟨B, c', ev⟩ := owns_form hown
    subst ev
    exact ⟨B, c', rfl, hown, (Below.refl _ _).grown hgr (Nat.le_refl _) (by intro k e; simp [Value.ownBlock] at e)⟩
theorem row_cap {w : World} {base n c size : Nat} {B : Option Addr} {e : TypeId} {cs : List Value} (h : w.ownsRow base e size (.slice B n c) n cs) : n ≤ c ∧ c ≤ 9223372036854775807 := by
  obtain ⟨_, ⟨h0, h1⟩ | ⟨g, cap, cur, ev, _, _, h3, h4, _⟩⟩ := h
  · injection h0 with _ _ e
    omega
  · injection ev with _ _ e
    unfold maxLen at h4
    omega
end Go.Proofs.Ytlkfpphahfendaa
