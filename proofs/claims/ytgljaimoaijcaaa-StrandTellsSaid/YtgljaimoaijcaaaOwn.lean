/- Bytes that are copied, and lent; are they kept? -/
import Derived.Test.YtgljaimoaijcaaaB6
import Derived.Test.YtgljaimoaijcaaaPack
import Derived.Deep.AppendLies
import Derived.Laws.AppendOwnNone
import Derived.Lib.AppendStr
import Derived.Lib.SmallJoins
namespace Go.Proofs.Ytgljaimoaijcaaa
open Go.RowKit

def u8s (xs : List Nat) : List Value := xs.map by8
theorem u8s_length (xs : List Nat) : (u8s xs).length = xs.length := by simp [u8s]
theorem own_u8 {w w' : World} {base n cap : Nat} {g : Nat} {cs : List Value} (h : w.ownsRow base 5 1 (.slice (some ⟨g, 0, none⟩) n cap) n cs) (hb : Below w.heap.size w w') : w'.ownsRow base 5 1 (.slice (some ⟨g, 0, none⟩) n cap) n cs := by
  obtain ⟨hl, h | ⟨g', c, cur, e, h1, h2, h3⟩⟩ := h
  · cases h.1
  · simp only [Value.slice.injEq, Option.some.injEq, Addr.mk.injEq, and_true, true_and] at e
    obtain ⟨rfl, rfl⟩ := e
    exact ⟨hl, .inr ⟨g, cap, cur, rfl, h1, (hb.block g (lt_of_block h2)).trans h2, h3⟩⟩
theorem own_mono {w : World} {base base' n cap : Nat} {g : Nat} {cs : List Value} (h : w.ownsRow base 5 1 (.slice (some ⟨g, 0, none⟩) n cap) n cs) (hb : base' ≤ base) : w.ownsRow base' 5 1 (.slice (some ⟨g, 0, none⟩) n cap) n cs := by
  obtain ⟨hl, h | ⟨g', c, cur, e, h1, h2⟩⟩ := h
  · cases h.1
  · exact ⟨hl, .inr ⟨g', c, cur, e, by omega, h2⟩⟩
/-- Its cell, and that it is above the base. -/
theorem own_at {w : World} {base n cap : Nat} {g : Nat} {cs : List Value} (h : w.ownsRow base 5 1 (.slice (some ⟨g, 0, none⟩) n cap) n cs) : base ≤ g ∧ g < w.heap.size ∧ n ≤ cap ∧ ∀ q u, cs[q]? = some u → w.cell? ⟨g, q, none⟩ = some u := by
  have hc := h.cells (g := g) rfl
  have hl := h.lt g rfl
  refine ⟨hl.1, hl.2, ?_, fun q u hq => by have := hc q u hq; rwa [add_off] at this⟩
  obtain ⟨_, h | ⟨g', c, cur, e, h1, h2, h3, _⟩⟩ := h
  · cases h.1
  · injection e with _ _ e3
    omega

theorem below_of_grown {w0 w' : World} {o : Obj} (hg : (w0.alloc o).grownBy w' (some w0.heap.size)) : Below w0.heap.size w0 w' :=
  ((Below.refl w0.heap.size w0).alloc (Nat.le_refl _) o).grown hg (by simp) (by intro j hj; injection hj with hj; omega)

set_option maxHeartbeats 400000 in
theorem copy_any (A : Option Addr) (xs : List Nat) (c : Nat) (w : World) (hr : RdN w A xs) (hA : A = none → c = 0) (hl : xs.length ≤ 1000000) :
    Calls Try.prog 38 #[.slice A xs.length c] w fun e w' => ∃ g cap, e = .returned (.slice (some ⟨g, 0, none⟩) xs.length cap) ∧ w'.ownsRow w.heap.size 5 1 (.slice (some ⟨g, 0, none⟩) xs.length cap) xs.length (u8s xs) ∧ Below w.heap.size w w' := by
  obtain ⟨i0, hi0, hz0, hz1, hz2⟩ := info_parts u8info
  have hmade := World.ownsRow_made (base := w.heap.size) (e := 5) (size := 1) w #[] 0 (Nat.le_refl _) (by simp [maxLen]) (by simp)
  cases A with
  | none =>
    obtain rfl := hA rfl
    obtain rfl : xs = [] := by
      cases xs with
      | nil => rfl
      | cons x t =>
        obtain ⟨ad, e, _⟩ := hr 0 x rfl
        cases e
    clear hA hr
    go_enter Try.func38, Try.ntmps38
    go_wp2_with (at_builtin; refine wpList_append_own_none rfl _ _ 22 rfl w.heap.size 5 i0 1 Try.underlying22 hi0 _ 0 [] rfl hmade rfl ?_)
    go_ret
    exact ⟨w.heap.size, 0, rfl, hmade, (Below.refl _ _).alloc (Nat.le_refl _) _⟩
  | some ad =>
    clear hA
    have hcell : ∀ j u, (u8s xs)[j]? = some u → (w.alloc (.cells #[] 5)).cell? (ad.add j) = some u := by
      intro j u hj
      simp only [u8s, List.getElem?_map, Option.map_eq_some_iff] at hj
      obtain ⟨x, hx, rfl⟩ := hj
      obtain ⟨ad', e, hb, hc⟩ := hr j x hx
      injection e with e
      subst e
      exact (World.cell?_alloc_lt w _ _ (by rw [block_add]; exact hb)).trans hc
    have h1 : ∀ u ∈ u8s xs, u.oneCell' = true := by
      intro u hu
      simp only [u8s, List.mem_map] at hu
      obtain ⟨x, _, rfl⟩ := hu
      rfl
    have HC := Lib.hid hcell
    have H1 := Lib.hid h1
    clear hcell h1 hr
    go_enter Try.func38, Try.ntmps38
    go_wp2_with (at_builtin; refine wpList_append_own _ rfl _ _ 22 rfl w.heap.size 5 i0 (.int .u8 0) 1 1 Try.underlying22 hi0 hz0 hz1 hz2 rfl (by decide) (.slice (some ⟨w.heap.size, 0, none⟩) 0 0) 0 [] rfl hmade ad xs.length c (u8s xs) rfl (by simp [u8s]) HC.out H1.out (by simp [maxLen]; omega) (by omega) (by simp) ?_; intro v' w' hown hgr hiff)
    try simp only [Nat.zero_add, List.nil_append] at hown
    rcases Joins.ownsRow_forms hown with ⟨rfl, hn⟩ | ⟨g, cap, rfl⟩
    · exact absurd (hiff.1 rfl).1 (by simp)
    · go_ret
      exact ⟨g, cap, rfl, hown, below_of_grown hgr⟩

theorem tail_cells : Lib.strCells { data := #[5, 4, 3, 2, 1] } = u8s [5, 4, 3, 2, 1] := by rfl

set_option maxHeartbeats 400000 in
theorem lent_any (A : Option Addr) (xs : List Nat) (c : Nat) (w : World) (hr : RdN w A xs) (hA : A = none → c = 0) (hl : xs.length ≤ 1000000) :
    Calls Try.prog 37 #[.slice A xs.length c] w fun e w' => ∃ g cap, e = .returned (.slice (some ⟨g, 0, none⟩) xs.length cap) ∧ w'.ownsRow w.heap.size 5 1 (.slice (some ⟨g, 0, none⟩) (xs.length + 5) cap) (xs.length + 5) (u8s (xs ++ [5, 4, 3, 2, 1])) ∧ Below w.heap.size w w' := by
  obtain ⟨i0, hi0, hz0, hz1, hz2⟩ := info_parts u8info
  go_enter Try.func37, Try.ntmps37
  go_wp2_with fail
  refine (copy_any A xs c w hr hA hl).mono ?_
  rintro e w1 ⟨g, cap, rfl, hown, hb⟩
  have HA := Lib.hid hA
  have HR := Lib.hid hr
  clear hA hr
  go_wp2_with (at_builtin; refine Lib.wpList_append_own_string _ rfl _ _ 22 9 rfl w.heap.size 5 i0 Try.underlying22 Try.underlying9 hi0 hz0 hz1 hz2 (.slice (some ⟨g, 0, none⟩) xs.length cap) xs.length (u8s xs) rfl hown { data := #[5, 4, 3, 2, 1] } rfl (by simp [maxLen, ByteArray.size]; omega) (by simp [ByteArray.size]; omega) hb.size ?_; intro v' w' hown2 hgr hiff; obtain ⟨g2, cap2, rfl, _, _⟩ := hown2.form (by simp [ByteArray.size]); rw [tail_cells] at hown2; have hcap : xs.length ≤ cap2 := by { have := (own_at (n := xs.length + 5) hown2).2.2.1; omega }; have hb2 := hb.grown hgr hb.size (by intro j hj; simp [Value.ownBlock] at hj; have := (own_at hown).1; omega))
  go_ret
  refine ⟨g2, cap2, rfl, ?_, hb2⟩
  rw [show u8s (xs ++ [5, 4, 3, 2, 1]) = u8s xs ++ u8s [5, 4, 3, 2, 1] by simp [u8s]]
  exact hown2

set_option maxHeartbeats 400000 in
theorem kept_any (A : Option Addr) (xs : List Nat) (c g cap : Nat) (w : World) (hr : RdN w A xs) (hl : xs.length ≤ 1000000) (base : Nat)
    (ho : w.ownsRow base 5 1 (.slice (some ⟨g, 0, none⟩) (xs.length + 5) cap) (xs.length + 5) (u8s (xs ++ [5, 4, 3, 2, 1]))) :
    Calls Try.prog 40 #[.slice (some ⟨g, 0, none⟩) xs.length cap, .slice A xs.length c] w fun e w' => e = .returned (.bool true) ∧ Below w.heap.size w w' := by
  obtain ⟨_, hgl, hcap, hcell⟩ := own_at ho
  have hrd : RdN w (some ⟨g, 0, none⟩) (xs ++ [5, 4, 3, 2, 1]) := fun q x hq => ⟨_, rfl, hgl, by
    rw [add_off]
    exact hcell q (by8 x) (by simp only [u8s, List.getElem?_map, hq]; rfl)⟩
  have hc1 := conv_rd (P := Try.prog) w.drew 22 5 Try.underlying22 Try.underlying5 (some ⟨g, 0, none⟩) cap (xs.length + 5) _ (by simp) hrd 9 Try.underlying9
  have hc2 := conv_rd (P := Try.prog) w.drew 22 5 Try.underlying22 Try.underlying5 A c xs.length xs rfl hr 9 Try.underlying9
  have hsz : (strN xs).size + 5 ≤ 9223372036854775807 := by simp [strN, ByteArray.size]; omega
  have hsz0 : (strN xs).size = xs.length := by simp [strN, ByteArray.size]
  have heq : Hid (((strN (xs ++ [5, 4, 3, 2, 1])).toList == (strN xs ++ { data := #[5, 4, 3, 2, 1] }).toList) = true) := by
    show _ = _
    rw [beq_iff_eq]
    have : strN (xs ++ [5, 4, 3, 2, 1]) = strN xs ++ { data := #[5, 4, 3, 2, 1] } := by
      apply ByteArray.ext
      simp [strN, ByteArray.data_append]
    rw [this]
  clear hr ho hrd hcell
  generalize strN (xs ++ [5, 4, 3, 2, 1]) = Y at *
  generalize strN xs = X at *
  go_enter Try.func40, Try.ntmps40
  go_wp2_with fail
  go_region
  all_goals go_wp2_with fail
  all_goals go_ret
  all_goals exact ⟨by show Ending.returned (.bool _) = _; rw [heq.out], (Below.refl _ _).drew⟩
end Go.Proofs.Ytgljaimoaijcaaa
