/- Apply and Identity of both sides in one form; how long their answers are. -/
import Derived.Test.YtgldlanfbkgfjaaM7
import Derived.Test.YtgldlanfbkgfjaaM5
import Derived.Test.YtgldlanfbkgfjaaM4
import Derived.Test.YtgldlanfbkgfjaaL8
import Derived.Test.YtgldlanfbkgfjaaW12
import Derived.Test.YtgldlanfbkgfjaaW29
namespace Go.Proofs.Ytgldlanfbkgfjaa
open Go.RowKit

theorem okA_yes {N : Int} {E : List (Int × Int)} {xs : List Int} (h : okA N E xs = true) : ∃ p : List Nat, xs = iz p ∧ Perm p.length p ∧ p.length ≤ 200 ∧ N = (p.length : Nat) ∧ rightG (p.length : Nat) E = true := by
  simp only [okA, Bool.and_eq_true, decide_eq_true_iff] at h
  obtain ⟨p, rfl, hp, hl⟩ := rightP_iff.1 h.2.1
  have h2 := h.2.2
  rw [iz_length] at h2
  subst h2
  exact ⟨p, rfl, hp, hl, rfl, h.1⟩
theorem okA_vals {p : List Nat} {E : List (Int × Int)} (h : okA (p.length : Nat) E (iz p) = true) : gNA (p.length : Nat) E (iz p) = (p.length : Nat) ∧ gFA (p.length : Nat) E (iz p) = preL (hApp E p) p.length p.length ∧ erG (p.length : Nat) E (iz p) = 0 := by
  unfold gNA gFA erG
  rw [h, tn_iz, iz_length]
  exact ⟨rfl, rfl, rfl⟩
theorem okA_no {N : Int} {E : List (Int × Int)} {xs : List Int} (h : okA N E xs = false) : gNA N E xs = 0 ∧ gFA N E xs = [] ∧ erG N E xs = if rightG N E then 30 else 20 := by
  unfold gNA gFA erG
  rw [h]
  exact ⟨rfl, rfl, rfl⟩
theorem ans_none (w : World) (er : Int) : GAns (.returned (.tuple #[.agg #[.int .i64 0, .slice none 0 0], .int .i64 er])) w 0 [] er := ⟨none, 0, rfl, by intro q x hq; simp at hq⟩
theorem applyT (A0 A1 : Option Addr) (c d m n : Nat) (N : Int) (E : List (Int × Int)) (xs : List Int) (w : World) (hr : RdP w A0 E) (hs : RdZ w A1 xs) (hm : m = E.length) (hn : n = xs.length) (hl : n ≤ 200) (hm6 : m ≤ 1000000) :
    Calls Try.prog 28 #[.agg #[.int .i64 N, .slice A0 m c], .slice A1 n d] w fun e w' => GAns e w' (gNA N E xs) (gFA N E xs) (erG N E xs) ∧ Below w.heap.size w w' := by
  by_cases hx : okA N E xs = true
  · obtain ⟨p, rfl, hp, _, rfl, hg⟩ := okA_yes hx
    rw [iz_length] at hn
    subst hn
    rw [(okA_vals hx).1, (okA_vals hx).2.1, (okA_vals hx).2.2]
    refine (apply_yes A0 A1 c d m p.length E p w hr hs hm hg hp).mono ?_
    rintro e w2 ⟨B, c', F, rfl, h1, h2, h3, _, hb⟩
    have hF := apply_list hp hg h1 h2
    have hml : m = F.length := by rw [h1.length_eq, List.length_map, List.length_map]; exact hm
    rw [← hF]
    exact ⟨⟨B, c', by rw [← hml], h3⟩, hb⟩
  · have hx' : okA N E xs = false := by simpa using hx
    rw [(okA_no hx').1, (okA_no hx').2.1, (okA_no hx').2.2]
    refine (apply_no A0 A1 c d m n N E xs w hr hs hm hn hl hm6 hx').mono ?_
    rintro e w2 ⟨rfl, hb⟩
    exact ⟨ans_none w2 _, hb⟩
theorem refAppT (A0 A1 : Option Addr) (c d m n : Nat) (N : Int) (E : List (Int × Int)) (xs : List Int) (w : World) (hr : RdP w A0 E) (hs : RdZ w A1 xs) (hm : m = E.length) (hn : n = xs.length) (hl : n ≤ 200) (hm6 : m ≤ 1000000) :
    Calls Try.prog 29 #[.agg #[.int .i64 N, .slice A0 m c], .slice A1 n d] w fun e w' => GAns e w' (gNA N E xs) (gFA N E xs) (erG N E xs) ∧ Below w.heap.size w w' := by
  by_cases hx : okA N E xs = true
  · obtain ⟨p, rfl, hp, _, rfl, hg⟩ := okA_yes hx
    rw [iz_length] at hn
    subst hn
    rw [(okA_vals hx).1, (okA_vals hx).2.1, (okA_vals hx).2.2]
    exact refApp_yes A0 A1 c d m p.length E p w hr hs hm hg hp
  · have hx' : okA N E xs = false := by simpa using hx
    rw [(okA_no hx').1, (okA_no hx').2.1, (okA_no hx').2.2]
    refine (refApp_no A0 A1 c d m n N E xs w hr hs hm hn hl hm6 hx').mono ?_
    rintro e w2 ⟨rfl, hb⟩
    exact ⟨ans_none w2 _, hb⟩
set_option maxHeartbeats 4000000 in
theorem ident_no (k : Int) (w : World) (h : ¬ (0 ≤ k ∧ k ≤ 200)) :
    Calls Try.prog 19 #[.int .i64 k] w fun e w' => e = .returned (.slice none 0 0) ∧ Below w.heap.size w w' := by
  by_cases h1 : k < 0
  · have d1 : decide (k < 0) = true := by simpa using h1
    clear h h1
    go_enter Try.func19, Try.ntmps19
    go_wp2_with fail
    go_ret
    exact ⟨by rfl, Below.refl _ _⟩
  · have d1 : decide (k < 0) = false := by simpa using h1
    have d2 : decide (200 < k) = true := by simp; omega
    clear h h1
    go_enter Try.func19, Try.ntmps19
    go_wp2_with fail
    go_ret
    exact ⟨by rfl, Below.refl _ _⟩
theorem identT (k : Int) (w : World) :
    Calls Try.prog 19 #[.int .i64 k] w fun e w' => ∃ (B : Option Addr) (c : Nat), e = .returned (.slice B (idL k).length c) ∧ RdZ w' B (idL k) ∧ Below w.heap.size w w' := by
  by_cases h : 0 ≤ k ∧ k ≤ 200
  · obtain ⟨n, rfl⟩ := Int.eq_ofNat_of_zero_le h.1
    have e : idL (n : Int) = iz (List.range n) := by unfold idL; rw [if_pos h]; rfl
    refine (ident_yes n w (by omega)).mono ?_
    rintro e w2 ⟨B, rfl, hz, _, hb⟩
    refine ⟨some ⟨B, 0, none⟩, n, ?_, ?_, hb⟩
    · rw [‹idL _ = _›, iz_length]; simp
    · rw [‹idL _ = _›]; exact hz.rd
  · have e : idL k = [] := by unfold idL; rw [if_neg h]
    refine (ident_no k w h).mono ?_
    rintro e w2 ⟨rfl, hb⟩
    refine ⟨none, 0, ?_, ?_, hb⟩
    · rw [‹idL _ = _›]; rfl
    · rw [‹idL _ = _›]; intro q x hq; simp at hq
theorem idL_small (k : Int) : (idL k).length ≤ 200 := by
  unfold idL
  split
  · rw [iz_length]; simp; omega
  · simp
theorem lsA_small {b : Bool} {l : List Int} {k : Nat} (h : l.length ≤ k) : (lsA b l).length ≤ k := by
  cases b
  · exact Nat.zero_le _
  · exact h
theorem tn_length (xs : List Int) : (tn xs).length = xs.length := by simp [tn]
theorem comp_small (xs : List Int) (q : List Nat) : (iz (compP (tn xs) q)).length ≤ xs.length := by rw [iz_length]; simp [compP, tn]
theorem inv_small (xs : List Int) : (iz (invP (tn xs))).length ≤ xs.length := by rw [iz_length]; simp [invP, tn]
theorem pow_small (n : Nat) (p : List Nat) (k : Int) : (iz (powP n p k)).length ≤ n := by rw [iz_length]; simp [powP]
theorem cycA_small {n : Nat} {xs : List Int} (hn : n = xs.length) (hs : n ≤ 200) : (cycA n xs).length ≤ 200 ∧ ∀ l ∈ cycA n xs, l.length ≤ 1000000 := by
  unfold cycA
  by_cases hx : rightP xs = true
  · rw [if_pos hx]
    obtain ⟨p, rfl, hp, _⟩ := rightP_iff.1 hx
    rw [iz_length] at hn
    rw [← hn] at hp
    rw [tn_iz]
    refine ⟨by rw [List.length_map]; have := cycs_len p n; omega, fun l hl => ?_⟩
    obtain ⟨c, hc, rfl⟩ := List.mem_map.1 hl
    obtain ⟨v, hv, _, rfl⟩ := mem_cycs.1 hc
    rw [iz_length, orb_length]
    have := (per_spec hp hv).1
    omega
  · rw [if_neg hx]
    exact ⟨Nat.zero_le _, fun l hl => by simp at hl⟩
theorem preL_small (h : Nat → Nat → Bool) (n : Nat) : ∀ a, (preL h n a).length ≤ a * n
  | 0 => by simp [preL]
  | a + 1 => by
    rw [preL_step, List.length_append, Nat.succ_mul]
    have := preL_small h n a
    have := pl_len h a n
    omega
theorem gFA_small {N : Int} {E : List (Int × Int)} {xs : List Int} (hs : xs.length ≤ 200) : (gFA N E xs).length ≤ 1000000 := by
  unfold gFA
  split
  · have h1 := preL_small (hApp E (tn xs)) xs.length xs.length
    have h2 := Nat.mul_le_mul hs hs
    omega
  · simp
theorem sameZ_self (A B : Option Addr) (c d n m : Nat) (L : List Int) (w : World) (hl : RdZ w A L) (hm : RdZ w B L) (hs : L.length ≤ 1000) (hn : n = L.length) (hmm : m = L.length) :
    Calls Try.prog 18 #[.slice A n c, .slice B m d] w fun e w' => e = .returned (.bool true) ∧ Below w.heap.size w w' := by
  have h := sameZ_any A B c d n m L L w hl hm (by omega) (by omega) hn hmm
  rw [decide_eq_true (rfl : L = L)] at h
  exact h
theorem sameR_self (A B : Option Addr) (c d n m : Nat) (L : List (List Int)) (w : World) (hl : RdR w A L) (hm : RdR w B L) (bl : ∀ xs ∈ L, xs.length ≤ 1000000) (hs : L.length ≤ 1000) (hn : n = L.length) (hmm : m = L.length) :
    Calls Try.prog 25 #[.slice A n c, .slice B m d] w fun e w' => e = .returned (.bool true) ∧ Below w.heap.size w w' := by
  have h := sameR_any A B c d n m L L w hl hm bl bl (by omega) (by omega) hn hmm
  rw [decide_eq_true (rfl : L = L)] at h
  exact h
theorem sameG_self (A B : Option Addr) (c d n m : Nat) (N : Int) (E : List (Int × Int)) (w : World) (hl : RdP w A E) (hm : RdP w B E) (hs : E.length ≤ 1000000) (hn : n = E.length) (hmm : m = E.length) :
    Calls Try.prog 30 #[.agg #[.int .i64 N, .slice A n c], .agg #[.int .i64 N, .slice B m d]] w fun e w' => e = .returned (.bool true) ∧ Below w.heap.size w w' := by
  have h := sameG_any A B c d n m N N E E w hl hm (by omega) (by omega) hn hmm
  rw [decide_eq_true (rfl : E = E), beq_self_eq_true] at h
  exact h
end Go.Proofs.Ytgldlanfbkgfjaa
