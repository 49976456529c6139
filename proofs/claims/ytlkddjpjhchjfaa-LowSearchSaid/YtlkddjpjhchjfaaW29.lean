/- Pairs copied, and held against one another; graphs held against one another. -/
import Derived.Test.YtlkddjpjhchjfaaW11
import Derived.Laws.AppendOwnNone
import Derived.Laws.StructEq
import Derived.Laws.Tables
import Derived.Laws.Cover2
namespace Go.Proofs.Ytlkddjpjhchjfaa
set_option maxRecDepth 100000
open Go.RowKit

def pcells (E : List (Int × Int)) : List Value := E.flatMap fun e => [zv e.1, zv e.2]
theorem pcells_length : ∀ E : List (Int × Int), (pcells E).length = E.length * 2
  | [] => rfl
  | e :: E => by
    have := pcells_length E
    simp only [pcells, List.flatMap_cons, List.length_append, List.length_cons, List.length_nil] at this ⊢
    omega
theorem pcells_at : ∀ (E : List (Int × Int)) (q : Nat) (e : Int × Int), E[q]? = some e → (pcells E)[q * 2]? = some (zv e.1) ∧ (pcells E)[q * 2 + 1]? = some (zv e.2)
  | [], q, e, h => by simp at h
  | x :: E, 0, e, h => by
    simp at h
    subst h
    exact ⟨rfl, rfl⟩
  | x :: E, q + 1, e, h => by
    have := pcells_at E q e (by simpa using h)
    rw [show (q + 1) * 2 = q * 2 + 2 by omega]
    exact this
theorem pcells_split {E : List (Int × Int)} {j : Nat} {u : Value} (h : (pcells E)[j]? = some u) : ∃ (q : Nat) (e : Int × Int), E[q]? = some e ∧ (j = q * 2 ∧ u = zv e.1 ∨ j = q * 2 + 1 ∧ u = zv e.2) := by
  have hl := (List.getElem?_eq_some_iff.1 h).1
  rw [pcells_length] at hl
  have hq : j / 2 < E.length := by omega
  obtain ⟨h1, h2⟩ := pcells_at E (j / 2) E[j / 2] (List.getElem?_eq_getElem hq)
  refine ⟨j / 2, E[j / 2], List.getElem?_eq_getElem hq, ?_⟩
  rcases Nat.mod_two_eq_zero_or_one j with h0 | h0
  · left
    have e : j / 2 * 2 = j := by omega
    rw [e, h] at h1
    exact ⟨by omega, by injection h1⟩
  · right
    have e : j / 2 * 2 + 1 = j := by omega
    rw [e, h] at h2
    exact ⟨by omega, by injection h2⟩
theorem add_one_off (ad : Addr) (q : Nat) : (⟨(ad.add (q * 2)).block, (ad.add (q * 2)).off + 1, none⟩ : Addr) = ad.add (q * 2 + 1) := by
  unfold Addr.add
  by_cases h : q * 2 = 0
  · simp [h]
  · simp [h]; omega
/-- A row of pairs of one's own is read. -/
theorem own_rdP {w : World} {base n : Nat} {v : Value} {E : List (Int × Int)} (h : w.ownsRow base 51 2 v n (pcells E)) : ∃ (B : Option Addr) (c : Nat), v = .slice B E.length c ∧ RdP w B E ∧ (∀ ad, B = some ad → base ≤ ad.block) ∧ (B = none → c = 0) := by
  have hl := h.1
  rw [pcells_length] at hl
  have hn : E.length = n := by omega
  obtain ⟨_, ⟨rfl, h0⟩ | ⟨g, cap, cur, rfl, h1, h2, h3, h4, h5, h6⟩⟩ := h
  · subst h0
    rw [hn]
    refine ⟨none, 0, rfl, fun q e hq => ?_, (by intro ad e; cases e), fun _ => rfl⟩
    have := (List.getElem?_eq_some_iff.1 hq).1
    omega
  · subst hn
    have hat : ∀ (j : Nat) (u : Value), (pcells E)[j]? = some u → w.cell? ⟨g, j, none⟩ = some u := fun j u hj => by
      rw [cell_of h2, ← hj, ← h6]
      have := (List.getElem?_eq_some_iff.1 hj).1
      rw [pcells_length] at this
      rw [List.getElem?_take_of_lt this]
      simp
    refine ⟨some ⟨g, 0, none⟩, cap, rfl, fun q e hq => ⟨_, rfl, lt_of_block h2, ?_, ?_⟩, (by intro ad e; injection e with e; subst e; exact h1), (by intro e; cases e)⟩
    · rw [add_off]; exact hat _ _ (pcells_at E q e hq).1
    · rw [add_off]; exact hat _ _ (pcells_at E q e hq).2
theorem pairinfo : (Try.prog.info? 51).map (fun i => (i.zero, i.size, i.bytes)) = some (some (.agg #[.int .i64 0, .int .i64 0]), 2, 16) := by kernel_rfl

set_option maxHeartbeats 4000000 in
theorem copyP_any (A : Option Addr) (c n : Nat) (E : List (Int × Int)) (w : World) (hr : RdP w A E) (hn : n = E.length) (hs : n ≤ 1000000) (hc : A = none → c = 0) :
    Calls Try.prog 13 #[.slice A n c] w fun e w' => ∃ (B : Option Addr) (c' : Nat), e = .returned (.slice B n c') ∧ RdP w' B E ∧ (∀ ad, B = some ad → w.heap.size ≤ ad.block) ∧ (B = none → c' = 0) ∧ Below w.heap.size w w' := by
  obtain ⟨i0, hi, hz0, hz1, hz2⟩ := info_partsI pairinfo
  have h0 : w.ownsRow w.heap.size 51 2 (.slice none 0 0) 0 [] := ⟨rfl, .inl ⟨rfl, rfl⟩⟩
  have hA : A = none → n = 0 := fun e => by
    subst e
    rw [hn]
    match E, hr with
    | [], _ => rfl
    | x :: r, hr =>
      obtain ⟨ad, e, _⟩ := hr 0 x rfl
      cases e
  have hnews : ∀ ad, A = some ad → ∀ (j : Nat) (u : Value), (pcells E)[j]? = some u → w.cell? (ad.add j) = some u := fun ad e j u hj => by
    subst e
    obtain ⟨q, x, hx, h⟩ := pcells_split hj
    obtain ⟨ad', e, _, c0, c1⟩ := hr q x hx
    injection e with e
    subst e
    rcases h with ⟨rfl, rfl⟩ | ⟨rfl, rfl⟩
    · exact c0
    · rw [add_one_off] at c1; exact c1
  have hone : ∀ u ∈ pcells E, u.oneCell' = true := fun u hu => by
    obtain ⟨j, hj⟩ := List.getElem?_of_mem hu
    obtain ⟨q, x, hx, h⟩ := pcells_split hj
    rcases h with ⟨_, rfl⟩ | ⟨_, rfl⟩ <;> rfl
  have hlen : (pcells E).length = n * 2 := by rw [pcells_length, hn]
  obtain ⟨xs, hxs⟩ : ∃ xs, pcells E = xs := ⟨_, rfl⟩
  have HX := Lib.hid hxs
  have HN := Lib.hid hn
  rw [hxs] at hnews hone hlen
  clear hxs hn hr
  cases A with
  | none =>
    have e := hA rfl
    subst e
    have e := hc rfl
    subst e
    have HNL := Lib.hid hlen
    clear hc hnews hone hA hlen
    go_enter Try.func13, Try.ntmps13
    go_wp2_with (at_builtin; refine wpList_append_own_none rfl _ _ 22 rfl w.heap.size 51 i0 2 Try.underlying22 hi (.slice none 0 0) 0 [] rfl h0 rfl ?_)
    go_ret
    have hE : E = [] := List.length_eq_zero_iff.1 HN.out.symm
    subst hE
    exact ⟨none, 0, rfl, (by intro q e h; simp at h), (by intro ad e; cases e), fun _ => rfl, Below.refl _ _⟩
  | some ad =>
    have hN := hnews ad rfl
    clear hnews hA hc
    go_enter Try.func13, Try.ntmps13
    go_wp2_with (at_builtin; refine wpList_append_own _ rfl _ _ 22 rfl w.heap.size 51 i0 (.agg #[.int .i64 0, .int .i64 0]) 2 16 Try.underlying22 hi hz0 hz1 hz2 rfl (by decide) (.slice none 0 0) 0 [] rfl h0 ad n c xs rfl hlen hN hone (by simp [maxLen]; omega) (by omega) (Nat.le_refl _) ?_; intro v' w' hown hgr _)
    go_ret
    rw [List.nil_append, ← HX.out] at hown
    obtain ⟨B, c', rfl, hb, hbb, hcc⟩ := own_rdP hown
    have hnn := HN.out
    exact ⟨B, c', by rw [hnn]; rfl, hb, hbb, hcc, (Below.refl _ _).grown hgr (Nat.le_refl _) (by intro k e; simp [Value.ownBlock] at e)⟩

theorem eqPair (a b c d : Int) (w : World) : (Op.equalIn 10000 51 (.agg #[.int .i64 a, .int .i64 b]) (.agg #[.int .i64 c, .int .i64 d])).run Try.prog w = .ok (a == c && b == d) w := by
  have u3 := Try.underlying3
  have a3 := Try.isAgg3
  have z3 := Try.sizeOf3
  rw [show (10000 : Nat) = 9999 + 1 from rfl, Op.equalIn]
  simp only [Sem.run_bind, run_underlying Try.underlying51, Result.andThen_ok]
  simp only [Std.Legacy.Range.forIn_eq_forIn_range', Std.Legacy.Range.size, Nat.sub_zero, Nat.add_sub_cancel, Nat.div_one, List.range'_succ, List.range'_zero, List.forIn_cons, List.forIn_nil]
  go_simp
  by_cases h1 : a = c <;> by_cases h2 : b = d <;> simp [h1, h2]
attribute [local go_sem] eqPair
set_option maxRecDepth 100000 in
set_option maxHeartbeats 4000000 in
theorem samePr_any (A B : Option Addr) (c d n m : Nat) (L M : List (Int × Int)) (w : World) (hl : RdP w A L) (hm : RdP w B M) (hL : n ≤ 1000000) (hM : m ≤ 1000000) (hn : n = L.length) (hmm : m = M.length) :
    Calls Try.prog 19 #[.slice A n c, .slice B m d] w fun e w' => e = .returned (.bool (decide (L = M))) ∧ Below w.heap.size w w' := by
  have hgu : Try.prog.eqGuardType Try.prog.depth 51 = false := by kernel_rfl
  have HL := Lib.hid hl
  have HM := Lib.hid hm
  have HN := Lib.hid hn
  have HMM := Lib.hid hmm
  clear hl hm hn hmm
  obtain ⟨r, hr⟩ : ∃ r, decide (L = M) = r := ⟨_, rfl⟩
  have HR := Lib.hid hr
  rw [hr]
  clear hr
  by_cases hnm : n = m
  · subst hnm
    go_enter Try.func19, Try.ntmps19
    go_wp2_with fail
    go_loopw [5] (fun s wr => ∃ k : Nat, k ≤ n ∧ s = .int .i64 k ∧ Hid (L.take k = M.take k) ∧ Hid (Below w.heap.size w wr)) (fun s _ => n - (intOf s).toNat)
    case atStart => exact ⟨0, Nat.zero_le _, rfl, rfl, Lib.hid (Below.refl _ _)⟩
    case round =>
      obtain ⟨k, hk, rfl, hT, hb⟩ := hrel
      by_cases h1 : k < n
      · have t1 : decide ((k : Int) < (n : Int)) = true := by simp; omega
        have hI0 : (0 : Int) ≤ (k : Int) := by omega
        have hI1 : (k : Int) < (n : Nat) := by omega
        obtain ⟨x, hx⟩ : ∃ x, L[k]? = some x := ⟨_, List.getElem?_eq_getElem (by rw [← HN.out]; exact h1)⟩
        obtain ⟨y, hy⟩ : ∃ y, M[k]? = some y := ⟨_, List.getElem?_eq_getElem (by rw [← HMM.out]; exact h1)⟩
        obtain ⟨a1, rfl, ha1, p0, p1⟩ := (HL.out.below hb.out) k x hx
        obtain ⟨a2, rfl, ha2, q0, q1⟩ := (HM.out.below hb.out) k y hy
        obtain ⟨x0, x1⟩ := x
        obtain ⟨y0, y1⟩ := y
        have HX := Lib.hid hx
        have HY := Lib.hid hy
        have HQ := Lib.hid (fun q : Nat => below_drewN hb.out q)
        simp only [] at p0 p1 q0 q1
        clear hx hy
        by_cases hxy : (x0, x1) = (y0, y1)
        · have hT2 : Hid (L.take (k + 1) = M.take (k + 1)) := by
            show _ = _
            rw [List.take_add_one, List.take_add_one, hT.out, HX.out, HY.out, hxy]
          injection hxy with e0 e1
          subst e0; subst e1
          have d1 : (x0 == x0) = true := by simp
          have d2 : (x1 == x1) = true := by simp
          go_upto_region 6 with fail
          go_quiet (fail)
          go_wp2_with fail
          go_roundw
          case rel => exact ⟨k + 1, by omega, by go_num, hT2, Lib.hid (HQ.out _)⟩
          case measure => simp [intOf]; omega
        · have hrf : Hid (r = false) := by
            show _ = _
            rw [← HR.out, decide_eq_false_iff_not]
            intro e
            subst e
            have e := HX.out.symm.trans HY.out
            injection e with e
            exact hxy e
          by_cases h0 : x0 = y0
          · subst h0
            have d1 : (x0 == x0) = true := by simp
            have d2 : (x1 == y1) = false := by
              rw [beq_eq_false_iff_ne]
              intro e
              subst e
              exact hxy rfl
            clear hxy
            go_upto_region 6 with fail
            go_quiet (fail)
            go_wp2_with fail
            go_ret
            exact ⟨by rw [hrf.out]; rfl, HQ.out _⟩
          · have d1 : (x0 == y0) = false := by simpa using h0
            clear hxy h0
            go_upto_region 6 with fail
            go_quiet (fail)
            go_wp2_with fail
            go_ret
            exact ⟨by rw [hrf.out]; rfl, HQ.out _⟩
      · obtain rfl : k = n := by omega
        have t1 : decide ((k : Int) < (k : Int)) = false := by simp
        have hrt : Hid (r = true) := by
          show _ = _
          rw [← HR.out, decide_eq_true_iff]
          have := hT.out
          rw [List.take_of_length_le (by rw [← HN.out]; exact Nat.le_refl _), List.take_of_length_le (by rw [← HMM.out]; exact Nat.le_refl _)] at this
          exact this
        go_wp2_with fail
        go_ret
        exact ⟨by rw [hrt.out]; rfl, hb.out⟩
  · have d1 : ((n : Int) == (m : Int)) = false := by simp; omega
    have d2 : ((n : Int) != (m : Int)) = true := by simp; omega
    have hrf : Hid (r = false) := by
      show _ = _
      rw [← HR.out, decide_eq_false_iff_not]
      intro e
      subst e
      exact hnm (HN.out.trans HMM.out.symm)
    go_enter Try.func19, Try.ntmps19
    go_wp2_with fail
    go_ret
    exact ⟨by rw [hrf.out]; rfl, Below.refl _ _⟩

set_option maxRecDepth 100000 in
set_option maxHeartbeats 4000000 in
theorem sameG_any (A B : Option Addr) (c d n m : Nat) (N M : Int) (E F : List (Int × Int)) (w : World) (hl : RdP w A E) (hm : RdP w B F) (hL : n ≤ 1000000) (hM : m ≤ 1000000) (hn : n = E.length) (hmm : m = F.length) :
    Calls Try.prog 26 #[.agg #[.int .i64 N, .slice A n c], .agg #[.int .i64 M, .slice B m d]] w fun e w' => e = .returned (.bool (N == M && decide (E = F))) ∧ Below w.heap.size w w' := by
  obtain ⟨W, hW⟩ : ∃ W, W = (w.alloc (.cells #[.int .i64 N, .slice A n c] 24)).alloc (.cells #[.int .i64 M, .slice B m d] 24) := ⟨_, rfl⟩
  have hb : Below w.heap.size w W := by rw [hW]; exact ((Below.refl _ _).alloc (Nat.le_refl _) _).alloc (by simp) _
  obtain ⟨i0, i1, _, _⟩ := cells_two (w := W) (by rw [hW]; exact two_first w _ _)
  obtain ⟨j0, j1, _, _⟩ := cells_two (w := W) (by rw [hW]; exact two_second w _ _)
  have HL := Lib.hid (hl.below hb)
  have HM := Lib.hid (hm.below hb)
  have HN := Lib.hid hn
  have HMM := Lib.hid hmm
  have HB := Lib.hid hb
  have HW := Lib.hid hW
  clear hl hm hn hmm hb hW
  cases hNM : N == M with
  | false =>
    go_enter Try.func26, Try.ntmps26
    go_wp2_with fail
    rw [← HW.out]
    go_wp2_with fail
    go_ret
    exact ⟨rfl, HB.out⟩
  | true =>
    go_enter Try.func26, Try.ntmps26
    go_wp2_with fail
    rw [← HW.out]
    go_wp2_with fail
    refine (samePr_any A B c d n m E F W HL.out HM.out hL hM HN.out HMM.out).mono ?_
    rintro e w1 ⟨rfl, hb1⟩
    go_wp2_with fail
    go_ret
    exact ⟨rfl, HB.out.trans (hb1.mono HB.out.size)⟩
end Go.Proofs.Ytlkddjpjhchjfaa
