/- BridgeTells: what the program tells is what the reference tells (layer 8). -/
import Derived.Test.YtlkfpphahfendaaH17
import Derived.Test.YtlkfpphahfendaaH10
import Derived.Test.YtlkfpphahfendaaH11
import Derived.Deep.RegionHeld3
namespace Go.Proofs.Ytlkfpphahfendaa
set_option maxRecDepth 100000
open Go.RowKit

set_option maxHeartbeats 4000000 in
theorem copyPw_any (A : Option Addr) (c n : Nat) (E : List (Int × Int)) (w : World) (hr : RdP w A E) (hn : n = E.length) (hs : n ≤ 1000000) (hc : A = none → c = 0) :
    Calls Try.prog 10 #[.slice A n c] w fun e w' => ∃ (B : Option Addr) (c' : Nat), e = .returned (.slice B n c') ∧ w'.ownsRow w.heap.size 44 2 (.slice B n c') n (pcells E) ∧ Below w.heap.size w w' := by
  obtain ⟨i0, hi, hz0, hz1, hz2⟩ := info_partsI pairinfo
  have h0 : w.ownsRow w.heap.size 44 2 (.slice none 0 0) 0 [] := ⟨rfl, .inl ⟨rfl, rfl⟩⟩
  have hA : A = none → n = 0 := fun e => by
    subst e
    rw [hn]
    match E, hr with
    | [], _ => rfl
    | x :: r, hr =>
      obtain ⟨ad, e, _⟩ := hr 0 x rfl
      cases e
  have hnews : ∀ ad, A = some ad → ∀ (j : Nat) (u : Value), (pcells E)[j]? = some u → w.cell? (ad.add j) = some u := fun ad e j u hj => by
    subst e
    obtain ⟨q, x, hx, h⟩ := pcells_split hj
    obtain ⟨ad', e, _, c0, c1⟩ := hr q x hx
    injection e with e
    subst e
    rcases h with ⟨rfl, rfl⟩ | ⟨rfl, rfl⟩
    · exact c0
    · rw [add_one_off] at c1; exact c1
  have hone : ∀ u ∈ pcells E, u.oneCell' = true := fun u hu => by
    obtain ⟨j, hj⟩ := List.getElem?_of_mem hu
    obtain ⟨q, x, hx, h⟩ := pcells_split hj
    rcases h with ⟨_, rfl⟩ | ⟨_, rfl⟩ <;> rfl
  have hlen : (pcells E).length = n * 2 := by rw [pcells_length, hn]
  obtain ⟨xs, hxs⟩ : ∃ xs, pcells E = xs := ⟨_, rfl⟩
  have HX := Lib.hid hxs
  have HN := Lib.hid hn
  rw [hxs] at hnews hone hlen
  clear hxs hn hr
  cases A with
  | none =>
    have e := hA rfl
    subst e
    have e := hc rfl
    subst e
    have HNL := Lib.hid hlen
    clear hc hnews hone hA hlen
    go_enter Try.func10, Try.ntmps10
    go_wp2_with (at_builtin; refine wpList_append_own_none rfl _ _ 22 rfl w.heap.size 44 i0 2 Try.underlying22 hi (.slice none 0 0) 0 [] rfl h0 rfl ?_)
    go_ret
    have hE : E = [] := List.length_eq_zero_iff.1 HN.out.symm
    subst hE
    exact ⟨none, 0, rfl, World.ownsRow_nil _ _ _ _, Below.refl _ _⟩
  | some ad =>
    have hN := hnews ad rfl
    clear hnews hA hc
    go_enter Try.func10, Try.ntmps10
    go_wp2_with (at_builtin; refine wpList_append_own _ rfl _ _ 22 rfl w.heap.size 44 i0 (.agg #[.int .i64 0, .int .i64 0]) 2 16 Try.underlying22 hi hz0 hz1 hz2 rfl (by decide) (.slice none 0 0) 0 [] rfl h0 ad n c xs rfl hlen hN hone (by simp [maxLen]; omega) (by omega) (Nat.le_refl _) ?_; intro v' w' hown hgr _)
    go_ret
    rw [List.nil_append, ← HX.out] at hown
    have hnn := HN.out
    rw [Nat.zero_add] at hown
    obtain ⟨B, c', ev⟩ := owns_form hown
    subst ev
    exact ⟨B, c', rfl, hown, (Below.refl _ _).grown hgr (Nat.le_refl _) (by intro k e; simp [Value.ownBlock] at e)⟩
theorem row_cap {w : World} {base n c size : Nat} {B : Option Addr} {e : TypeId} {cs : List Value} (h : w.ownsRow base e size (.slice B n c) n cs) : n ≤ c ∧ c ≤ 9223372036854775807 := by
  obtain ⟨_, ⟨h0, h1⟩ | ⟨g, cap, cur, ev, _, _, h3, h4, _⟩⟩ := h
  · injection h0 with _ _ e
    omega
  · injection ev with _ _ e
    unfold maxLen at h4
    omega

/-- Any pairs. -/
def OkPairs (w : World) (v : Value) : Prop := ∃ (A : Option Addr) (c : Nat) (E : List (Int × Int)), v = .slice A E.length c ∧ (∀ e ∈ E, isI e.1 ∧ isI e.2) ∧ RdP w A E ∧ E.length ≤ c ∧ c ≤ 9223372036854775807 ∧ (A = none → c = 0)
open Go.ChangeShapes Go.WideShapes in
theorem open_pairsOk {H : Type} {enc : TypeId × Value → H} {W : World} {r : Reach} {b0 : Nat} {v : Value} {d : DataW H} {p : List MemPlace}
    (hv : Value.okWide Try.prog W r b0 22 v) (h : DataW.Trod enc Try.prog W 0 (fun _ => true) true 22 v d p) : OkPairs W v := by
  obtain ⟨a0, len, cap, rfl⟩ := okWide_slice Try.underlying22 hv
  obtain ⟨n, hn⟩ := h
  exact open_pairs (v := .slice a0 len cap) hn
theorem RdP.set8 {w : World} {B : Option Addr} {E : List (Int × Int)} {p : Addr} (h : RdP w B E) (u : Value) (hne : ∀ ad, B = some ad → ad.block ≠ p.block) : RdP (w.setCell p u) B E := fun q e hq => by
  obtain ⟨ad, e1, hl, h1, h2⟩ := h q e hq
  refine ⟨ad, e1, by simpa [World.setCell] using hl, ?_, ?_⟩
  · rw [World.cell?_setCell_far _ _ _ _ (by rw [block_add]; exact fun e => hne ad e1 e.symm)]; exact h1
  · rw [World.cell?_setCell_far _ _ _ _ (by show p.block ≠ (ad.add (q * 2)).block; rw [block_add]; exact fun e => hne ad e1 e.symm)]; exact h2
theorem comp_le (zs : List Int) : (Lib.compact zs).length ≤ zs.length := by
  unfold Lib.compact Lib.compactUpTo
  rw [List.length_map]
  exact Nat.le_trans (List.length_filter_le _ _) (by simp)
theorem fragsT_small (N : Int) (E W : List (Int × Int)) (h : E.length ≤ 1000) : (fragsT N E W).1.length ≤ 1000 ∧ ∀ x ∈ (fragsT N E W).1, x.1.length ≤ 1000000 ∧ x.2.length ≤ 1000000 := by
  unfold fragsT
  split
  · simp
  · split
    · have hL := (leftP_le W E E.length).2
      unfold fragsF
      constructor
      · rw [List.length_map]
        have := fragsO_le (onW W) (leftP W E E.length).1 (ownF N.toNat (onW W) (fun v => (rT (onW W) (leftP W E E.length).1 N.toNat (leftP W E E.length).1.length).getD v 0) (leftP W E E.length).1) (leftP W E E.length).1.length
        omega
      · intro x hx
        rw [List.mem_map] at hx
        obtain ⟨y, hy, rfl⟩ := hx
        obtain ⟨q, hq⟩ := List.getElem?_of_mem hy
        have hz := fragsO_sz hq
        have h1 := comp_le (srtZ y.2)
        rw [srtZ_length] at h1
        exact ⟨by show y.1.length ≤ _; omega, by show (Lib.compact (srtZ y.2)).length ≤ _; omega⟩
    · simp
theorem frag_form {w' : World} {V : Value} {fr : List (Value × Value)} {F : List (List (Int × Int) × List Int)} {base : Nat} (h : Frags w' base V fr F) : ∃ A c, V = .slice A F.length c ∧ RdF w' A F := by
  obtain ⟨A, c, ev⟩ := owns_form h.row
  subst ev
  exact ⟨A, c, rfl, h.rd⟩
theorem fragsTT (A B : Option Addr) (c d n m : Nat) (N : Int) (E W : List (Int × Int)) (w : World) (hE : RdP w A E) (hW : RdP w B W) (hn : n = E.length) (hm : m = W.length) (hmd : m ≤ d) (hd : d ≤ 9223372036854775807) :
    Calls Try.prog 11 #[.agg #[.int .i64 N, .slice A n c], .slice B m d] w fun e w' => ∃ (A' : Option Addr) (l c' : Nat), e = .returned (.tuple #[.slice A' l c', .int .i64 (fragsT N E W).2]) ∧ l = (fragsT N E W).1.length ∧ RdF w' A' (fragsT N E W).1 ∧ Below w.heap.size w w' := by
  refine (frags_any A B c d n m N E W w hE hW hn hm hmd hd).mono ?_
  rintro e w' ⟨V, fr, rfl, hF, hb⟩
  obtain ⟨A', c', rfl, hr⟩ := frag_form hF
  exact ⟨A', _, c', rfl, rfl, hr, hb⟩
theorem refFragsTT (A B : Option Addr) (c d n m : Nat) (N : Int) (E W : List (Int × Int)) (w : World) (hE : RdP w A E) (hW : RdP w B W) (hn : n = E.length) (hm : m = W.length) (hs : n ≤ 1000) (ht : m ≤ 1000) :
    Calls Try.prog 12 #[.agg #[.int .i64 N, .slice A n c], .slice B m d] w fun e w' => ∃ (A' : Option Addr) (l c' : Nat), e = .returned (.tuple #[.slice A' l c', .int .i64 (fragsT N E W).2]) ∧ l = (fragsT N E W).1.length ∧ RdF w' A' (fragsT N E W).1 ∧ Below w.heap.size w w' := by
  refine (refFrags_any A B c d n m N E W w hE hW hn hm hs ht).mono ?_
  rintro e w' ⟨V, fr, rfl, hF, hb⟩
  obtain ⟨A', c', rfl, hr⟩ := frag_form hF
  exact ⟨A', _, c', rfl, rfl, hr, hb⟩
theorem sameF_self (A B : Option Addr) (c d n m : Nat) (L : List (List (Int × Int) × List Int)) (w : World) (hl : RdF w A L) (hm : RdF w B L) (bl : ∀ x ∈ L, x.1.length ≤ 1000000 ∧ x.2.length ≤ 1000000) (hL : n ≤ 1000000) (hM : m ≤ 1000000) (hn : n = L.length) (hmm : m = L.length) :
    Calls Try.prog 13 #[.slice A n c, .slice B m d] w fun e w' => e = .returned (.bool true) ∧ Below w.heap.size w w' := by
  have h := sameF_any A B c d n m L L w hl hm bl bl hL hM hn hmm
  rw [decide_eq_true (rfl : L = L)] at h
  exact h
theorem sameP_self (A B : Option Addr) (c d n m : Nat) (L : List (Int × Int)) (w : World) (hl : RdP w A L) (hm : RdP w B L) (hL : n ≤ 1000000) (hM : m ≤ 1000000) (hn : n = L.length) (hmm : m = L.length) :
    Calls Try.prog 15 #[.slice A n c, .slice B m d] w fun e w' => e = .returned (.bool true) ∧ Below w.heap.size w w' := by
  have h := samePr_any A B c d n m L L w hl hm hL hM hn hmm
  rw [decide_eq_true (rfl : L = L)] at h
  exact h
theorem sameG_self (A B : Option Addr) (c d n m : Nat) (N : Int) (E : List (Int × Int)) (w : World) (hl : RdP w A E) (hm : RdP w B E) (hL : n ≤ 1000000) (hM : m ≤ 1000000) (hn : n = E.length) (hmm : m = E.length) :
    Calls Try.prog 14 #[.agg #[.int .i64 N, .slice A n c], .agg #[.int .i64 N, .slice B m d]] w fun e w' => e = .returned (.bool true) ∧ Below w.heap.size w w' := by
  have h := sameG_any A B c d n m N N E E w hl hm hL hM hn hmm
  rw [decide_eq_true (rfl : E = E), beq_self_eq_true] at h
  exact h
set_option maxHeartbeats 16000000 in
theorem tells_big (A B : Option Addr) (c d n m : Nat) (N : Int) (w : World) (h : 14 < N ∨ 40 < n ∨ 40 < m) :
    Calls Try.prog 3 #[.agg #[.int .i64 N, .slice A n c], .slice B m d] w fun e w' => e = .returned (.bool true) ∧ Below w.heap.size w w' := by
  obtain ⟨W, hW⟩ : ∃ W, W = w.alloc (.cells #[.int .i64 N, .slice A n c] 24) := ⟨_, rfl⟩
  have hbw : Below w.heap.size w W := by rw [hW]; exact (Below.refl _ _).alloc (Nat.le_refl _) _
  have HB := Lib.hid hbw
  have HW := Lib.hid hW
  clear hbw hW
  by_cases h1 : 14 < N
  · have d1 : decide (14 < N) = true := by simpa using h1
    clear h
    go_enter Try.func3, Try.ntmps3
    go_wp2_with fail
    rw [← HW.out]
    refine (awake_any W).mono ?_
    rintro e w2 ⟨rfl, hb2⟩
    go_wp2_with fail
    go_ret
    exact ⟨rfl, next_below HB.out hb2⟩
  · have d1 : decide (14 < N) = false := by simpa using h1
    by_cases h2 : 40 < n
    · have d2 : decide ((40 : Int) < (n : Int)) = true := by simp; omega
      have d3 : decide (40 < n) = true := by simp; omega
      clear h
      go_enter Try.func3, Try.ntmps3
      go_wp2_with fail
      rw [← HW.out]
      refine (awake_any W).mono ?_
      rintro e w2 ⟨rfl, hb2⟩
      go_wp2_with fail
      go_ret
      exact ⟨rfl, next_below HB.out hb2⟩
    · have d2 : decide ((40 : Int) < (n : Int)) = false := by simp; omega
      have d3 : decide (40 < n) = false := by simp; omega
      have d4 : decide ((40 : Int) < (m : Int)) = true := by simp; omega
      have d5 : decide (40 < m) = true := by simp; omega
      clear h
      go_enter Try.func3, Try.ntmps3
      go_wp2_with fail
      rw [← HW.out]
      refine (awake_any W).mono ?_
      rintro e w2 ⟨rfl, hb2⟩
      go_wp2_with fail
      go_ret
      exact ⟨rfl, next_below HB.out hb2⟩
set_option maxHeartbeats 16000000 in
theorem tells_all (A A1 : Option Addr) (c c1 n m : Nat) (N : Int) (E V : List (Int × Int)) (w : World) (hr : RdP w A E) (hr1 : RdP w A1 V) (hn : n = E.length) (hm : m = V.length) (hc : A = none → c = 0) (hc1 : A1 = none → c1 = 0) (h1 : ¬ 14 < N) (h2 : ¬ 40 < n) (h3 : ¬ 40 < m) :
    Calls Try.prog 3 #[.agg #[.int .i64 N, .slice A n c], .slice A1 m c1] w fun e w' => e = .returned (.bool true) ∧ Below w.heap.size w w' := by
  obtain ⟨W, hW⟩ : ∃ W, W = w.alloc (.cells #[.int .i64 N, .slice A n c] 24) := ⟨_, rfl⟩
  have hbw : Below w.heap.size w W := by rw [hW]; exact (Below.refl _ _).alloc (Nat.le_refl _) _
  have hWS : w.heap.size < W.heap.size := by rw [hW]; simp
  obtain ⟨i0, i1, _, _⟩ := cells_two (w := W) (by rw [hW]; exact heap_alloc_new w _)
  have HJ : Hid (∀ w', Below W.heap.size W w' → w'.cell? ⟨w.heap.size, 0, none⟩ = some (.int .i64 N) ∧ w'.cell? ⟨w.heap.size, 1, none⟩ = some (.slice A n c)) := fun w' hb =>
    ⟨by rw [hb.cell (by show w.heap.size < _; omega)]; exact i0, by rw [hb.cell (by show w.heap.size < _; omega)]; exact i1⟩
  have HR := Lib.hid (hr.below hbw)
  have HR1 := Lib.hid (hr1.below hbw)
  have HC := Lib.hid hc
  have HC1 := Lib.hid hc1
  have HB := Lib.hid hbw
  have HW := Lib.hid hW
  have HN := Lib.hid hn
  have HM := Lib.hid hm
  obtain ⟨F, hF⟩ : ∃ F, (fragsT N E V).1 = F := ⟨_, rfl⟩
  obtain ⟨q, hq⟩ : ∃ q, (fragsT N E V).2 = q := ⟨_, rfl⟩
  have hsm := fragsT_small N E V (by omega)
  rw [hF] at hsm
  have HSM := Lib.hid hsm
  have HF := Lib.hid hF
  have HQ := Lib.hid hq
  have n1 : (q == q) = true := by simp
  have d1 : decide (14 < N) = false := by simpa using h1
  have d2 : decide ((40 : Int) < (n : Int)) = false := by simp; omega
  have d3 : decide (40 < n) = false := by simp; omega
  have d4 : decide ((40 : Int) < (m : Int)) = false := by simp; omega
  have d5 : decide (40 < m) = false := by simp; omega
  clear hr hr1 hbw hW hn hm i0 i1 hc hc1 h1 hsm hF hq
  go_enter Try.func3, Try.ntmps3
  go_wp2_with fail
  rw [← HW.out]
  obtain ⟨j0, j1⟩ := HJ.out W (Below.refl _ _)
  go_upto_region 3 with fail
  go_cut [5] (fun s5 wx => ∃ (p c' : Nat) (B : Option Addr), s5 = .pointer (some ⟨p, 0, none⟩) ∧ wx.heap[p]? = some (.cells #[.int .i64 N, .slice B n c'] 24 (0, 0)) ∧ RdP wx B E ∧ W.heap.size ≤ p ∧ Below W.heap.size W wx)
  case first =>
    have HH : Hid (∀ w', Below W.heap.size W w' → w'.cell? ⟨w.heap.size, 0, none⟩ = some (.int .i64 N) ∧ w'.cell? ⟨w.heap.size, 1, none⟩ = some (.slice A n c) ∧ Below W.heap.size W w') := fun w' hb =>
      ⟨(HJ.out w' hb).1, (HJ.out w' hb).2, hb⟩
    have HCP : Hid (∀ w', Below W.heap.size W w' → Calls Try.prog 10 #[.slice A n c] w' fun e w'' => ∃ (B : Option Addr) (c' : Nat), e = .returned (.slice B n c') ∧ RdP w'' B E ∧ (∀ ad, B = some ad → w'.heap.size ≤ ad.block) ∧ (B = none → c' = 0) ∧ Below w'.heap.size w' w'') := fun w' hb =>
      copyP_any A c n E w' (HR.out.below hb) HN.out (by omega) HC.out
    have hD := HH.out W.drew (Below.refl _ _).drew
    clear HJ HR
    go_region_held3 (fun w' => w'.cell? ⟨w.heap.size, 0, none⟩ = some (.int .i64 N) ∧ w'.cell? ⟨w.heap.size, 1, none⟩ = some (.slice A n c) ∧ Below W.heap.size W w')
      (first | exact hS | exact hD | exact HH.out _ (((Below.refl _ _).alloc (Nat.le_refl _) _).drew) | exact HH.out _ ((‹_ ∧ _ ∧ Below W.heap.size W _›).2.2.alloc (‹_ ∧ _ ∧ Below W.heap.size W _›).2.2.size _) | exact HH.out _ (((‹_ ∧ _ ∧ Below W.heap.size W _›).2.2.setCell (Nat.le_refl _) _).setCell (Nat.le_refl _) _))
      (first | (go_at_call 10; refine (HCP.out _ (‹_ ∧ _ ∧ Below W.heap.size W _›).2.2).mono ?_; rintro e w3 ⟨B, c', rfl, hrd, hbl, hcn, hb⟩; have hS := HH.out w3 (next_below (‹_ ∧ _ ∧ Below W.heap.size W _›).2.2 hb); obtain ⟨hc, hf⟩ := old_cells hb))
    all_goals go_wp2_with fail
    all_goals go_meet
    · exact ⟨w3.heap.size, c', B, rfl, heap_alloc_new w3 _, hrd.below ((Below.refl _ _).alloc (Nat.le_refl _) _), hS.2.2.size, hS.2.2.alloc hS.2.2.size _⟩
    · have hz : w3.heap[W.heap.size]? = some (Obj.cells #[Value.int IntKind.i64 0, Value.slice none 0 0] 24 (0, 0)) := (hb.block W.heap.size (by show W.heap.size < (W.alloc _).heap.size; simp only [World.size_alloc]; omega)).trans (heap_alloc_new W _)
      have hbl2 : ∀ ad, B = some ad → ad.block ≠ W.heap.size := fun ad e => by
        have := hbl ad e
        simp only [World.size_drew, World.size_alloc] at this
        omega
      refine ⟨W.heap.size, c', B, rfl, ?_, (hrd.set8 _ hbl2).set8 _ hbl2, Nat.le_refl _, (hS.2.2.setCell (Nat.le_refl _) _).setCell (Nat.le_refl _) _⟩
      show _ = _
      simp [World.setCell, Array.getElem?_modify, hz]
  case rest =>
    obtain ⟨p, c', B, rfl, hp, hrd, hpl, hb2⟩ := hcut
    obtain ⟨p0, p1, _, _⟩ := cells_two hp
    have hpw := lt_of_block hp
    have HP : Hid (∀ w', Below wc.heap.size wc w' → w'.cell? ⟨p, 0, none⟩ = some (.int .i64 N) ∧ w'.cell? ⟨p, 1, none⟩ = some (.slice B n c') ∧ w'.cell? ⟨w.heap.size, 0, none⟩ = some (.int .i64 N) ∧ w'.cell? ⟨w.heap.size, 1, none⟩ = some (.slice A n c)) := fun w' hb =>
      ⟨by rw [hb.cell (by exact hpw)]; exact p0, by rw [hb.cell (by exact hpw)]; exact p1, (HJ.out w' (next_below hb2 hb)).1, (HJ.out w' (next_below hb2 hb)).2⟩
    have HBC := Lib.hid (next_below HB.out hb2)
    have HRD := Lib.hid hrd
    have HRC := Lib.hid (HR.out.below hb2)
    have HVC := Lib.hid (HR1.out.below hb2)
    clear hp hrd hb2 j0 j1 p0 p1 HJ
    go_wp2_with fail
    refine (copyPw_any A1 c1 m V wc HVC.out HM.out (by omega) HC1.out).mono ?_
    rintro e w2 ⟨Bw, cw, rfl, hrow, hb⟩
    have hcap := row_cap hrow
    obtain ⟨Bw', cw', ev, hrw, _, _⟩ := own_rdP hrow
    injection ev with ev e2 e3
    subst ev
    clear e2 e3
    have HB2 := Lib.hid hb
    have RW := Lib.hid hrw
    clear hrow hb hrw
    obtain ⟨b0, b1, b2, b3⟩ := HP.out w2 HB2.out
    have HT := Lib.hid (fragsTT B Bw c' cw n m N E V w2 (HRD.out.below HB2.out) RW.out HN.out HM.out hcap.1 hcap.2)
    rw [HF.out, HQ.out] at HT
    go_wp2_with fail
    refine HT.out.mono ?_
    rintro e w3 ⟨A2, l2, c2, rfl, hl2, r2, hb⟩
    have RW := Lib.hid (RW.out.below hb)
    have HB3 := Lib.hid (next_below HB2.out hb)
    have R2 := Lib.hid r2
    have HL2 := Lib.hid hl2
    clear b0 b1 b2 b3 hb r2 hl2 HT
    obtain ⟨b0, b1, b2, b3⟩ := HP.out w3 HB3.out
    have HT := Lib.hid (refFragsTT A A1 c c1 n m N E V w3 (HRC.out.below HB3.out) (HVC.out.below HB3.out) HN.out HM.out (by omega) (by omega))
    rw [HF.out, HQ.out] at HT
    go_wp2_with fail
    refine HT.out.mono ?_
    rintro e w4 ⟨A3, l3, c3, rfl, hl3, r3, hb⟩
    have RW := Lib.hid (RW.out.below hb)
    have HB4 := Lib.hid (next_below HB3.out hb)
    have R2 := Lib.hid (R2.out.below hb)
    have R3 := Lib.hid r3
    have HL3 := Lib.hid hl3
    clear b0 b1 b2 b3 hb r3 hl3 HT
    obtain ⟨b0, b1, b2, b3⟩ := HP.out w4 HB4.out
    have hlb2 : l2 ≤ 1000000 := by rw [HL2.out]; have := HSM.out.1; omega
    have hlb3 : l3 ≤ 1000000 := by rw [HL3.out]; have := HSM.out.1; omega
    go_wp2_with fail
    refine (sameF_self A2 A3 c2 c3 l2 l3 F w4 R2.out R3.out HSM.out.2 hlb2 hlb3 HL2.out HL3.out).mono ?_
    rintro e w5 ⟨rfl, hb⟩
    have RW := Lib.hid (RW.out.below hb)
    have HB5 := Lib.hid (next_below HB4.out hb)
    clear b0 b1 b2 b3 hb
    obtain ⟨b0, b1, b2, b3⟩ := HP.out w5 HB5.out
    go_wp2_with fail
    refine (sameG_self B A c' c n n N E w5 (HRD.out.below HB5.out) (HRC.out.below HB5.out) (by omega) (by omega) HN.out HN.out).mono ?_
    rintro e w6 ⟨rfl, hb⟩
    have RW := Lib.hid (RW.out.below hb)
    have HB6 := Lib.hid (next_below HB5.out hb)
    clear b0 b1 b2 b3 hb
    go_wp2_with fail
    refine (sameP_self Bw A1 cw c1 m m V w6 RW.out (HVC.out.below HB6.out) (by omega) (by omega) HM.out HM.out).mono ?_
    rintro e w7 ⟨rfl, hb⟩
    have HB7 := Lib.hid (next_below HB6.out hb)
    clear hb
    go_wp2_with fail
    refine (awake_any w7).mono ?_
    rintro e w8 ⟨rfl, hb⟩
    have HB8 := Lib.hid (next_below HB7.out hb)
    clear hb
    go_wp2_with fail
    go_ret
    exact ⟨rfl, next_below HBC.out HB8.out⟩
theorem tells_walk (v0 v1 : Value) (w : World) (h0 : OkGraph w v0) (h1 : OkPairs w v1) : Calls Try.prog 3 #[v0, v1] w fun e w' => e = .returned (.bool true) ∧ Below w.heap.size w w' := by
  obtain ⟨N, A, c, E, rfl, _, _, hr, _, _, hc⟩ := h0
  obtain ⟨A1, c1, V, rfl, _, hr1, _, _, hc1⟩ := h1
  obtain ⟨n, hn⟩ : ∃ n, n = E.length := ⟨_, rfl⟩
  obtain ⟨m, hm⟩ : ∃ m, m = V.length := ⟨_, rfl⟩
  rw [← hn, ← hm]
  by_cases h1 : 14 < N
  · exact tells_big A A1 c c1 n m N w (.inl h1)
  · by_cases h2 : 40 < n
    · exact tells_big A A1 c c1 n m N w (.inr (.inl h2))
    · by_cases h3 : 40 < m
      · exact tells_big A A1 c c1 n m N w (.inr (.inr h3))
      · exact tells_all A A1 c c1 n m N E V w hr hr1 hn hm hc hc1 h1 h2 h3
end Go.Proofs.Ytlkfpphahfendaa
