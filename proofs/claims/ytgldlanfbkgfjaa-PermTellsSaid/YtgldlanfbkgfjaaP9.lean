/- perm.Cycles: the cycles are collected (layer 3). -/
import Derived.Test.YtgldlanfbkgfjaaP6
import Derived.Test.YtgldlanfbkgfjaaPG
namespace Go.Proofs.Ytgldlanfbkgfjaa
open Go.RowKit
attribute [local go_sem] Oper.semAt_some

theorem own_bar {d m : Nat} {A B : World} (h : Bar d m A B) {base n size : Nat} {e : TypeId} {v : Value} {cs : List Value} (hr : A.ownsRow base e size v n cs) (hb : d + m ≤ base) : B.ownsRow base e size v n cs := by
  obtain ⟨hl, h0 | ⟨g, c, cur, ev, h1, h2, h3⟩⟩ := hr
  · exact ⟨hl, .inl h0⟩
  · exact ⟨hl, .inr ⟨g, c, cur, ev, h1, (h.same g (lt_of_block h2) (.inr (by omega))).trans h2, h3⟩⟩
theorem PRows.bar {d m : Nat} {A B : World} (h : Bar d m A B) {base : Nat} {V : Value} {us : List Value} {T : List (List Int)} (hr : PRows A base V us T) (hb : d + m ≤ base) : PRows B base V us T :=
  ⟨own_bar h hr.1 hb, hr.2.1, fun j u xs a b => own_bar h (hr.2.2.1 j u xs a b) hb, hr.2.2.2⟩
theorem own_less {w : World} {base base' n size : Nat} {e : TypeId} {v : Value} {cs : List Value} (h : w.ownsRow base e size v n cs) (hb : base' ≤ base) : w.ownsRow base' e size v n cs := by
  obtain ⟨hl, h0 | ⟨g, c, cur, ev, h1, h2⟩⟩ := h
  · exact ⟨hl, .inl h0⟩
  · exact ⟨hl, .inr ⟨g, c, cur, ev, by omega, h2⟩⟩
theorem PRows.less {w : World} {base base' : Nat} {V : Value} {us : List Value} {T : List (List Int)} (h : PRows w base V us T) (hb : base' ≤ base) : PRows w base' V us T :=
  ⟨own_less h.1 hb, h.2.1, fun j u xs a b => own_less (h.2.2.1 j u xs a b) hb, h.2.2.2⟩
theorem own_re {w : World} {base base' n size b cap : Nat} {e : TypeId} {cs : List Value} (h : w.ownsRow base e size (.slice (some ⟨b, 0, none⟩) n cap) n cs) (hb : base' ≤ b) : w.ownsRow base' e size (.slice (some ⟨b, 0, none⟩) n cap) n cs := by
  obtain ⟨hl, h0 | ⟨g, c, cur, ev, h1, h2⟩⟩ := h
  · cases h0.1
  · have : b = g := by injection ev with a; injection a with a; injection a
    subst this
    exact ⟨hl, .inr ⟨b, c, cur, ev, hb, h2⟩⟩
theorem cycs_len (p : List Nat) (f : Nat) : (cycs p f).length ≤ f := by
  unfold cycs
  rw [List.length_map]
  exact Nat.le_trans (List.length_filter_le _ _) (by simp)
/-- What lies between two rounds: the list's box (block z), p's box, the rows. -/
structure ColI (w0 : World) (n c Bp z : Nat) (A0 : Option Addr) (T : List (List Int)) (A : World) : Prop where
  below : Below w0.heap.size w0 A
  low : w0.heap.size ≤ z
  lowp : Bp < z
  size : z + 1 ≤ A.heap.size
  rows : ∃ V us, A.heap[z]? = some (.cells #[V] 37 (0, 0)) ∧ PRows A (z + 4) V us T
  src : A.cell? ⟨Bp, 0, none⟩ = some (.slice A0 n c)
theorem ColI.bar {w0 : World} {n c Bp z d m : Nat} {A0 : Option Addr} {T : List (List Int)} {A B : World} (h : ColI w0 n c Bp z A0 T A) (hd : z + 1 ≤ d) (hm : d + m ≤ z + 4) (hb : Bar d m A B) : ColI w0 n c Bp z A0 T B := by
  obtain ⟨h1, h2, h3, h4, ⟨V, us, h5, h6⟩, h7⟩ := h
  refine ⟨?_, h2, h3, Nat.le_trans h4 hb.size, ⟨V, us, (hb.same z (by omega) (.inl (by omega))).trans h5, h6.bar hb hm⟩, ?_⟩
  · exact ⟨hb.os.trans h1.os, hb.tape.trans h1.tape, hb.output.trans h1.output, Nat.le_trans h1.size hb.size, fun b hlt => (hb.same b (by have := h1.size; omega) (.inl (by omega))).trans (h1.block b hlt)⟩
  · exact (hb.cell (by show Bp < _; omega) (.inl (by show Bp < _; omega))).trans h7
/-- One list more. -/
theorem ColI.push {w0 : World} {n c Bp z b cap : Nat} {A0 : Option Addr} {T : List (List Int)} {W1 : World} {x : List Nat} {V v' : Value} {us : List Value} {w7 : World} (h : ColI w0 n c Bp z A0 T W1) (hV : W1.heap[z]? = some (.cells #[V] 37 (0, 0))) (hP : PRows W1 (z + 4) V us T)
    (hx : RowI W1 (z + 4) b cap x) (hap : ∀ u ∈ us, u.ownBlock ≠ some b) (hs : z + 4 ≤ W1.heap.size)
    (hr : w7.ownsRow (z + 4) 22 1 v' (T.length + 1) (us ++ [.slice (some ⟨b, 0, none⟩) x.length cap])) (hg : (W1.alloc (.cells #[.slice (some ⟨b, 0, none⟩) x.length cap] 22)).grownBy w7 V.ownBlock) :
    (∃ g2 cap2, v' = .slice (some ⟨g2, 0, none⟩) (T.length + 1) cap2) ∧ w7.cell? ⟨z, 0, none⟩ = some V ∧ w7.frozen? ⟨z, 0, none⟩ = false ∧ ColI w0 n c Bp z A0 (T ++ [iz x]) (w7.setCell ⟨z, 0, none⟩ v') ∧ W1.heap.size ≤ w7.heap.size ∧ ∀ k, z + 1 ≤ k → k < z + 1 + 3 → (w7.setCell ⟨z, 0, none⟩ v').heap[k]? = W1.heap[k]? := by
  obtain ⟨h1, h2, h3, h4, _, h7⟩ := h
  have hb0 : Below W1.heap.size W1 (W1.alloc (.cells #[.slice (some ⟨b, 0, none⟩) x.length cap] 22)) := (Below.refl _ _).alloc (Nat.le_refl _) _
  have hlow : ∀ k, V.ownBlock = some k → z + 4 ≤ k := fun k e => (hP.1.lt k e).1
  have hold : ∀ k, k < z + 4 → w7.heap[k]? = W1.heap[k]? := fun k hk => (hg.block k (by simp; omega) (fun e => by have := hlow k e.symm; omega)).trans (hb0.block k (by omega))
  have hz7 : w7.heap[z]? = some (.cells #[V] 37 (0, 0)) := (hold z (by omega)).trans hV
  obtain ⟨g2, cap2, rfl⟩ := Joins.ownsRow_form hr (by omega)
  have hsz7 : W1.heap.size ≤ w7.heap.size := Nat.le_trans hb0.size hg.size
  have hP7 := PRows.push hP rfl (show x.length = (iz x).length by rw [iz_length]) hx hap hg hr
  have hg2 := (hr.lt g2 rfl).1
  have hb7 : Below w0.heap.size w0 w7 := (h1.alloc h1.size _).grown hg (by have := h1.size; simp; omega) (fun k e => by have := hlow k e; omega)
  refine ⟨⟨g2, cap2, rfl⟩, cell_of hz7 0, free_of hz7 0, ⟨hb7.setCell (p := ⟨z, 0, none⟩) h2 _, h2, h3, by show z + 1 ≤ (w7.setCell _ _).heap.size; simp; omega, ⟨_, _, ?_, hP7.kept (set_grown w7 ⟨z, 0, none⟩ _) ?_ ?_⟩, ?_⟩, hsz7, fun k hk1 hk2 => ?_⟩
  · rw [Go.Joins.block_setCell hz7]; rfl
  · right; simp [Value.ownBlock]; omega
  · intro u hu
    cases hub : u.ownBlock with
    | none => exact .inl rfl
    | some k =>
      right
      obtain ⟨j, hj⟩ := List.getElem?_of_mem hu
      obtain ⟨xs, hxs⟩ : ∃ xs, (T ++ [iz x])[j]? = some xs := ⟨_, List.getElem?_eq_getElem (by have := (List.getElem?_eq_some_iff.1 hj).1; rw [hP7.2.1] at this; exact this)⟩
      have := ((hP7.2.2.1 j u xs hj hxs).lt k hub).1
      simp; omega
  · rw [World.cell?_setCell_far _ _ _ _ (by show z ≠ Bp; omega)]
    unfold World.cell? at h7 ⊢
    rw [hold Bp (by omega)]
    exact h7
  · rw [Below.heap_setCell _ _ _ _ (by show k ≠ z; omega)]
    exact hold k (by omega)

set_option maxRecDepth 100000 in
set_option maxHeartbeats 8000000 in
theorem append_seq (A0 : Option Addr) (Bp n c : Nat) (p : List Nat) (w : World) (hr : RdZ w A0 (iz p)) (hbx : w.cell? ⟨Bp, 0, none⟩ = some (.slice A0 n c)) (hp : Perm n p) (hn : n ≤ 200) :
    Calls Try.prog 46 #[.slice none 0 0, .func (.func 45) #[] #[.pointer (some ⟨Bp, 0, none⟩)]] w fun e w' => ∃ V us, e = .returned V ∧ PRows w' w.heap.size V us ((cycs p n).map iz) ∧ Below w.heap.size w w' := by
  have HA := Lib.hid hr
  have HP := Lib.hid hp
  have hI0 : ColI w n c Bp w.heap.size A0 (([] : List (List Nat)).map iz) (w.alloc (.cells #[.slice none 0 0] 37)) :=
    ⟨(Below.refl _ _).alloc (Nat.le_refl _) _, Nat.le_refl _, World.block_lt_of_cell? _ _ hbx, by simp, ⟨_, [], heap_alloc_new w _, PRows.nil _ _⟩, (((Below.refl w.heap.size w).alloc (Nat.le_refl _) _).cell (World.block_lt_of_cell? _ _ hbx)).trans hbx⟩
  have HI0 := Lib.hid hI0
  obtain ⟨i0, hi0, hz0, hz1, hz2⟩ := info_partsI rowinfo
  clear hr hp hbx hI0
  refine callsIn_wide (n := 0).1 (callsIn_of_wp_marks Try.func46 rfl trivial ?_ rfl)
  refine wpIn_wide.2 ?_
  simp only [Try.ntmps46, List.size_toArray, List.length_cons, List.length_nil, Nat.reduceAdd, Nat.reduceSub, Array.replicate_succ, Array.replicate_zero, List.push_toArray, List.append_toArray, List.nil_append, List.cons_append]
  go_wp2_with fail
  obtain ⟨w2, hw2⟩ : ∃ w2, w2 = w.alloc (.cells #[.slice none 0 0] 37) := ⟨_, rfl⟩
  rw [← hw2] at HI0 ⊢
  have hz2' : w2.heap.size = w.heap.size + 1 := by rw [hw2]; simp
  clear hw2
  refine wpIn_wide.1 (range_cycles (w := w2) A0 Bp n c p rfl rfl (enters_of Try.func45 (by kernel_rfl) rfl) (fun W _ _ => cycles1_any A0 _ n c p W HP.out hn)
    (fun pre A => ColI w n c Bp w.heap.size A0 (pre.map iz) A) (fun pre A h => ⟨HA.out.below h.below, h.src⟩) (fun pre A B h hb => h.bar (by omega) (by omega) hb) HI0.out ?a1 ?assign ?body ?done)
  case assign =>
    intro l v W K hK
    gi_wp2
    exact hK
  case body =>
    rintro l pre x rest A W1 b cap hcy hI hbar hsz hrow hb
    have hI1 := hI.bar (by omega) (by omega) hbar
    obtain ⟨V, us, hV, hP⟩ := hI.rows
    have hV1 := (hbar.same _ (by have := hI.size; omega) (.inl (by omega))).trans hV
    have hP1 := hP.bar hbar (by omega)
    obtain ⟨f, hf, hl, hx⟩ := cycs_mid hcy
    have hlen : x.length = per p f := by rw [hx, orb_length]
    have hm2 := (per_spec HP.out hf).1
    rw [← hlen] at hm2
    have hap : ∀ u ∈ us, u.ownBlock ≠ some b := fun u hu e => by
      obtain ⟨j, hj⟩ := List.getElem?_of_mem hu
      obtain ⟨xs, hxs⟩ : ∃ xs, (pre.map iz)[j]? = some xs := ⟨_, List.getElem?_eq_getElem (by have := (List.getElem?_eq_some_iff.1 hj).1; rw [hP.2.1] at this; exact this)⟩
      have h1 := ((hP.2.2.1 j u xs hj hxs).lt b e).2
      have h2 := (hrow.lt b rfl).1
      omega
    have hprl : pre.length ≤ 200 := by
      have h1 := cycs_len p n
      rw [hcy] at h1
      simp at h1
      omega
    have hpl : (pre.map iz).length = pre.length := by simp
    have HN := Lib.hid (fun v' w7 hr hg => hI1.push (v' := v') (w7 := w7) hV1 hP1 (own_re hrow (by omega)) hap (by omega) hr hg)
    have hc0 := cell_of hV1 0
    have hown := hP1.1
    have hul := hP1.2.1
    clear hx hlen hl hf hcy hI hbar hrow hI1 hV hP hV1 hP1
    have hcn : ∀ (j : Nat) (u : Value), [Value.slice (some ⟨b, 0, none⟩) x.length cap][j]? = some u → (W1.alloc (.cells #[.slice (some ⟨b, 0, none⟩) x.length cap] 22)).cell? ((⟨W1.heap.size, 0, none⟩ : Addr).add j) = some u := fun j u hj => by
      have hj0 : j = 0 := by have := (List.getElem?_eq_some_iff.1 hj).1; simp at this; omega
      subst hj0
      rw [← hj, add_off]
      exact World.cell?_alloc_at _ _ _ _ rfl
    have hownA := hown.alloc (.cells #[.slice (some ⟨b, 0, none⟩) x.length cap] 22)
    gi_wp2_with (gi_at_builtin; refine wpListIn_append_own _ rfl (.tmp 8) (.tmp 10) 37 rfl (w.heap.size + 4) 22 i0 (.slice none 0 0) 1 24 Try.underlying37 hi0 hz0 hz1 hz2 rfl (by decide) V (pre.map iz).length us rfl hownA ⟨W1.heap.size, 0, none⟩ 1 1 [.slice (some ⟨b, 0, none⟩) x.length cap] (by simp [Act.eval]) rfl hcn (by simp [Value.oneCell']) (by simp [maxLen]; omega) (by omega) (by simp; omega) ?_; intro v' w7 hr7 hg7 _; obtain ⟨⟨g2, cap2, rfl⟩, hcz, hfz, hI7, hs7, hk7⟩ := HN.out v' w7 hr7 hg7)
    rw [hpl] at hI7 hk7
    exact ⟨hI7, hk7⟩
  case done =>
    intro W hI hK
    obtain ⟨V, us, hV, hP⟩ := hI.rows
    have c1 := cell_of hV 0
    dsimp only
    go_wp2_with fail
    refine ⟨by simp, .inl ⟨_, _, rfl, run_takeDeferred hK, ?_⟩⟩
    have hbr := Bar.put (d := w2.heap.size) (k := 3) W (.deferred none) (Nat.le_refl _) (by omega)
    have hI2 := hI.bar (d := w2.heap.size) (m := 3) (by omega) (by omega) hbr
    exact ⟨_, results_tmp rfl _ _ _, _, us, rfl, (hP.bar hbr (by omega)).less (by omega), hI2.below⟩

set_option maxRecDepth 100000 in
set_option maxHeartbeats 4000000 in
theorem collect_yes (A0 : Option Addr) (Bp n c : Nat) (p : List Nat) (w : World) (hr : RdZ w A0 (iz p)) (hbx : w.cell? ⟨Bp, 0, none⟩ = some (.slice A0 n c)) (hp : Perm n p) (hn : n ≤ 200) :
    Calls Try.prog 37 #[.func (.func 45) #[] #[.pointer (some ⟨Bp, 0, none⟩)]] w fun e w' => ∃ V us, e = .returned V ∧ PRows w' w.heap.size V us ((cycs p n).map iz) ∧ Below w.heap.size w w' := by
  go_enter Try.func37, Try.ntmps37
  go_wp2_with fail
  refine (append_seq A0 Bp n c p w hr hbx hp hn).mono ?_
  rintro e w1 ⟨V, us, rfl, h1, h2⟩
  go_wp2_with fail
  go_ret
  exact ⟨V, us, rfl, h1, h2⟩

set_option maxRecDepth 100000 in
set_option maxHeartbeats 4000000 in
theorem cyclesAll_yes (A0 : Option Addr) (c n : Nat) (p : List Nat) (w : World) (hr : RdZ w A0 (iz p)) (hp : Perm n p) (hn : n ≤ 200) :
    Calls Try.prog 23 #[.slice A0 n c] w fun e w' => ∃ V us, e = .returned (.tuple #[V, .int .i64 0]) ∧ PRows w' w.heap.size V us ((cycs p n).map iz) ∧ Below w.heap.size w w' := by
  have HR1 := Lib.hid (perm_right hp hn)
  have HA := Lib.hid hr
  have HP := Lib.hid hp
  clear hr hp
  go_enter Try.func23, Try.ntmps23
  go_wp2_with fail
  refine (rightP_any A0 c n (iz p) w HA.out (izl HP.out) (by omega)).mono ?_
  rintro e w1 ⟨rfl, hb1⟩
  rw [HR1.out]
  have HB1 := Lib.hid hb1
  clear hb1
  go_wp2_with fail
  refine (cycles_any A0 n c w1).mono ?_
  rintro e w2 ⟨rfl, hw2⟩
  have hb2 : Below w1.heap.size w1 w2 := by rw [hw2]; exact (Below.refl _ _).alloc (Nat.le_refl _) _
  have hbx : w2.cell? ⟨w1.heap.size, 0, none⟩ = some (.slice A0 n c) := by rw [hw2]; exact World.cell?_alloc_at _ _ _ _ rfl
  have HB2 := Lib.hid (next_below HB1.out hb2)
  have HBX := Lib.hid hbx
  clear hw2 hb2 hbx
  go_wp2_with fail
  refine (collect_yes A0 w1.heap.size n c p w2 (HA.out.below HB2.out) HBX.out HP.out hn).mono ?_
  rintro e w3 ⟨V, us, rfl, h1, h2⟩
  go_wp2_with fail
  go_ret2
  exact ⟨V, us, rfl, h1.less HB2.out.size, next_below HB2.out h2⟩
end Go.Proofs.Ytgldlanfbkgfjaa
