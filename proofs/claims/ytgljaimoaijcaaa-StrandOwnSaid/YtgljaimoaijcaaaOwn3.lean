/- The walk of StrandOwn. -/
import Derived.Test.YtgljaimoaijcaaaOwn2
namespace Go.Proofs.Ytgljaimoaijcaaa
open Go.RowKit

/-- A value that came in as a strand; where there is no address there is no room. -/
def OkStrandN (w : World) (v : Value) : Prop := ∃ (A : Option Addr) (c : Nat) (L : Int) (xs : List Int), v = .agg #[.slice A xs.length c, .int .i64 L] ∧ isBytes xs ∧ RdB w A xs ∧ xs.length ≤ 9223372036854775807 ∧ (A = none → c = 0)
open Go.ChangeShapes Go.WideShapes in
theorem open_strandN {H : Type} {enc : TypeId × Value → H} {W : World} {r : Reach} {b0 : Nat} {v : Value} {d : DataW H} {p : List MemPlace}
    (hv : Value.okWide Try.prog W r b0 24 v) (h : DataW.Trod enc Try.prog W 0 (fun _ => true) true 24 v d p) : OkStrandN W v := by
  obtain ⟨c0, c1, y0, y1, n, rfl, _, _, h0, h1⟩ := Go.Joins.open_agg2 Try.underlying24 (by kernel_rfl) (by kernel_rfl) hv h
  obtain ⟨L, e1, _, _⟩ := DataW.trod_int Try.underlying3 h1
  simp at e1
  subst e1
  rcases open_ints Try.underlying22 Try.underlying5 (by kernel_rfl) h0 with ⟨hcs, _⟩ | ⟨x, l, c, zs, hcs, _, hl, hm, hz, _, hcell, hwz⟩
  · simp at hcs
    subst hcs
    exact ⟨none, 0, L, [], rfl, (by intro x hx; cases hx), (by intro q x hq; simp at hq), by simp, fun _ => rfl⟩
  · simp at hcs
    subst hcs
    have hzl : zs.length = c := by simpa using hz
    have hlen : (zs.take l).length = l := by simp; omega
    refine ⟨some x, c, L, zs.take l, by rw [hlen], ?_, ?_, by rw [hlen]; unfold maxLen at hm; omega, fun e => by cases e⟩
    · intro b hb
      have hb' := hwz b (List.mem_of_mem_take hb)
      simp [Lit.wf, IntKind.min, IntKind.max, IntKind.signed, IntKind.bits] at hb'
      omega
    · intro q b hq
      have hql : q < l := by have := (List.getElem?_eq_some_iff.1 hq).1; omega
      have hc := hcell q (by omega)
      rw [List.getElem?_take, if_pos hql] at hq
      have : zs.getD q 0 = b := by simp [List.getD, hq]
      rw [this] at hc
      have hlt := World.block_lt_of_cell? W _ hc
      rw [block_add] at hlt
      exact ⟨x, rfl, hlt, hc⟩

theorem copy_n (A : Option Addr) (xs : List Nat) (n c : Nat) (w : World) (hn : n = xs.length) (hr : RdN w A xs) (hA : A = none → c = 0) (hl : n ≤ 1000000) :
    Calls Try.prog 38 #[.slice A n c] w fun e w' => ∃ g cap, e = .returned (.slice (some ⟨g, 0, none⟩) n cap) ∧ w'.ownsRow w.heap.size 5 1 (.slice (some ⟨g, 0, none⟩) n cap) n (u8s xs) ∧ Below w.heap.size w w' := by
  subst hn
  exact copy_any A xs c w hr hA hl
theorem lent_n (A : Option Addr) (xs : List Nat) (n c : Nat) (w : World) (hn : n = xs.length) (hr : RdN w A xs) (hA : A = none → c = 0) (hl : n ≤ 1000000) :
    Calls Try.prog 37 #[.slice A n c] w fun e w' => ∃ g cap, e = .returned (.slice (some ⟨g, 0, none⟩) n cap) ∧ w'.ownsRow w.heap.size 5 1 (.slice (some ⟨g, 0, none⟩) (n + 5) cap) (n + 5) (u8s (xs ++ [5, 4, 3, 2, 1])) ∧ Below w.heap.size w w' := by
  subst hn
  exact lent_any A xs c w hr hA hl
theorem kept_n (A : Option Addr) (xs : List Nat) (n c g cap : Nat) (w : World) (hn : n = xs.length) (hr : RdN w A xs) (hl : n ≤ 1000000) (base : Nat)
    (ho : w.ownsRow base 5 1 (.slice (some ⟨g, 0, none⟩) (n + 5) cap) (n + 5) (u8s (xs ++ [5, 4, 3, 2, 1]))) :
    Calls Try.prog 40 #[.slice (some ⟨g, 0, none⟩) n cap, .slice A n c] w fun e w' => e = .returned (.bool true) ∧ Below w.heap.size w w' := by
  subst hn
  exact kept_any A xs c g cap w hr hl base ho
/-- What is owned reads as the bits whose bytes it holds. -/
theorem own_rd {w : World} {base n cap g : Nat} {l : List Bool} {t : List Nat} (h : w.ownsRow base 5 1 (.slice (some ⟨g, 0, none⟩) n cap) n (u8s (bytesN l ++ t))) : Rd w (some ⟨g, 0, none⟩) l := by
  obtain ⟨_, hgl, _, hc⟩ := own_at h
  intro q hq
  refine ⟨_, rfl, hgl, ?_⟩
  rw [add_off]
  refine hc q _ ?_
  simp [u8s, bytesN, List.getElem?_append_left, hq]

set_option maxRecDepth 100000 in
set_option maxHeartbeats 2000000 in
theorem own_slow (A : Option Addr) (c : Nat) (K : Int) (xs : List Int) (n : Nat) (w : World) (hx : RdB w A xs) (h : gB K xs.length = true ∨ (gB K xs.length = false ∧ rightB xs K = false)) :
    Calls Try.prog 9 #[.agg #[.slice A xs.length c, .int .i64 K], .int .u32 n] w fun e w' => e = .returned (.bool true) ∧ Below w.heap.size w w' := by
  have HX := Lib.hid (hx.alloc (.cells #[.slice A xs.length c, .int .i64 K] 24))
  have hB0 := Below.refl (w.alloc (.cells #[.slice A xs.length c, .int .i64 K] 24)).heap.size (w.alloc (.cells #[.slice A xs.length c, .int .i64 K] 24))
  have HF : Hid (∀ w', Below (w.alloc (.cells #[.slice A xs.length c, .int .i64 K] 24)).heap.size (w.alloc (.cells #[.slice A xs.length c, .int .i64 K] 24)) w' → Below w.heap.size w w') :=
    fun w' hb => ((Below.refl _ _).alloc (Nat.le_refl _) _).trans (hb.mono (by simp))
  clear hx
  rcases h with h1 | ⟨h1, h2⟩
  all_goals
    go_enter Try.func9, Try.ntmps9
    go_wp2_with (first
      | (go_at_call 10; refine (great_c (by assumption) _ _ _ _).mono ?_; rintro e wn ⟨rfl, hbn⟩; obtain ⟨hc, hf⟩ := old_cells hbn)
      | (go_at_call 16; refine (right_c (by assumption) _ _ _ _ HX.out).mono ?_; rintro e wn ⟨rfl, hbn⟩; obtain ⟨hc, hf⟩ := old_cells hbn)
      | (go_at_call 11; refine (awake_c (by assumption)).mono ?_; rintro e wn ⟨rfl, hbn⟩))
    go_ret
    exact ⟨rfl, HF.out _ (by assumption)⟩

theorem own_far {w : World} {base n cap : Nat} {g : Nat} {cs : List Value} (h : w.ownsRow base 5 1 (.slice (some ⟨g, 0, none⟩) n cap) n cs) {p : Addr} (hp : g ≠ p.block) (u : Value) : (w.setCell p u).ownsRow base 5 1 (.slice (some ⟨g, 0, none⟩) n cap) n cs := by
  obtain ⟨hl, h | ⟨g', c, cur, e, h1, h2, h3⟩⟩ := h
  · cases h.1
  · simp only [Value.slice.injEq, Option.some.injEq, Addr.mk.injEq, and_true, true_and] at e
    obtain ⟨rfl, rfl⟩ := e
    exact ⟨hl, .inr ⟨g, cap, cur, rfl, h1, (Below.heap_setCell w p u g hp).trans h2, h3⟩⟩
/-- A list of blocks, each of them the bytes of a strand. -/
def pairs (ls : List (Nat × List Bool)) : List (Nat × Nat) := ls.map fun x => (x.1, nB x.2)
theorem pairs_at {ls : List (Nat × List Bool)} {k g N : Nat} (h : (pairs ls)[k]? = some (g, N)) : ∃ x, ls[k]? = some x ∧ x.1 = g ∧ nB x.2 = N := by
  simp only [pairs, List.getElem?_map, Option.map_eq_some_iff, Prod.mk.injEq] at h
  exact h
theorem lists_of {w : World} {ls : List (Nat × List Bool)} (h : ∀ x ∈ ls, w.heap[x.1]? = some (ob x.2)) : Lists w (pairs ls) 0 0 := by
  intro k g N hk
  obtain ⟨x, hx, rfl, rfl⟩ := pairs_at hk
  exact ⟨_, h x (List.mem_of_getElem? hx), cellsOf_size _, fun h => absurd h (by omega), fun _ q hq => absurd hq (by omega)⟩
theorem heads_of {w : World} {B : Nat} {t : TypeId} {ls : List (Nat × List Bool)} (h : w.heap[B]? = some (.cells (ls.map fun x => Value.slice (some ⟨x.1, 0, none⟩) (nB x.2) (nB x.2)).toArray t (0, 0))) : Heads w B (pairs ls) := by
  intro k g N hk
  obtain ⟨x, hx, rfl, rfl⟩ := pairs_at hk
  rw [cell_of h]
  simp [hx]
theorem alone_of {base B : Nat} {ls : List (Nat × List Bool)} (h1 : List.Pairwise (· < ·) (ls.map Prod.fst)) (h2 : ∀ x ∈ ls, base ≤ x.1 ∧ x.1 ≠ B ∧ nB x.2 ≤ 1000000) : Alone base B (pairs ls) := by
  refine ⟨?_, ?_⟩
  · intro k k' g N N' hk hk'
    obtain ⟨x, hx, rfl, _⟩ := pairs_at hk
    obtain ⟨y, hy, e, _⟩ := pairs_at hk'
    obtain ⟨l1, e1⟩ := List.getElem?_eq_some_iff.1 hx
    obtain ⟨l2, e2⟩ := List.getElem?_eq_some_iff.1 hy
    rw [List.pairwise_iff_getElem] at h1
    rcases Nat.lt_trichotomy k k' with h | h | h
    · have := h1 k k' (by simpa using l1) (by simpa using l2) h
      simp [e1, e2] at this; omega
    · exact h
    · have := h1 k' k (by simpa using l2) (by simpa using l1) h
      simp [e1, e2] at this; omega
  · intro k g N hk
    obtain ⟨x, hx, rfl, rfl⟩ := pairs_at hk
    exact h2 x (List.mem_of_getElem? hx)
theorem own_split {w : World} {base n cap : Nat} {g : Nat} {cs : List Value} (h : w.ownsRow base 5 1 (.slice (some ⟨g, 0, none⟩) n cap) n cs) :
    ∃ cur, w.heap[g]? = some (.cells cur 5 (0, 0)) ∧ ∀ w' : World, w'.heap[g]? = some (.cells cur 5 (0, 0)) → w'.ownsRow base 5 1 (.slice (some ⟨g, 0, none⟩) n cap) n cs := by
  obtain ⟨hl, h | ⟨g', c, cur, e, h1, h2, h3⟩⟩ := h
  · cases h.1
  · simp only [Value.slice.injEq, Option.some.injEq, Addr.mk.injEq, and_true, true_and] at e
    obtain ⟨rfl, rfl⟩ := e
    exact ⟨cur, h2, fun w' h => ⟨hl, .inr ⟨g, cap, cur, rfl, h1, h, h3⟩⟩⟩
abbrev bo (A : Option Addr) (n c : Nat) (L : Int) : Obj := .cells #[.slice A n c, .int .i64 L] 24 (0, 0)
set_option maxRecDepth 100000 in
set_option maxHeartbeats 4000000 in
theorem own_main (A : Option Addr) (c : Nat) (l : List Bool) (n : Nat) (w : World) (hA : Rd w A l) (hc0 : A = none → c = 0) (la : l.length ≤ 2000) (hn : n < 4294967296) :
    Calls Try.prog 9 #[.agg #[.slice A (nB l) c, .int .i64 (l.length : Nat)], .int .u32 n] w fun e w' => e = .returned (.bool true) ∧ Below w.heap.size w w' := by
  have S0 := Lib.hid ((Bun.start (w.alloc (bo A (nB l) c (l.length : Nat)))).rd (hA.alloc _))
  have HF : Hid (∀ w', Below (w.alloc (bo A (nB l) c (l.length : Nat))).heap.size (w.alloc (bo A (nB l) c (l.length : Nat))) w' → Below w.heap.size w w') :=
    fun w' hb => ((Below.refl _ _).alloc (Nat.le_refl _) _).trans (hb.mono (by simp))
  have HC0 := Lib.hid hc0
  have HRA := Lib.hid (hA.alloc (bo A (nB l) c (l.length : Nat)))
  have hnb : nB l ≤ 1000 := by unfold nB; omega
  clear hA hc0
  go_enter Try.func9, Try.ntmps9
  go_wp2_with fail
  refine (great_any A _ c _ _).mono ?_
  rintro e w1 ⟨rfl, hb⟩
  rw [not_great la]
  have S1 := Lib.hid (S0.out.below hb)
  clear hb S0
  obtain ⟨hc, hf⟩ := S1.out.olds
  go_wp2_with fail
  refine (right_yes A l _ c _ _ (S1.out.read (by simp)) rfl rfl (by omega)).mono ?_
  rintro e w2 ⟨rfl, hb⟩
  have S2 := Lib.hid (S1.out.below hb)
  clear hb S1 hc hf
  obtain ⟨hc, hf⟩ := S2.out.olds
  go_upto_region 3 with fail
  go_cut [5] (fun s5 wx => ∃ p g cap : Nat, s5 = .pointer (some ⟨p, 0, none⟩) ∧ wx.heap[p]? = some (bo (some ⟨g, 0, none⟩) (nB l) cap (l.length : Nat)) ∧
    wx.ownsRow w2.heap.size 5 1 (.slice (some ⟨g, 0, none⟩) (nB l + 5) cap) (nB l + 5) (u8s (bytesN l ++ [5, 4, 3, 2, 1])) ∧ Below w2.heap.size w2 wx)
  case first =>
    have HBW : Hid (w.heap.size < w2.heap.size) := by have := S2.out.2.2.size; simp at this; show _ < _; omega
    have h1 : w2.cell? ⟨w.heap.size, 0, none⟩ = some (.slice A (nB l) c) := by rw [hc _ _ (by simp)]; exact cell_of (heap_alloc_new w _) 0
    have h2 : w2.cell? ⟨w.heap.size, 1, none⟩ = some (.int .i64 (l.length : Nat)) := by rw [hc _ _ (by simp)]; exact cell_of (heap_alloc_new w _) 1
    have CL : Hid (∀ w', (w'.cell? ⟨w.heap.size, 0, none⟩ = some (.slice A (nB l) c) ∧ w'.cell? ⟨w.heap.size, 1, none⟩ = some (.int .i64 (l.length : Nat)) ∧ Below w2.heap.size w2 w') →
        Calls Try.prog 37 #[.slice A (nB l) c] w' fun e w'' => ∃ g cap, e = .returned (.slice (some ⟨g, 0, none⟩) (nB l) cap) ∧ w''.ownsRow w'.heap.size 5 1 (.slice (some ⟨g, 0, none⟩) (nB l + 5) cap) (nB l + 5) (u8s (bytesN l ++ [5, 4, 3, 2, 1])) ∧ Below w'.heap.size w' w'') := by
      intro w' h
      exact lent_n A (bytesN l) (nB l) c w' (bytesN_length l).symm ((S2.out.read (by simp)).n.below h.2.2) HC0.out (by omega)
    have hb0 := Below.refl w2.heap.size w2
    have hD0 := held_drew ⟨h1, h2, hb0⟩
    clear hc hf S2 HF
    go_region_held3 (fun w' => w'.cell? ⟨w.heap.size, 0, none⟩ = some (.slice A (nB l) c) ∧ w'.cell? ⟨w.heap.size, 1, none⟩ = some (.int .i64 (l.length : Nat)) ∧ Below w2.heap.size w2 w')
      (first | exact hS | exact hD0 | exact held_alloc _ HBW.out (by assumption) | exact held_set _ _ HBW.out (Nat.le_refl _) (held_set _ _ HBW.out (Nat.le_refl _) (by assumption)))
      (first | (go_at_call 37; refine (CL.out _ (by assumption)).mono ?_; rintro e w3 ⟨g, cap, rfl, ho, hb⟩; have hS := held_below w3 HBW.out (by assumption) hb; obtain ⟨hc, hf⟩ := old_cells hb))
    all_goals go_wp2_with fail
    all_goals go_meet
    · refine ⟨w3.heap.size, g, cap, rfl, heap_alloc_new w3 _, own_u8 ho ((Below.refl _ _).alloc (Nat.le_refl _) _), hS.2.2.alloc hS.2.2.size _⟩
    · have hg1 := (own_at ho).1
      simp only [World.size_drew, World.size_alloc] at hg1
      have hz : w3.heap[w2.heap.size]? = some (Obj.cells #[Value.slice none 0 0, Value.int IntKind.i64 0] 24) := (hb.block w2.heap.size (by show w2.heap.size < (w2.alloc _).heap.size; simp only [World.size_alloc]; omega)).trans (heap_alloc_new w2 _)
      refine ⟨w2.heap.size, g, cap, rfl, ?_, own_far (own_far (own_mono ho (by show w2.heap.size ≤ (w2.alloc _).heap.size; simp only [World.size_alloc]; omega)) (p := ⟨w2.heap.size, 0, none⟩) (by show g ≠ w2.heap.size; omega) _) (p := ⟨w2.heap.size, 1, none⟩) (by show g ≠ w2.heap.size; omega) _, (hS.2.2.setCell (Nat.le_refl _) _).setCell (Nat.le_refl _) _⟩
      show _ = _
      simp [World.setCell, Array.getElem?_modify, hz]
  case rest =>
    obtain ⟨p, g, cap, rfl, hp, ho, hb⟩ := hcut
    obtain ⟨cur, hcur, hback⟩ := own_split ho
    have HO := Lib.hid hback
    have S3 := Lib.hid ((((S2.out.below hb).own hcur).own hp).rd (own_rd ho))
    have hwc : w.heap.size + 1 ≤ wc.heap.size := by have := S3.out.2.2.size; simpa using this
    have hpl := lt_of_block hp
    have hgl := (own_at ho).2.1
    have hcap := (own_at ho).2.2.1
    clear hb hp ho S2 hc hf hcur hback
    obtain ⟨hc, hf⟩ := S3.out.olds
    obtain ⟨i1, i2, _, _⟩ := cells_two (S3.out.get (g := p) (o := bo (some ⟨g, 0, none⟩) (nB l) cap (l.length : Nat)) (by simp))
    go_wp2_with fail
    refine (field_any _ l 0 0 _ (S3.out.st (A := some ⟨g, 0, none⟩) cap (by simp) (by omega)) (by omega) (by decide) (by omega)).mono ?_
    rintro e w3 ⟨ga, v, rfl, ⟨rfl, ho⟩, hga, hb⟩
    have lla : (l ++ digs 0 0).length ≤ 2000 := by simp [digs_length]; omega
    generalize l ++ digs 0 0 = xa at *
    have hal := ho.lt
    have S4 := Lib.hid (((S3.out.below hb).own ho).new (os ga xa))
    clear hb S3 hc hf ho i1 i2
    obtain ⟨hc, hf⟩ := S4.out.olds
    obtain ⟨i1, i2, _, _⟩ := cells_two (S4.out.get (g := p) (o := bo (some ⟨g, 0, none⟩) (nB l) cap (l.length : Nat)) (by simp))
    obtain ⟨k, hk⟩ : ∃ k, k = n / 4096 := ⟨_, rfl⟩
    have hk2 : k < 1048576 := by omega
    have hkI : (n : Int) / 4096 = (k : Nat) := by rw [hk]; omega
    clear hk
    go_wp2_with fail
    refine (knot_any _ l k _ (S4.out.st (A := some ⟨g, 0, none⟩) cap (by simp) (by omega)) (by omega) (by omega)).mono ?_
    rintro e w4 ⟨gb, v, rfl, ⟨rfl, ho⟩, hgb, hb⟩
    have hab : ga < gb := by simp only [World.size_alloc] at hgb; omega
    have llb : (l ++ knot k).length ≤ 3000 := by have := lead_bounds k (by omega); simp; omega
    generalize l ++ knot k = xb at *
    have hbl := ho.lt
    have S5 := Lib.hid (((S4.out.below hb).own ho).new (os gb xb))
    clear hb S4 hc hf ho i1 i2 hgb
    obtain ⟨hc, hf⟩ := S5.out.olds
    obtain ⟨i1, i2, _, _⟩ := cells_two (S5.out.get (g := p) (o := bo (some ⟨g, 0, none⟩) (nB l) cap (l.length : Nat)) (by simp))
    have s1 : (w4.alloc (os gb xb)).cell? ⟨w.heap.size, 1, none⟩ = some (.int .i64 (l.length : Nat)) := by rw [hc _ _ (by simp)]; exact cell_of (heap_alloc_new w _) 1
    go_wp2_with fail
    refine (cut_any _ l 0 l.length _ (S5.out.st (A := some ⟨g, 0, none⟩) cap (by simp) (by omega)) (by omega) (by omega)).mono ?_
    rintro e w5 ⟨gc, v, rfl, ⟨rfl, ho⟩, hgc, hb⟩
    have hbc : gb < gc := by simp only [World.size_alloc] at hgc; omega
    have llc : ((l.drop 0).take (l.length - 0)).length ≤ 2000 := by simp; omega
    generalize (l.drop 0).take (l.length - 0) = xc at *
    have hcl := ho.lt
    have S6 := Lib.hid (((S5.out.below hb).own ho).new (os gc xc))
    clear hb S5 hc hf ho i1 i2 s1 hgc
    obtain ⟨hc, hf⟩ := S6.out.olds
    obtain ⟨i1, i2, _, _⟩ := cells_two (S6.out.get (g := p) (o := bo (some ⟨g, 0, none⟩) (nB l) cap (l.length : Nat)) (by simp))
    go_wp2_with fail
    refine (join_any _ _ l [] _ (S6.out.st (A := some ⟨g, 0, none⟩) cap (by simp) (by omega)) ⟨none, 0, rfl, Rd.nil_, by simp⟩ (by simp; omega)).mono ?_
    rintro e w6 ⟨gd, v, rfl, ⟨rfl, ho⟩, hgd, hb⟩
    have hcd : gc < gd := by simp only [World.size_alloc] at hgd; omega
    have lld : (l ++ []).length ≤ 2000 := by simp; omega
    generalize l ++ [] = xd at *
    have hdl := ho.lt
    have S7 := Lib.hid (((S6.out.below hb).own ho).new (os gd xd))
    clear hb S6 hc hf ho i1 i2 hgd
    obtain ⟨hc, hf⟩ := S7.out.olds
    obtain ⟨i1, i2, _, _⟩ := cells_two (S7.out.get (g := p) (o := bo (some ⟨g, 0, none⟩) (nB l) cap (l.length : Nat)) (by simp))
    go_wp2_with fail
    refine (pack_any _ l _ (S7.out.st (A := some ⟨g, 0, none⟩) cap (by simp) (by omega))).mono ?_
    rintro e w7 ⟨gp, rfl, ho, hgp, hb⟩
    have hdp : gd < gp := by simp only [World.size_alloc] at hgp; omega
    have hpl2 := ho.lt
    have hnp : nB (l ++ [true]) ≤ 1000 := by unfold nB; simp; omega
    have S8 := Lib.hid ((S7.out.below hb).own ho)
    have hRp := Lib.hid (Own.rd ho).n
    clear hb S7 hc hf ho i1 i2 hgp
    obtain ⟨hc, hf⟩ := S8.out.olds
    go_wp2_with fail
    refine (copy_n (some ⟨gp, 0, none⟩) (bytesN (l ++ [true])) (nB (l ++ [true])) (nB (l ++ [true])) _ (bytesN_length _).symm hRp.out (fun e => by cases e) (by omega)).mono ?_
    rintro e w8 ⟨gq, capq, rfl, ho, hb⟩
    have hRq := Lib.hid (own_rd (l := l ++ [true]) (t := []) (by rw [List.append_nil]; exact ho))
    have S9 := Lib.hid (S8.out.below hb)
    have hz8 := hb.size
    clear hb S8 hc hf ho hRp
    obtain ⟨hc, hf⟩ := S9.out.olds
    go_wp2_with fail
    refine (unpack_any (some ⟨gq, 0, none⟩) l _ capq _ hRq.out rfl (by omega)).mono ?_
    rintro e w9 ⟨gu, v, rfl, ⟨rfl, ho⟩, hgu, hb⟩
    have hpu : gp < gu := by omega
    have hul := ho.lt
    have S10 := Lib.hid (((S9.out.below hb).own ho).new (os gu l))
    clear hb S9 hc hf ho hRq hgu
    obtain ⟨hc, hf⟩ := S10.out.olds
    obtain ⟨a1, _, _, _⟩ := cells_two (S10.out.get (g := w3.heap.size) (o := os ga xa) (by simp))
    obtain ⟨a2, _, _, _⟩ := cells_two (S10.out.get (g := w4.heap.size) (o := os gb xb) (by simp))
    obtain ⟨a3, _, _, _⟩ := cells_two (S10.out.get (g := w5.heap.size) (o := os gc xc) (by simp))
    obtain ⟨a4, _, _, _⟩ := cells_two (S10.out.get (g := w6.heap.size) (o := os gd xd) (by simp))
    obtain ⟨a5, _, _, _⟩ := cells_two (S10.out.get (g := w9.heap.size) (o := os gu l) (by simp))
    go_wp2_with fail
    have S11 := Lib.hid (S10.out.new (.cells #[.slice (some ⟨ga, 0, none⟩) (nB xa) (nB xa), .slice (some ⟨gb, 0, none⟩) (nB xb) (nB xb), .slice (some ⟨gc, 0, none⟩) (nB xc) (nB xc), .slice (some ⟨gd, 0, none⟩) (nB xd) (nB xd), .slice (some ⟨gp, 0, none⟩) (nB (l ++ [true])) (nB (l ++ [true])), .slice (some ⟨gu, 0, none⟩) (nB l) (nB l)] 22))
    clear S10 hc hf a1 a2 a3 a4 a5
    have hna : nB xa ≤ 1000000 ∧ nB xb ≤ 1000000 ∧ nB xc ≤ 1000000 ∧ nB xd ≤ 1000000 := by unfold nB; omega
    refine (apart_any wc.heap.size (w9.heap.size + 1) 6 6 (pairs [(ga, xa), (gb, xb), (gc, xc), (gd, xd), (gp, l ++ [true]), (gu, l)]) _ rfl (by simp [pairs])
      (lists_of (fun x hx => by
        simp only [List.mem_cons, List.not_mem_nil, or_false] at hx
        rcases hx with rfl | rfl | rfl | rfl | rfl | rfl <;> exact S11.out.get (by simp)))
      (heads_of (t := 22) (S11.out.get (by simp)))
      (alone_of (by simp; omega) (fun x hx => by
        simp only [List.mem_cons, List.not_mem_nil, or_false] at hx
        rcases hx with rfl | rfl | rfl | rfl | rfl | rfl <;> (refine ⟨?_, ?_, ?_⟩ <;> (simp only; omega))))).mono ?_
    rintro e wz ⟨rfl, hbz⟩
    have hW := Lib.hid (S11.out.2.2.trans (hbz.mono (show (w.alloc (bo A (nB l) c (l.length : Nat))).heap.size ≤ wc.heap.size by simp; omega)))
    have hpz := (hbz.block p hpl).trans (S11.out.get (g := p) (o := bo (some ⟨g, 0, none⟩) (nB l) cap (l.length : Nat)) (by simp))
    have HK := Lib.hid (HO.out wz ((hbz.block g hgl).trans (S11.out.get (g := g) (o := .cells cur 5 (0, 0)) (by simp))))
    have hRz := Lib.hid ((HRA.out.below hW.out).n)
    obtain ⟨hc, hf⟩ := old_cells hW.out
    obtain ⟨i1, i2, _, _⟩ := cells_two hpz
    clear hpz S11 HO HRA hbz
    go_wp2_with fail
    refine (kept_n A (bytesN l) (nB l) c g cap _ (bytesN_length _).symm hRz.out (by omega) _ HK.out).mono ?_
    rintro e wk ⟨rfl, hb⟩
    have hW2 := Lib.hid (next_below hW.out hb)
    clear hb hc hf i1 i2
    go_wp2_with fail
    refine (awake_any _).mono ?_
    rintro e wa ⟨rfl, hb2⟩
    go_wp2_with fail
    go_ret
    exact ⟨rfl, HF.out _ (next_below hW2.out hb2)⟩

theorem small_ofO {L : Int} {l : List Bool} {n : Nat} (hL : L = (l.length : Nat)) (h : gB L n = false) : l.length ≤ 2000 := by
  unfold gB at h
  rw [Bool.or_eq_false_iff] at h
  have := of_decide_eq_false h.1
  omega
theorem own_walk (v1 : Value) (n : Nat) (w : World) (h1 : OkStrandN w v1) (hn : n < 4294967296) :
    Calls Try.prog 9 #[v1, .int .u32 n] w fun e w' => e = .returned (.bool true) ∧ Below w.heap.size w w' := by
  obtain ⟨A, c, K, xs, rfl, hx, hrx, _, hA⟩ := h1
  have slow := own_slow A c K xs n w hrx
  cases g1 : gB K xs.length
  case true => exact slow (.inl g1)
  cases r1 : rightB xs K
  case false => exact slow (.inr ⟨g1, r1⟩)
  obtain ⟨a, ha, la, ra, _, _⟩ := bits_st (c := c) hx hrx r1
  have ga := small_ofO ha g1
  rw [ha, la]
  exact own_main A c a n w ra hA ga hn
end Go.Proofs.Ytgljaimoaijcaaa
