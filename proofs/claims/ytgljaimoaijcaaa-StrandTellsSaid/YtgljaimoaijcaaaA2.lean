/- Walks: what makes a strand in memory of its own. -/
import Derived.Test.YtgljaimoaijcaaaA1
import Derived.Deep.DeepCutAuto
namespace Go.Proofs.Ytgljaimoaijcaaa
open Go.RowKit
theorem u8info : (Try.prog.info? 5).map (fun i => (i.zero, i.size, i.bytes)) = some (some (.int .u8 0), 1, 1) := by kernel_rfl

theorem u8size : (Try.prog.info? 5).map (·.size) = some 1 := by kernel_rfl

theorem wpList_copy_grown {P : Program} {w : World} {ops : Array Oper} {rest : List Oper} {o : Oper} {a : Act} {Q : Exit → Act → World → Prop} (hgd : o.guard = none) (d s : Operand) (dT sT : TypeId)
    (ho : o.op = .call { callee := .builtin .copy, args := #[d, s], argTypes := #[dT, sT] }) (elem : TypeId) (hu : P.underlying dT = some (.slice elem)) (hsz : (P.info? elem).map (·.size) = some 1)
    (sp : Option Addr) (dLen dCap sLen sCap : Nat) (g : Nat) (hd : a.eval d = .slice (some ⟨g, 0, none⟩) dLen dCap) (hs : a.eval s = .slice sp sLen sCap)
    (cur : List Value) (t : TypeId) (hg : w.heap[g]? = some (.cells cur.toArray t (0, 0))) (cs : List Value) (hn : cs.length = Nat.min sLen dLen)
    (hpos : 0 < cs.length → ∃ ad, sp = some ad ∧ ∀ j v, cs[j]? = some v → w.cell? (ad.add j) = some v)
    (hfit : cs.length ≤ cur.length) (h1 : ∀ v ∈ cs, v.oneCell' = true)
    (h : ∀ w', Hid (w'.heap[g]? = some (.cells (splice cur 0 cs).toArray t (0, 0))) → w.grownBy w' (some g) → wpList P ops Q rest (a.put o.dst (goInt cs.length)) w') :
    wpList P ops Q (o :: rest) a w := by
  by_cases h0 : cs.length = 0
  · obtain rfl : cs = [] := List.eq_nil_of_length_eq_zero h0
    refine wpList_copy_nothing hgd d s dT sT ho elem hu hsz _ sp dLen dCap sLen sCap hd hs (by simpa using hn.symm) ?_
    exact h w (show _ = _ by simpa [splice] using hg) (World.grownBy.refl w _)
  · obtain ⟨ad, rfl, hsrc⟩ := hpos (by omega)
    refine wpList_copy_own hgd d s dT sT ho elem hu hsz g 0 dLen dCap ad sLen sCap hd hs cur.toArray t hg cs hn hsrc (by simpa using hfit) h1 ?_
    exact h _ (show _ = _ by simpa [splice] using setRow_heap w g _ _ t _ hg) ⟨rfl, rfl, rfl, by simp [World.setRow], fun k _ hk => setRow_other w g k _ (by simpa using hk)⟩

theorem two_first (w : World) (a b : Obj) : ((w.alloc a).alloc b).heap[w.heap.size]? = some a := (Below.heap_alloc _ b _ (by simp)).trans (heap_alloc_new w a)
theorem two_second (w : World) (a b : Obj) : ((w.alloc a).alloc b).heap[w.heap.size + 1]? = some b := by
  have h := heap_alloc_new (w.alloc a) b
  simpa using h
theorem at_first (w : World) (a b : Obj) (k : Nat) (h : k = w.heap.size) : ((w.alloc a).alloc b).drew.heap[k]? = some a := by subst h; exact two_first w a b
theorem at_second (w : World) (a b : Obj) (k : Nat) (h : k = w.heap.size + 1) : ((w.alloc a).alloc b).drew.heap[k]? = some b := by subst h; exact two_second w a b
theorem cell_of {w : World} {g : Nat} {cs : Array Value} {t : TypeId} {f : Nat × Nat} (h : w.heap[g]? = some (.cells cs t f)) (i : Nat) : w.cell? ⟨g, i, none⟩ = cs[i]? := cell_of_row w g i cs t f h
theorem free_of {w : World} {g : Nat} {cs : Array Value} {t : TypeId} (h : w.heap[g]? = some (.cells cs t (0, 0))) (i : Nat) : w.frozen? ⟨g, i, none⟩ = false := by
  simp [World.frozen?, h]
theorem cells_two {w : World} {g : Nat} {a b : Value} {t : TypeId} (h : w.heap[g]? = some (.cells #[a, b] t (0, 0))) :
    w.cell? ⟨g, 0, none⟩ = some a ∧ w.cell? ⟨g, 1, none⟩ = some b ∧ w.frozen? ⟨g, 0, none⟩ = false ∧ w.frozen? ⟨g, 1, none⟩ = false :=
  ⟨by rw [cell_of h]; rfl, by rw [cell_of h]; rfl, free_of h 0, free_of h 1⟩
theorem splice_cells (l : List Bool) (W : Nat) : (splice (madeCells #[.int .u8 0] (nB (l ++ List.replicate W false))).toList 0 (cellsOf l).toList).toArray = cellsOf (l ++ List.replicate W false) := by
  have hle : nB l ≤ nB (l ++ List.replicate W false) := by unfold nB; simp; omega
  apply Array.ext'
  apply List.ext_getElem
  · simp [splice, toList_madeCells_one, cellsOf_size]; omega
  · intro q h1 h2
    have hq : q < nB (l ++ List.replicate W false) := by simpa [cellsOf_size] using h2
    have hz : by8 0 = Value.int .u8 0 := rfl
    have hR : ((cellsOf (l ++ List.replicate W false)).toList)[q] = by8 (byteOf (l ++ List.replicate W false) q) := by simp [cellsOf]
    rw [hR]
    have hsame : ∀ j, (l ++ List.replicate W false).getD j false = l.getD j false := by
      intro j
      by_cases hj : j < l.length
      · simp [List.getD, List.getElem?_append_left hj]
      · rw [List.getD, List.getD, List.getElem?_append_right (by omega), List.getElem?_eq_none (l := l) (by omega)]
        simp [List.getElem?_replicate]
        split <;> rfl
    have hby : byteOf (l ++ List.replicate W false) q = byteOf l q := byteOf_congr fun r _ => hsame _
    rw [hby]
    simp only [splice, List.take_zero, List.nil_append, Nat.zero_add, toList_madeCells_one]
    by_cases hl : q < nB l
    · rw [List.getElem_append_left (by simpa [cellsOf_size] using hl)]
      simp [cellsOf]
    · rw [List.getElem_append_right (by simpa [cellsOf_size] using hl)]
      rw [List.getElem_drop, List.getElem_replicate, byteOf_far (by unfold nB at hl; omega), hz]

set_option maxHeartbeats 400000 in
theorem grown_any (A : Option Addr) (l : List Bool) (n c : Nat) (W : Nat) (w : World) (hr : Rd w A l) (hn : n = nB l) (hm : l.length + W ≤ 100000000000000) :
    Calls Try.prog 42 #[.agg #[.slice A n c, .int .i64 (l.length : Nat)], .int .i64 W] w
      fun e w' => ∃ g : Nat, e = .returned (.agg #[.slice (some ⟨g, 0, none⟩) (nB (l ++ List.replicate W false)) (nB (l ++ List.replicate W false)), .int .i64 ((l.length + W : Nat) : Int)]) ∧ Own w' g (l ++ List.replicate W false) ∧ w.heap.size ≤ g ∧ Below w.heap.size w w' := by
  subst hn
  obtain ⟨n, hn⟩ : ∃ n, n = nB l := ⟨_, rfl⟩
  rw [← hn]
  have HN := Lib.hid hn
  clear hn
  obtain ⟨i0, hi0, hz0, hz1, hz2⟩ := info_parts u8info
  have hm2 : ((l.length : Int) + W + 7) / 8 = ((nB (l ++ List.replicate W false) : Nat) : Int) := by
    unfold nB; simp
  have HM := Lib.hid hm2
  clear hm2
  have hmk : ∀ w' : World, (Instr.makeSlice 22 (.int .i64 ((nB (l ++ List.replicate W false) : Nat) : Int)) (.int .i64 ((nB (l ++ List.replicate W false) : Nat) : Int))).run Try.prog w' = .ok (.slice (some ⟨w'.heap.size, 0, none⟩) (nB (l ++ List.replicate W false)) (nB (l ++ List.replicate W false))) (w'.alloc (.cells (madeCells #[.int .u8 0] (nB (l ++ List.replicate W false))) 5)) := by
    intro w'
    have h : nB (l ++ List.replicate W false) ≤ 100000000000000 := by unfold nB; simp; omega
    have hr := run_make (P := Try.prog) w' 22 5 i0 (.int .u8 0) Try.underlying22 hi0 hz0 .i64 .i64 (nB (l ++ List.replicate W false)) (nB (l ++ List.replicate W false)) (by omega) (by omega) (by rw [hz2]; omega) (by omega)
    simp only [Int.toNat_natCast, hz1, Nat.mul_one] at hr
    exact hr
  generalize hN : nB (l ++ List.replicate W false) = N at *
  have HNN := Lib.hid hN
  clear hN
  clear hi0 hz0 hz1 hz2
  have hsz : ∀ w' : World, Calls Try.prog 45 #[.int .i64 ((l.length : Int) + W)] w' fun e w'' => e = .returned (.int .i64 (N : Nat)) ∧ w' = w'' := by
    intro w'
    have h := size_any ((l.length : Int) + W) w' (by omega) (by omega)
    rw [HM.out] at h
    exact h
  have HS := Lib.hid hsz
  clear hsz
  have hw : IntKind.i64.wrap ((l.length : Int) + W) = (l.length : Int) + W := IntWalk.i64_in _ (by omega)
  clear hm
  go_enter Try.func42, Try.ntmps42
  go_upto_region 1 with fail
  go_cut [5] (fun s5 wx => ∃ p g : Nat, s5 = .pointer (some ⟨p, 0, none⟩) ∧ wx.heap[p]? = some (.cells #[.slice (some ⟨g, 0, none⟩) N N, .int .i64 ((l.length : Int) + W)] 24 (0, 0)) ∧
    wx.heap[g]? = some (.cells (madeCells #[.int .u8 0] N) 5 (0, 0)) ∧ p ≠ g ∧ w.heap.size + 2 ≤ p ∧ w.heap.size + 2 ≤ g ∧
    Below (w.heap.size + 2) ((w.alloc (Obj.cells #[Value.slice A n c, Value.int IntKind.i64 l.length] 24)).alloc (Obj.cells #[Value.slice none 0 0, Value.int IntKind.i64 0] 24)) wx)
  case first =>
    go_region_held3 (fun w' => w'.cell? ⟨w.heap.size, 0, none⟩ = some (.slice A n c) ∧ w'.cell? ⟨w.heap.size, 1, none⟩ = some (.int .i64 (l.length : Nat)))
      (go_keep)
      (first | (go_at_call 45; refine (HS.out _).mono ?_; rintro e w' ⟨rfl, rfl⟩))
    all_goals (go_wp2_with fail; go_meet)
    · exact ⟨w.heap.size + 3, w.heap.size + 2, rfl, at_second _ _ _ _ (by simp), at_first _ _ _ _ (by simp), by omega, by omega, by omega, (((Below.refl _ _).alloc (by simp) _).alloc (by simp) _).drew⟩
    · exact ⟨w.heap.size + 2, w.heap.size + 3, rfl, at_first _ _ _ _ (by simp), at_second _ _ _ _ (by simp), by omega, by omega, by omega, (((Below.refl _ _).alloc (by simp) _).alloc (by simp) _).drew⟩
    · exact ⟨w.heap.size + 2, w.heap.size + 3, rfl, at_first _ _ _ _ (by simp), at_second _ _ _ _ (by simp), by omega, by omega, by omega, (((Below.refl _ _).alloc (by simp) _).alloc (by simp) _).drew⟩
  case rest =>
    obtain ⟨p, g, rfl, hp, hg, hne, hp0, hg0, hb⟩ := hcut
    have hbox : ∀ i, wc.cell? ⟨w.heap.size, i, none⟩ = (#[Value.slice A n c, Value.int IntKind.i64 l.length] : Array Value)[i]? := fun i =>
      (hb.cell (p := ⟨w.heap.size, i, none⟩) (by show w.heap.size < _; omega)).trans (cell_of (two_first w _ _) i)
    have hb0 := hbox 0
    have hb1 := hbox 1
    have hp1 := cell_of hp 0
    have hp2 := cell_of hp 1
    have hres : wc.heap[w.heap.size + 1]? = some (Obj.cells #[Value.slice none 0 0, Value.int IntKind.i64 0] 24 (0, 0)) := (hb.block _ (by omega)).trans (two_second w _ _)
    have hW : Hid (wc.heap[w.heap.size + 1]? = some (Obj.cells #[Value.slice none 0 0, Value.int IntKind.i64 0] 24 (0, 0))) := hres
    clear hbox hres
    simp at hb0 hb1 hp1 hp2
    have HG := Lib.hid hg
    have HP := Lib.hid hp
    clear hg hp
    obtain ⟨C, hC⟩ : ∃ C, C = (cellsOf l).toList := ⟨_, rfl⟩
    obtain ⟨Z, hZ⟩ : ∃ Z, Z = (madeCells #[.int .u8 0] N).toList := ⟨_, rfl⟩
    have hg' : wc.heap[g]? = some (Obj.cells Z.toArray 5 (0, 0)) := by rw [hZ]; exact HG.out
    have HG' := Lib.hid hg'
    have HC := Lib.hid hC
    have HZ := Lib.hid hZ
    have hlen : C.length = nB l := by rw [hC]; simp [cellsOf_size]
    have hle : nB l ≤ N := by rw [← HNN.out]; unfold nB; simp; omega
    have hn1 : Hid (C.length = Nat.min n N) := by
      show C.length = min n N
      rw [hlen, HN.out]; omega
    have hfit : Hid (C.length ≤ Z.length) := by
      show C.length ≤ Z.length
      rw [hlen, hZ]; simp [toList_madeCells_one]; exact hle
    have hpos : Hid (0 < C.length → ∃ ad, A = some ad ∧ ∀ j v, C[j]? = some v → wc.cell? (ad.add j) = some v) := by
      intro h0
      obtain ⟨ad, e, hl, _⟩ := hr 0 (by omega)
      refine ⟨ad, e, fun j v hv => ?_⟩
      have hj : j < nB l := by
        have := (List.getElem?_eq_some_iff.1 hv).1
        omega
      obtain ⟨ad', e', hl', hc'⟩ := hr j hj
      rw [e] at e'
      injection e' with e'
      subst e'
      have hv' : some v = some (by8 (byteOf l j)) := by
        rw [← hv, hC]; simpa using cellsOf_get l j hj
      rw [hv', ← hc', hb.cell (by rw [block_add]; omega)]
      rw [World.cell?_alloc_lt _ _ _ (by rw [block_add]; simp; omega), World.cell?_alloc_lt _ _ _ (by rw [block_add]; exact hl)]
    have hone : Hid (∀ v ∈ C, v.oneCell' = true) := by
      show ∀ v ∈ C, v.oneCell' = true
      intro v hv
      rw [hC] at hv
      simp [cellsOf] at hv
      obtain ⟨q, _, rfl⟩ := hv
      rfl
    clear hr hg' hC hZ hlen hle HM HS
    have HW := Lib.hid hb
    clear hb
    go_wp2_with ((with_reducible refine wpList_copy_grown rfl (.tmp 18) (.tmp 20) _ _ rfl 5 Try.underlying22 u8size _ _ _ _ _ g rfl rfl Z 5 HG'.out C hn1.out hpos.out hfit.out hone.out ?_); intro w2 hg2 hgr2; obtain ⟨c1, c2, _, _⟩ := cells_two ((hgr2.block p (lt_of_block HP.out) (by simpa using hne)).trans HP.out); obtain ⟨d1, d2, f1, f2⟩ := cells_two ((hgr2.block _ (lt_of_block hW.out) (by simp; omega)).trans hW.out))
    refine bodyPost_ret (v := .agg #[.slice (some ⟨g, 0, none⟩) N N, .int .i64 ((l.length : Int) + W)]) (by simp [results, Try.results42, go_sem, d1, d2]) rfl ⟨g, by simp, ?_, by omega, ?_⟩
    · have h1 : Own w2 g (l ++ List.replicate W false) := by
        have h := hg2.out
        rw [HZ.out, HC.out, ← HNN.out, splice_cells] at h
        exact h
      exact (h1.far (by show g ≠ w.heap.size + 1; omega) _).far (by show g ≠ w.heap.size + 1; omega) _
    · have h0 : Below w.heap.size w wc := (((Below.refl _ _).alloc (Nat.le_refl _) _).alloc (by simp) _).trans (HW.out.mono (by omega))
      exact ((h0.grown hgr2 h0.size (by intro k hk; injection hk with hk; omega)).setCell (by show _ ≤ w.heap.size + 1; omega) _).setCell (by show _ ≤ w.heap.size + 1; omega) _
end Go.Proofs.Ytgljaimoaijcaaa
