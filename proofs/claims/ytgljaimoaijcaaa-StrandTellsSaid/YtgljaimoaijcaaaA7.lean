/- Walks: strands are joined, cut, and laid behind one another. -/
import Derived.Test.YtgljaimoaijcaaaA6
import Derived.Test.YtgljaimoaijcaaaSh
namespace Go.Proofs.Ytgljaimoaijcaaa
open Go.RowKit

/-- A value that stands for bits in a row, in memory that is there. -/
def St (w : World) (v : Value) (l : List Bool) : Prop := ∃ (A : Option Addr) (c : Nat), v = .agg #[.slice A (nB l) c, .int .i64 (l.length : Nat)] ∧ Rd w A l ∧ l.length ≤ 4194304
/-- Likewise, in block g, that it has for itself. -/
def Mine (w : World) (g : Nat) (v : Value) (l : List Bool) : Prop := v = .agg #[.slice (some ⟨g, 0, none⟩) (nB l) (nB l), .int .i64 (l.length : Nat)] ∧ Own w g l
theorem Mine.st {w : World} {g : Nat} {v : Value} {l : List Bool} (h : Mine w g v l) (hm : l.length ≤ 4194304) : St w v l := ⟨_, _, h.1, h.2.rd, hm⟩
theorem St.below {w w' : World} {v : Value} {l : List Bool} (h : St w v l) (hb : Below w.heap.size w w') : St w' v l := by
  obtain ⟨A, c, e, hr, hm⟩ := h
  exact ⟨A, c, e, hr.below hb, hm⟩
theorem Mine.below {w w' : World} {g : Nat} {v : Value} {l : List Bool} (h : Mine w g v l) (hb : Below w.heap.size w w') : Mine w' g v l := ⟨h.1, h.2.below hb⟩
/-- What is behind a call that answers bits in memory of their own. -/
def NewSt (l : List Bool) (w : World) (e : Ending) (w' : World) : Prop := ∃ (g : Nat) (v : Value), e = .returned (.tuple #[v, .int .i64 0]) ∧ Mine w' g v l ∧ w.heap.size ≤ g ∧ Below w.heap.size w w'
/-- What is behind a call that tells an error. -/
def ErrSt (k : Int) (w : World) (e : Ending) (w' : World) : Prop := e = .returned (.tuple #[.agg #[.slice none 0 0, .int .i64 0], .int .i64 k]) ∧ Below w.heap.size w w'

theorem Rd.not_new {w : World} {A : Option Addr} {l : List Bool} (h : Rd w A l) {w' : World} (hb : Below w.heap.size w w') {g : Nat} (hg : w.heap.size ≤ g) : RdNot w' g A l := fun q hq => by
  obtain ⟨ad, e, hl, hc⟩ := h q hq
  exact ⟨ad, e, Nat.lt_of_lt_of_le hl hb.size, by omega, (hb.cell (by rw [block_add]; exact hl)).trans hc⟩

theorem next_below {W w1 w2 : World} (h : Below W.heap.size W w1) (k : Below w1.heap.size w1 w2) : Below W.heap.size W w2 := h.trans (k.mono h.size)
theorem old_cells {n : Nat} {W w1 : World} (hb : Below n W w1) : (∀ b o, b < n → w1.cell? ⟨b, o, none⟩ = W.cell? ⟨b, o, none⟩) ∧ (∀ b o, b < n → w1.frozen? ⟨b, o, none⟩ = W.frozen? ⟨b, o, none⟩) :=
  ⟨fun _ _ h => hb.cell h, fun _ _ h => hb.frozen h⟩

set_option maxHeartbeats 1000000 in
theorem join_any (x y : Value) (a b : List Bool) (w : World) (hx : St w x a) (hy : St w y b) (hm : a.length + b.length ≤ 4194304) :
    Calls Try.prog 14 #[x, y] w (NewSt (a ++ b) w) := by
  obtain ⟨A, c, rfl, hr, h1⟩ := hx
  obtain ⟨B, d, rfl, hs, h2⟩ := hy
  have HR := Lib.hid hr
  have HS := Lib.hid hs
  clear hr hs
  go_enter Try.func14, Try.ntmps14
  go_wp2_with fail
  refine (right_yes A a _ _ _ _ (((HR.out.alloc _).alloc _).alloc _) rfl rfl h1).mono ?_
  rintro e w1 ⟨rfl, hb1⟩
  obtain ⟨hc, hf⟩ := old_cells hb1
  have hR1 := Lib.hid ((((HR.out.alloc _).alloc _).alloc _).below hb1)
  have hS1 := Lib.hid ((((HS.out.alloc _).alloc _).alloc _).below hb1)
  go_wp2_with fail
  refine (right_yes B b _ _ _ _ hS1.out rfl rfl h2).mono ?_
  rintro e w2 ⟨rfl, hb2⟩
  clear hc hf
  have hB2 := next_below hb1 hb2
  have hR2 := Lib.hid (hR1.out.below hb2)
  have hS2 := Lib.hid (hS1.out.below hb2)
  clear hb1 hb2
  obtain ⟨hc, hf⟩ := old_cells hB2
  go_wp2_with fail
  refine (grown_any A a _ c b.length _ hR2.out rfl (by omega)).mono ?_
  rintro e w3 ⟨g, rfl, ho, hg, hb3⟩
  clear hc hf
  have hB3 := (next_below hB2 hb3).alloc (next_below hB2 hb3).size (.cells #[.slice (some ⟨g, 0, none⟩) (nB (a ++ List.replicate b.length false)) (nB (a ++ List.replicate b.length false)), .int .i64 ((a.length : Int) + b.length)] 24)
  obtain ⟨hc, hf⟩ := old_cells hB3
  have HN := Lib.hid ((hS2.out.not_new hb3 hg).alloc (.cells #[.slice (some ⟨g, 0, none⟩) (nB (a ++ List.replicate b.length false)) (nB (a ++ List.replicate b.length false)), .int .i64 ((a.length : Int) + b.length)] 24))
  have HO := Lib.hid (ho.alloc (.cells #[.slice (some ⟨g, 0, none⟩) (nB (a ++ List.replicate b.length false)) (nB (a ++ List.replicate b.length false)), .int .i64 ((a.length : Int) + b.length)] 24))
  have hz : w.heap.size + 3 ≤ w2.heap.size := by have := hB2.size; simp at this; omega
  have hgl := ho.lt
  have hz3 := hb3.size
  clear ho
  generalize hl0 : a ++ List.replicate b.length false = l0 at *
  have HL0 := Lib.hid hl0
  clear hl0
  generalize hN : nB l0 = N at *
  have hNN := Lib.hid hN.symm
  clear hN
  have hd : decide (4194304 < (a.length : Int) + b.length) = false := by simp; omega
  have hP := Lib.hid (heap_alloc_new w3 (.cells #[.slice (some ⟨g, 0, none⟩) N N, .int .i64 ((a.length : Int) + b.length)] 24))
  have hlen0 : Hid (l0.length = a.length + b.length) := by show _ = _; rw [← HL0.out]; simp
  go_wp2_with fail
  refine (copyBits_any g l0 _ _ a.length B b _ _ _ 0 b.length _ HO.out hNN.out HN.out rfl (by rw [hlen0.out]; omega) (by omega) (by rw [hlen0.out]; omega) (by omega)).mono ?_
  rintro e w4 ⟨rfl, ho4, hg4⟩
  have HO4 := Lib.hid ho4
  clear ho4 hc hf
  have hgw : (((w.alloc (Obj.cells #[Value.slice A (nB a) c, Value.int IntKind.i64 a.length] 24)).alloc (Obj.cells #[Value.slice B (nB b) d, Value.int IntKind.i64 b.length] 24)).alloc (Obj.cells #[Value.slice none 0 0, Value.int IntKind.i64 0] 24)).heap.size ≤ g := by simp; omega
  have hB4 := hB3.grown hg4 hB3.size (by intro j hj; injection hj with hj; omega)
  obtain ⟨hc, hf⟩ := old_cells hB4
  obtain ⟨p1, p2, _, _⟩ := cells_two (blk_gb hP.out hg4 (by omega))
  go_wp2_with fail
  have hO : Own w4 g (a ++ b) := by
    have h := HO4.out
    rw [← HL0.out, lay_end] at h
    exact h
  have hNe : N = nB (a ++ b) := by rw [hNN.out]; unfold nB; rw [hlen0.out]; simp
  have hne : g ≠ w.heap.size + 1 + 1 := by omega
  refine bodyPost_ret (v := .tuple #[.agg #[.slice (some ⟨g, 0, none⟩) N N, .int .i64 ((a.length : Int) + b.length)], .int .i64 0]) (by simp [results, Try.results14, go_sem, hc]) rfl ⟨g, _, rfl, ⟨by rw [hNe]; simp, (hO.far hne _).far hne _⟩, by omega, ?_⟩
  have h0 : Below w.heap.size w w4 := ((((Below.refl _ _).alloc (Nat.le_refl _) _).alloc (by simp) _).alloc (by simp; omega) _).trans (hB4.mono (by simp; omega))
  exact (h0.setCell (by show _ ≤ w.heap.size + 1 + 1; omega) _).setCell (by show _ ≤ w.heap.size + 1 + 1; omega) _

theorem splice_cut (l : List Bool) (fr n : Nat) (h : fr + n ≤ l.length) : lay (List.replicate n false) 0 l fr n = (l.drop fr).take n := by
  apply ext_getD
  · rw [lay_length]; simp; omega
  · intro j hj
    rw [lay_length, List.length_replicate] at hj
    rw [lay_at _ _ _ _ _ _ (by simp), getD_false]
    have : decide (0 ≤ j ∧ j < 0 + n) = true := by simp; omega
    rw [this]
    simp [List.getD, hj]

theorem grown_none (j : Int) (n : Nat) (w : World) (hj : j = n) (hm : n ≤ 4194304) :
    Calls Try.prog 42 #[.agg #[.slice none 0 0, .int .i64 0], .int .i64 j] w
      fun e w' => ∃ g : Nat, e = .returned (.agg #[.slice (some ⟨g, 0, none⟩) (nB (List.replicate n false)) (nB (List.replicate n false)), .int .i64 (n : Nat)]) ∧ Own w' g (List.replicate n false) ∧ w.heap.size ≤ g ∧ Below w.heap.size w w' := by
  subst hj
  have h := grown_any none [] 0 0 n w Rd.nil_ rfl (by simp; omega)
  simpa using h

set_option maxHeartbeats 1000000 in
theorem cut_any (x : Value) (a : List Bool) (fr tt : Nat) (w : World) (hx : St w x a) (h1 : fr ≤ tt) (h2 : tt ≤ a.length) :
    Calls Try.prog 18 #[x, .int .i64 fr, .int .i64 tt] w (NewSt ((a.drop fr).take (tt - fr)) w) := by
  obtain ⟨A, c, rfl, hr, hm⟩ := hx
  have HR := Lib.hid hr
  clear hr
  go_enter Try.func18, Try.ntmps18
  go_wp2_with fail
  refine (right_yes A a _ _ _ _ ((HR.out.alloc _).alloc _) rfl rfl hm).mono ?_
  rintro e w1 ⟨rfl, hb1⟩
  obtain ⟨hc, hf⟩ := old_cells hb1
  have hR1 := Lib.hid (((HR.out.alloc _).alloc _).below hb1)
  obtain ⟨n, hn⟩ : ∃ n, n = tt - fr := ⟨_, rfl⟩
  have d1 : decide ((fr : Int) < 0) = false := by simp
  have d2 : decide (tt < fr) = false := by simp; omega
  have d3 : decide (a.length < tt) = false := by simp; omega
  have HnI := Lib.hid hn
  have hn1 : fr + n ≤ a.length := by omega
  have hn2 : tt ≤ fr + n := by omega
  have hn3 : fr + n ≤ tt := by omega
  clear hn
  go_wp2_with fail
  clear d1 d2 d3
  refine (grown_none _ n _ (by omega) (by omega)).mono ?_
  rintro e w3 ⟨g, rfl, ho, hg, hb3⟩
  clear hc hf
  have hB3 := (next_below hb1 hb3).alloc (next_below hb1 hb3).size (.cells #[.slice (some ⟨g, 0, none⟩) (nB (List.replicate n false)) (nB (List.replicate n false)), .int .i64 (n : Nat)] 24)
  obtain ⟨hc, hf⟩ := old_cells hB3
  have HN := Lib.hid ((hR1.out.not_new hb3 hg).alloc (.cells #[.slice (some ⟨g, 0, none⟩) (nB (List.replicate n false)) (nB (List.replicate n false)), .int .i64 (n : Nat)] 24))
  have HO := Lib.hid (ho.alloc (.cells #[.slice (some ⟨g, 0, none⟩) (nB (List.replicate n false)) (nB (List.replicate n false)), .int .i64 (n : Nat)] 24))
  have hz : w.heap.size + 2 ≤ w1.heap.size := by have := hb1.size; simp at this; omega
  have hgl := ho.lt
  have hz3 := hb3.size
  clear ho
  generalize hN : nB (List.replicate n false) = N at *
  have hNN := Lib.hid hN.symm
  clear hN
  have hP := Lib.hid (heap_alloc_new w3 (.cells #[.slice (some ⟨g, 0, none⟩) N N, .int .i64 (n : Nat)] 24))
  go_wp2_with fail
  rw [show (tt : Int) - fr = (n : Nat) from by omega]
  refine (copyBits_any g (List.replicate n false) _ _ 0 A a _ _ _ fr n _ HO.out hNN.out HN.out rfl (by simp) (by have := HnI.out; omega) (by simp; omega) (by omega)).mono ?_
  rintro e w4 ⟨rfl, ho4, hg4⟩
  rw [splice_cut a fr n (by have := HnI.out; omega)] at ho4
  have HO4 := Lib.hid ho4
  clear ho4 hc hf
  have hgw : ((w.alloc (Obj.cells #[Value.slice A (nB a) c, Value.int IntKind.i64 a.length] 24)).alloc (Obj.cells #[Value.slice none 0 0, Value.int IntKind.i64 0] 24)).heap.size ≤ g := by simp; omega
  have hB4 := hB3.grown hg4 hB3.size (by intro j hj; injection hj with hj; omega)
  obtain ⟨hc, hf⟩ := old_cells hB4
  obtain ⟨p1, p2, _, _⟩ := cells_two (blk_gb hP.out hg4 (by omega))
  go_wp2_with fail
  have hlen : ((a.drop fr).take n).length = n := by have := HnI.out; simp; omega
  have hNe : N = nB ((a.drop fr).take n) := by rw [hNN.out]; unfold nB; rw [hlen]; simp
  have hne : g ≠ w.heap.size + 1 := by omega
  rw [← HnI.out]
  refine bodyPost_ret (v := .tuple #[.agg #[.slice (some ⟨g, 0, none⟩) N N, .int .i64 (n : Nat)], .int .i64 0]) (by simp [results, Try.results18, go_sem, hc]) rfl ⟨g, _, rfl, ⟨by rw [hNe, hlen], (HO4.out.far hne _).far hne _⟩, by omega, ?_⟩
  have h0 : Below w.heap.size w w4 := (((Below.refl _ _).alloc (Nat.le_refl _) _).alloc (by simp) _).trans (hB4.mono (by simp; omega))
  exact (h0.setCell (by show _ ≤ w.heap.size + 1; omega) _).setCell (by show _ ≤ w.heap.size + 1; omega) _

end Go.Proofs.Ytgljaimoaijcaaa
