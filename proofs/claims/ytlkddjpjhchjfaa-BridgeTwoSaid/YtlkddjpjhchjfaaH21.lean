/- Rows of truths; the edges that are chosen; who is on a web (layer 8). -/
import Derived.Test.YtlkddjpjhchjfaaH11
import Derived.Test.YtlkddjpjhchjfaaU5
import Derived.Deep.Grids
namespace Go.Proofs.Ytlkddjpjhchjfaa
set_option maxRecDepth 100000
open Go.RowKit

/-- A row of truths that is read. -/
def RdB (w : World) (A : Option Addr) (xs : List Bool) : Prop := ∀ (q : Nat) (x : Bool), xs[q]? = some x → ∃ ad, A = some ad ∧ ad.block < w.heap.size ∧ w.cell? (ad.add q) = some (.bool x)
theorem RdB.below {w w' : World} {A : Option Addr} {xs : List Bool} (h : RdB w A xs) (hb : Below w.heap.size w w') : RdB w' A xs := fun q x hq => by
  obtain ⟨ad, e, hl, hc⟩ := h q x hq
  exact ⟨ad, e, Nat.lt_of_lt_of_le hl hb.size, (hb.cell (by rw [block_add]; exact hl)).trans hc⟩
def OkBools (w : World) (v : Value) : Prop := ∃ (A : Option Addr) (c : Nat) (xs : List Bool), v = .slice A xs.length c ∧ RdB w A xs ∧ xs.length ≤ c ∧ c ≤ 9223372036854775807
open Go.ChangeShapes Go.WideShapes in
theorem open_boolsOk {H : Type} {enc : TypeId × Value → H} {W : World} {r : Reach} {b0 : Nat} {v : Value} {d : DataW H} {p : List MemPlace}
    (hv : Value.okWide Try.prog W r b0 65 v) (h : DataW.Trod enc Try.prog W 0 (fun _ => true) true 65 v d p) : OkBools W v := by
  obtain ⟨a0, len, cap, rfl⟩ := okWide_slice Try.underlying65 hv
  obtain ⟨fuel, hf⟩ := h
  rcases Go.Deep.open_bools Try.underlying65 Try.underlying4 (by kernel_rfl) hf with ⟨hcs, _⟩ | ⟨x, l, c, bf, hcs, _, hl, hm, _, hcell⟩
  · simp [Value.cells] at hcs
    obtain ⟨rfl, rfl, rfl⟩ := hcs
    exact ⟨none, 0, [], rfl, (by intro q x hq; simp at hq), by simp, by simp⟩
  · simp [Value.cells] at hcs
    obtain ⟨rfl, rfl, rfl⟩ := hcs
    refine ⟨some x, cap, (List.range len).map bf, by simp, ?_, by simpa using hl, by unfold maxLen at hm; omega⟩
    intro q b hq
    have hql : q < len := by have := (List.getElem?_eq_some_iff.1 hq).1; simpa using this
    have hc := hcell q (by omega)
    have hbq : bf q = b := by simpa [hql] using hq
    rw [hbq] at hc
    have hlt := World.block_lt_of_cell? W _ hc
    rw [block_add] at hlt
    exact ⟨x, rfl, hlt, hc⟩
set_option maxHeartbeats 16000000 in
theorem chosen_any (A B : Option Addr) (c d n m : Nat) (N : Int) (E : List (Int × Int)) (bs : List Bool) (w : World) (hE : RdP w A E) (hB : RdB w B bs) (hn : n = E.length) (hm : m = bs.length) (hs : n ≤ 1000000) :
    Calls Try.prog 42 #[.agg #[.int .i64 N, .slice A n c], .slice B m d] w fun e w' => ∃ (B' : Option Addr) (l c' : Nat), e = .returned (.slice B' l c') ∧ w'.ownsRow w.heap.size 51 2 (.slice B' l c') l (pcells (mkd E bs n)) ∧ Below w.heap.size w w' := by
  obtain ⟨X, hX⟩ : ∃ X, X = w.alloc (.cells #[.int .i64 N, .slice A n c] 24) := ⟨_, rfl⟩
  have hb : Below w.heap.size w X := by rw [hX]; exact (Below.refl _ _).alloc (Nat.le_refl _) _
  have hXS : w.heap.size < X.heap.size := by rw [hX]; simp
  obtain ⟨j0, j1, _, _⟩ := cells_two (w := X) (by rw [hX]; exact heap_alloc_new w _)
  have HE := Lib.hid (hE.below hb)
  have HBS := Lib.hid (hB.below hb)
  have HN := Lib.hid hn
  have HM := Lib.hid hm
  have HX := Lib.hid hX
  have HB := Lib.hid hb
  have HXS := Lib.hid hXS
  have HX0 := Lib.hid (Below.refl X.heap.size X)
  have HO0 : Hid (X.ownsRow X.heap.size 51 2 (.slice none 0 0) (mkd E bs 0).length (pcells (mkd E bs 0))) := World.ownsRow_nil _ _ _ _
  obtain ⟨i4, hi4, hz0, hz1, hz2⟩ := info_partsI pairinfo
  clear hE hB hn hm hX hb hXS
  go_enter Try.func42, Try.ntmps42
  go_wp2_with fail
  rw [← HX.out]
  clear j0 j1
  go_loopw [11, 5] (fun s11 s5 wr => ∃ (k : Nat) (V : Value), k ≤ n ∧ s11 = .int .i64 k ∧ s5 = V ∧ Hid (wr.ownsRow X.heap.size 51 2 V (mkd E bs k).length (pcells (mkd E bs k))) ∧ Hid (Below X.heap.size X wr)) (fun s11 _ _ => n - (intOf s11).toNat)
  case atStart => exact ⟨0, _, Nat.zero_le _, rfl, rfl, HO0, HX0⟩
  case round =>
    obtain ⟨k, V, hk, rfl, rfl, hV, hbel⟩ := hrel
    by_cases h1 : k < n
    · have t1 : decide ((k : Int) < (n : Int)) = true := by simp; omega
      have hK0 : (0 : Int) ≤ (k : Int) := by omega
      have hK1 : (k : Int) < (n : Nat) := by omega
      obtain ⟨e, he⟩ : ∃ e, E[k]? = some e := ⟨_, List.getElem?_eq_getElem (by rw [← HN.out]; exact h1)⟩
      have hge : E.getD k (0, 0) = e := by rw [List.getD_eq_getElem?_getD, he]; rfl
      have hst := mkd_step E bs k
      have hle := mkd_le E bs k
      rw [hge] at hst
      obtain ⟨ad, rfl, _, p0, p1⟩ := (HE.out.below hbel.out) k e he
      obtain ⟨x, y⟩ := e
      simp only at p0 p1
      have hbY : Below wr.heap.size wr (wr.alloc (.cells #[.int .i64 x, .int .i64 y] 51)) := (Below.refl _ _).alloc (Nat.le_refl _) _
      have hEB : (wr.alloc (.cells #[.int .i64 x, .int .i64 y] 51)).heap[wr.heap.size]? = some (.cells #[.int .i64 x, .int .i64 y] 51 (0, 0)) := heap_alloc_new wr _
      have HVY := Lib.hid (row_below hV.out hbY)
      have HBY := Lib.hid (next_below hbel.out hbY)
      clear he hge hbY hV hbel
      go_upto_region 5 with fail
      obtain ⟨pe, hpe⟩ : ∃ pe, wr.heap.size = pe := ⟨_, rfl⟩
      generalize wr.alloc (.cells #[.int .i64 x, .int .i64 y] 51) = Y at *
      rw [hpe] at hEB ⊢
      clear p0 p1 hpe
      obtain ⟨r0, r1, _, _⟩ := cells_two hEB
      have hcase : (m ≤ k ∧ bs.getD k false = false) ∨ (k < m ∧ ∃ bd, B = some bd ∧ Y.cell? (bd.add k) = some (.bool (bs.getD k false))) := by
        by_cases h2 : k < m
        · right
          refine ⟨h2, ?_⟩
          have hbk : bs[k]? = some (bs.getD k false) := by rw [List.getD_eq_getElem?_getD, List.getElem?_eq_getElem (by rw [← HM.out]; exact h2)]; rfl
          obtain ⟨bd, e1, _, e2⟩ := (HBS.out.below HBY.out) k _ hbk
          exact ⟨bd, e1, e2⟩
        · left
          refine ⟨by omega, ?_⟩
          rw [List.getD_eq_getElem?_getD, List.getElem?_eq_none (by have := HM.out; omega)]
          rfl
      clear hEB
      obtain ⟨p, hp⟩ : ∃ p, bs.getD k false = p := ⟨_, rfl⟩
      rw [hp] at hcase hst
      clear hp
      rcases hcase with ⟨h2, rfl⟩ | ⟨h2, bd, rfl, q0⟩
      · have t2 : decide ((k : Int) < (m : Int)) = false := by simp; omega
        have hsame : mkd E bs (k + 1) = mkd E bs k := by rw [hst]; simp
        clear r0 r1
        go_wp2_with fail
        go_roundw
        case rel => exact ⟨k + 1, _, by omega, by go_num, rfl, by rw [hsame]; exact HVY, HBY⟩
        case measure => simp [intOf]; omega
      · have t2 : decide ((k : Int) < (m : Int)) = true := by simp; omega
        have hK2 : (k : Int) < (m : Nat) := by omega
        cases p
        · have hsame : mkd E bs (k + 1) = mkd E bs k := by rw [hst]; simp
          clear r0 r1
          go_wp2_with fail
          go_roundw
          case rel => exact ⟨k + 1, _, by omega, by go_num, rfl, by rw [hsame]; exact HVY, HBY⟩
          case measure => simp [intOf]; omega
        · have HST : Hid (mkd E bs (k + 1) = mkd E bs k ++ [(x, y)]) := by show _ = _; rw [hst]; simp
          have HFA := Lib.hid (HVY.out.alloc (.cells #[.int .i64 x, .int .i64 y] 51))
          have HLT : Hid (∀ (i : Nat) (u : Value), [Value.int .i64 x, .int .i64 y][i]? = some u → (Y.alloc (.cells #[.int .i64 x, .int .i64 y] 51)).cell? ((⟨Y.heap.size, 0, none⟩ : Addr).add i) = some u) := fun i u hi => by
            rw [← hi, add_off, World.cell?_alloc_at _ _ _ _ rfl]
            simp
          have hsz := HBY.out.size
          obtain ⟨fl, hfl⟩ : ∃ fl, (mkd E bs k).length = fl := ⟨_, rfl⟩
          rw [hfl] at HFA hle
          have HFL := Lib.hid hfl
          clear hfl hst
          go_wp2_with (at_builtin; refine wpList_append_lies _ rfl (.tmp 26) (.tmp 28) 22 rfl X.heap.size 51 i4 (.agg #[.int .i64 0, .int .i64 0]) 2 16 Try.underlying22 hi4 hz0 hz1 hz2 rfl (by decide) _ fl (pcells (mkd E bs k)) rfl HFA.out ⟨Y.heap.size, 0, none⟩ 1 1 [.int .i64 x, .int .i64 y] (by simp [Act.eval]) rfl HLT.out (by simp [Value.oneCell']) (by omega) (by simp [maxLen]; omega) (by omega) (by simp; omega) (Y.heap.size + 1) (by simp) ?_; intro g7 c7 w7 hr7 hg7 _ _)
          have HB7 := Lib.hid ((HBY.out.alloc hsz _).grown hg7 (by simp; omega) (fun q e => (HFA.out.lt q e).1))
          have HV7 : Hid (w7.ownsRow X.heap.size 51 2 (.slice (some ⟨g7, 0, none⟩) (fl + 1) c7) (mkd E bs (k + 1)).length (pcells (mkd E bs (k + 1)))) := by
            show World.ownsRow _ _ _ _ _ _ _
            rw [HST.out, List.length_append, HFL.out, pcells_snoc]
            exact hr7
          clear hr7 hg7 q0 r0 r1
          go_wp2_with fail
          go_roundw
          case rel => exact ⟨k + 1, _, by omega, by go_num, rfl, HV7, HB7⟩
          case measure => simp [intOf]; omega
    · obtain rfl : k = n := by omega
      have t1 : decide ((k : Int) < (k : Int)) = false := by simp
      go_wp2_with fail
      go_ret
      have hV2 := Go.Joins.ownsRow_le hV.out (Nat.le_of_lt HXS.out)
      obtain ⟨A', c', ev⟩ := owns_form hV2
      subst ev
      exact ⟨A', _, c', rfl, hV2, HB.out.trans (hbel.out.mono (Nat.le_of_lt HXS.out))⟩
end Go.Proofs.Ytlkddjpjhchjfaa
