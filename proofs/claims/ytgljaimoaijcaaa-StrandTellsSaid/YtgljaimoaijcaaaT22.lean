/- What is handed in is opened: a strand with its length, and what else is asked; and each is what both sides take it for. -/
import Derived.Test.YtgljaimoaijcaaaT21
import Derived.Test.YtgljaimoaijcaaaOwn2
namespace Go.Proofs.Ytgljaimoaijcaaa
open Go.RowKit

/-- A value that came in as a strand: its bytes, and a length that is an int. -/
def OkStrandL (w : World) (v : Value) : Prop := ∃ (A : Option Addr) (c : Nat) (L : Int) (xs : List Int), v = .agg #[.slice A xs.length c, .int .i64 L] ∧ isBytes xs ∧ RdB w A xs ∧ xs.length ≤ 9223372036854775807 ∧ (A = none → c = 0) ∧ -9223372036854775808 ≤ L ∧ L ≤ 9223372036854775807
/-- A value that came in as bytes in a field. -/
def OkRow (w : World) (v : Value) : Prop := ∃ (A : Option Addr) (c : Nat) (xs : List Int), v = .slice A xs.length c ∧ isBytes xs ∧ RdB w A xs ∧ xs.length ≤ 9223372036854775807 ∧ (A = none → c = 0)
open Go.ChangeShapes Go.WideShapes in
theorem open_row {H : Type} {enc : TypeId × Value → H} {W : World} {n : Nat} {v : Value} {y : DataW H × List MemPlace}
    (h0 : DataW.trod enc Try.prog W 0 (fun _ => true) true n 22 [v] = some y) : OkRow W v := by
  rcases open_ints Try.underlying22 Try.underlying5 (by kernel_rfl) h0 with ⟨hcs, _⟩ | ⟨x, l, c, zs, hcs, _, hl, hm, hz, _, hcell, hwz⟩
  · simp at hcs
    subst hcs
    exact ⟨none, 0, [], rfl, (by intro x hx; cases hx), (by intro q x hq; simp at hq), by simp, fun _ => rfl⟩
  · simp at hcs
    subst hcs
    have hzl : zs.length = c := by simpa using hz
    have hlen : (zs.take l).length = l := by simp; omega
    refine ⟨some x, c, zs.take l, by rw [hlen], ?_, ?_, by rw [hlen]; unfold maxLen at hm; omega, fun e => by cases e⟩
    · intro b hb
      have hb' := hwz b (List.mem_of_mem_take hb)
      simp [Lit.wf, IntKind.min, IntKind.max, IntKind.signed, IntKind.bits] at hb'
      omega
    · intro q b hq
      have hql : q < l := by have := (List.getElem?_eq_some_iff.1 hq).1; omega
      have hc := hcell q (by omega)
      rw [List.getElem?_take, if_pos hql] at hq
      have : zs.getD q 0 = b := by simp [List.getD, hq]
      rw [this] at hc
      have hlt := World.block_lt_of_cell? W _ hc
      rw [block_add] at hlt
      exact ⟨x, rfl, hlt, hc⟩
open Go.ChangeShapes Go.WideShapes in
theorem open_strandL {H : Type} {enc : TypeId × Value → H} {W : World} {r : Reach} {b0 : Nat} {v : Value} {d : DataW H} {p : List MemPlace}
    (hv : Value.okWide Try.prog W r b0 24 v) (h : DataW.Trod enc Try.prog W 0 (fun _ => true) true 24 v d p) : OkStrandL W v := by
  obtain ⟨c0, c1, y0, y1, n, rfl, _, _, h0, h1⟩ := Go.Joins.open_agg2 Try.underlying24 (by kernel_rfl) (by kernel_rfl) hv h
  obtain ⟨L, e1, _, wL⟩ := DataW.trod_int Try.underlying3 h1
  simp at e1
  subst e1
  simp [Lit.wf, IntKind.min, IntKind.max, IntKind.signed, IntKind.bits] at wL
  obtain ⟨A, c, xs, rfl, k1, k2, k3, k4⟩ := open_row h0
  exact ⟨A, c, L, xs, rfl, k1, k2, k3, k4, by omega, by omega⟩
/-- What else is asked: a number, how many bits, two places, bytes. -/
def OkAsked (w : World) (v : Value) : Prop := ∃ (n : Nat) (wd fr tt : Int) (A : Option Addr) (c : Nat) (xs : List Int), v = .agg #[.int .u64 n, .int .i64 wd, .int .i64 fr, .int .i64 tt, .slice A xs.length c] ∧ n < 18446744073709551616 ∧ isBytes xs ∧ RdB w A xs ∧ xs.length ≤ 9223372036854775807
theorem five_cells {α : Type} {cs : Array α} (h : cs.size = 5) : ∃ c0 c1 c2 c3 c4, cs = #[c0, c1, c2, c3, c4] := by
  obtain ⟨l⟩ := cs
  match l, h with
  | [c0, c1, c2, c3, c4], _ => exact ⟨c0, c1, c2, c3, c4, rfl⟩
open Go.ChangeShapes Go.WideShapes in
theorem open_asked {H : Type} {enc : TypeId × Value → H} {W : World} {r : Reach} {b0 : Nat} {v : Value} {d : DataW H} {p : List MemPlace}
    (hv : Value.okWide Try.prog W r b0 27 v) (h : DataW.Trod enc Try.prog W 0 (fun _ => true) true 27 v d p) : OkAsked W v := by
  obtain ⟨cs, rfl, hsz⟩ := okWide_struct Try.underlying27 hv
  obtain ⟨c0, c1, c2, c3, c4, rfl⟩ := five_cells (hsz.trans (by kernel_rfl))
  obtain ⟨fuel, hf⟩ := h
  obtain ⟨xs, n, _, _, hl, hlen, hfs⟩ := DataW.trod_struct Try.underlying27 hf
  have k1 : Try.prog.cellsOf 25 = 1 := by kernel_rfl
  have k2 : Try.prog.cellsOf 3 = 1 := by kernel_rfl
  have k3 : Try.prog.cellsOf 22 = 1 := by kernel_rfl
  have hl5 : xs.length = 5 := hlen
  have g0 : DataW.trod enc Try.prog W 0 (fun _ => true) true n 25 (List.take (Try.prog.cellsOf 25) [c0, c1, c2, c3, c4]) = some xs[0] := (hfs 0 _ rfl).trans (List.getElem?_eq_getElem (by omega))
  generalize xs[0] = y0 at g0
  rw [k1] at g0
  have g1 : DataW.trod enc Try.prog W 0 (fun _ => true) true n 3 (List.take (Try.prog.cellsOf 3) [c1, c2, c3, c4]) = some xs[1] := (hfs 1 _ rfl).trans (List.getElem?_eq_getElem (by omega))
  generalize xs[1] = y1 at g1
  rw [k2] at g1
  have g2 : DataW.trod enc Try.prog W 0 (fun _ => true) true n 3 (List.take (Try.prog.cellsOf 3) [c2, c3, c4]) = some xs[2] := (hfs 2 _ rfl).trans (List.getElem?_eq_getElem (by omega))
  generalize xs[2] = y2 at g2
  rw [k2] at g2
  have g3 : DataW.trod enc Try.prog W 0 (fun _ => true) true n 3 (List.take (Try.prog.cellsOf 3) [c3, c4]) = some xs[3] := (hfs 3 _ rfl).trans (List.getElem?_eq_getElem (by omega))
  generalize xs[3] = y3 at g3
  rw [k2] at g3
  have g4 : DataW.trod enc Try.prog W 0 (fun _ => true) true n 22 (List.take (Try.prog.cellsOf 22) [c4]) = some xs[4] := (hfs 4 _ rfl).trans (List.getElem?_eq_getElem (by omega))
  generalize xs[4] = y4 at g4
  rw [k3] at g4
  obtain ⟨z0, e0, _, w0⟩ := DataW.trod_int Try.underlying25 g0
  obtain ⟨z1, e1, _, w1⟩ := DataW.trod_int Try.underlying3 g1
  obtain ⟨z2, e2, _, w2⟩ := DataW.trod_int Try.underlying3 g2
  obtain ⟨z3, e3, _, w3⟩ := DataW.trod_int Try.underlying3 g3
  simp at e0 e1 e2 e3
  subst e0; subst e1; subst e2; subst e3
  simp [Lit.wf, IntKind.min, IntKind.max, IntKind.signed, IntKind.bits] at w0
  obtain ⟨m, rfl⟩ := Int.eq_ofNat_of_zero_le w0.1
  obtain ⟨A, c, ys, rfl, q1, q2, q3, _⟩ := open_row g4
  exact ⟨m, z1, z2, z3, A, c, ys, rfl, by omega, q1, q2, q3⟩

/-- What came in as a strand: its bytes as numbers; and the bits, if it is one. -/
theorem rdn_of {w : World} {A : Option Addr} {xs : List Int} (hx : isBytes xs) (hr : RdB w A xs) : ∃ ns : List Nat, ns.length = xs.length ∧ (∀ n ∈ ns, n < 256) ∧ RdN w A ns ∧ ∀ w' B, RdN w' B ns → RdB w' B xs := by
  have hz : ∀ (q : Nat) x, xs[q]? = some x → ((x.toNat : Nat) : Int) = x := fun q x h => by have := hx x (List.mem_of_getElem? h); omega
  refine ⟨xs.map Int.toNat, by simp, ?_, ?_, ?_⟩
  · intro n hn
    obtain ⟨x, h, rfl⟩ := List.mem_map.1 hn
    have := hx x h
    omega
  · intro q n hq
    simp only [List.getElem?_map, Option.map_eq_some_iff] at hq
    obtain ⟨x, h, rfl⟩ := hq
    obtain ⟨ad, e, hb, hc⟩ := hr q x h
    refine ⟨ad, e, hb, ?_⟩
    rw [hc]
    show _ = some (Value.int .u8 ((x.toNat : Nat) : Int))
    rw [hz q x h]
  · intro w' B h q x hq
    obtain ⟨ad, e, hb, hc⟩ := h q x.toNat (by simp [hq])
    refine ⟨ad, e, hb, ?_⟩
    rw [hc]
    show some (Value.int .u8 ((x.toNat : Nat) : Int)) = _
    rw [hz q x hq]

/-- What both sides take a strand for, or what is none: the program a copy of it, in block g. -/
theorem sides {W : World} {A B : Option Addr} {c d : Nat} {L : Int} {xs : List Int} (hx : isBytes xs) (hr : RdB W A xs) (hs : RdB W B xs) (hm : xs.length ≤ 250) (hL : L ≤ 2000) (hL0 : -9223372036854775808 ≤ L) :
    ∃ o : Option (List Bool), o.isSome = rightB xs L ∧ PSide W (.agg #[.slice A xs.length c, .int .i64 L]) o ∧ RSide W (.agg #[.slice B xs.length d, .int .i64 L]) o := by
  cases h : rightB xs L with
  | false =>
    refine ⟨none, rfl, ⟨fun w' k => ?_, _, _, rfl⟩, textIs_none d L hs hx (by omega) h hL0 (by omega), _, _, rfl⟩
    have := right_val A xs c L w' (hr.below k)
    rw [h] at this
    exact this
  | true =>
    obtain ⟨l, e, hm2, hn, hq⟩ := rightB_bits xs L hx h
    have hll : l.length ≤ 2000 := by omega
    have hrA : Rd W A l := fun q hqq => by
      obtain ⟨ad, e, hb, hc⟩ := hr q _ (hq q hqq)
      exact ⟨ad, e, hb, hc⟩
    have hrB : Rd W B l := fun q hqq => by
      obtain ⟨ad, e, hb, hc⟩ := hs q _ (hq q hqq)
      exact ⟨ad, e, hb, hc⟩
    refine ⟨some l, rfl, ⟨fun w' k => ?_, ⟨A, c, by rw [hn, e], hrA, hm2⟩, hll, _, by rw [e]⟩, ?_, _, _, rfl⟩
    · have := right_val A xs c L w' (hr.below k)
      rw [h] at this
      exact this
    · rw [e, hn]
      exact textIs_some d hrB hm2

set_option maxHeartbeats 1000000 in
/-- Two that say the same are the same. -/
theorem same_n (A B : Option Addr) (n c d : Nat) (L : Int) (xs : List Nat) (w : World) (hx : RdN w A xs) (hy : RdN w B xs) (hn : n = xs.length) (h1 : ∀ x ∈ xs, x < 256) :
    Calls Try.prog 17 #[.agg #[.slice A n c, .int .i64 L], .agg #[.slice B n d, .int .i64 L]] w fun e w' => e = .returned (.bool true) ∧ Below w.heap.size w w' := by
  have HR := Lib.hid hx
  have HS := Lib.hid hy
  have HN := Lib.hid hn
  clear hx hy hn
  go_enter Try.func17, Try.ntmps17
  go_wp2_with fail
  refine (sameBytes_any A B _ _ c d xs xs _ (HR.out.below (((Below.refl _ _).alloc (Nat.le_refl _) _).alloc (by simp) _)) (HS.out.below (((Below.refl _ _).alloc (Nat.le_refl _) _).alloc (by simp) _)) HN.out HN.out h1 h1).mono ?_
  rintro e w1 ⟨rfl, rfl⟩
  go_wp2_with fail
  go_ret
  exact ⟨by simp, ((Below.refl _ _).alloc (Nat.le_refl _) _).alloc (by simp) _⟩
end Go.Proofs.Ytgljaimoaijcaaa
