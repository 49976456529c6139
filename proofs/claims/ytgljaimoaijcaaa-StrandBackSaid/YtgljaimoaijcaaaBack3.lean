/- Bits of things, one behind the other. -/
import Derived.Test.YtgljaimoaijcaaaBack2
import Derived.Deep.AppendLies
import Derived.Laws.AppendOwnNone
import Derived.Lib.SmallJoins
namespace Go.Proofs.Ytgljaimoaijcaaa
open Go.RowKit

def upto (a : List Bool) (T : List (Nat × Nat)) (i : Nat) : List Bool := a ++ ((T.take i).map fun p => enc p.1 p.2).flatten
theorem upto_zero (a : List Bool) (T : List (Nat × Nat)) : upto a T 0 = a := by simp [upto]
theorem upto_succ {a : List Bool} {T : List (Nat × Nat)} {i : Nat} {p : Nat × Nat} (h : T[i]? = some p) : upto a T (i + 1) = upto a T i ++ enc p.1 p.2 := by
  unfold upto
  rw [List.take_add_one, h]
  simp
theorem upto_len (a : List Bool) (T : List (Nat × Nat)) : ∀ i, i ≤ T.length → (upto a T i).length ≤ a.length + 200 * i
  | 0, _ => by rw [upto_zero]; omega
  | i + 1, h => by
    have h1 : T[i]? = some T[i] := List.getElem?_eq_getElem (by omega)
    have := upto_len a T i (by omega)
    have h2 := enc_le T[i].1 T[i].2
    rw [upto_succ h1, List.length_append]
    omega
theorem upto_ge (a : List Bool) (T : List (Nat × Nat)) (i : Nat) : a.length ≤ (upto a T i).length := by unfold upto; simp
theorem upto_split {a : List Bool} {T : List (Nat × Nat)} {i : Nat} {p : Nat × Nat} (h : T[i]? = some p) : ∃ r, upto a T T.length = upto a T i ++ (enc p.1 p.2 ++ r) := by
  refine ⟨((T.drop (i + 1)).map fun p => enc p.1 p.2).flatten, ?_⟩
  have h1 : T = T.take i ++ p :: T.drop (i + 1) := by
    obtain ⟨hl, rfl⟩ := List.getElem?_eq_some_iff.1 h
    rw [List.getElem_cons_drop hl, List.take_append_drop]
  unfold upto
  rw [List.take_length]
  conv => lhs; rw [h1]
  simp
theorem full_get {a : List Bool} {T : List (Nat × Nat)} {i : Nat} {p : Nat × Nat} (h : T[i]? = some p) :
    (upto a T (i + 1)).length = (upto a T i).length + (enc p.1 p.2).length ∧ (upto a T i).length + (enc p.1 p.2).length ≤ (upto a T T.length).length ∧
    ∀ j, j < (enc p.1 p.2).length → (upto a T T.length).getD ((upto a T i).length + j) false = (enc p.1 p.2).getD j false := by
  obtain ⟨r, hr⟩ := upto_split (a := a) h
  refine ⟨by rw [upto_succ h, List.length_append], by rw [hr]; simp only [List.length_append]; omega, fun j hj => ?_⟩
  rw [hr]
  simp only [List.getD_eq_getElem?_getD]
  rw [List.getElem?_append_right (by omega), Nat.add_sub_cancel_left, List.getElem?_append_left hj]
theorem take_get (l : List Bool) {k x : Nat} (h : x < k) : (l.take k).getD x false = l.getD x false := by
  simp only [List.getD_eq_getElem?_getD]
  rw [List.getElem?_take, if_pos h]

abbrev iv (n : Nat) : Value := .int .i64 (n : Nat)
def endsOf (a : List Bool) (T : List (Nat × Nat)) (i : Nat) : List Value := (List.range (i + 1)).map fun j => iv (upto a T j).length
theorem endsOf_zero (a : List Bool) (T : List (Nat × Nat)) : endsOf a T 0 = [iv a.length] := by simp [endsOf, upto_zero]
theorem endsOf_succ (a : List Bool) (T : List (Nat × Nat)) (i : Nat) : endsOf a T (i + 1) = endsOf a T i ++ [iv (upto a T (i + 1)).length] := by
  unfold endsOf
  rw [List.range_succ, List.map_append]
  rfl
theorem endsOf_at (a : List Bool) (T : List (Nat × Nat)) {i j : Nat} (h : j ≤ i) : (endsOf a T i)[j]? = some (iv (upto a T j).length) := by
  unfold endsOf
  rw [List.getElem?_map, List.getElem?_range (by omega)]
  rfl

theorem i64info : (Try.prog.info? 3).map (fun i => (i.zero, i.size, i.bytes)) = some (some (.int .i64 0), 1, 8) := by kernel_rfl
theorem info_partsI {P : Program} {t : TypeId} {z : Value} {s b : Nat} (h : (P.info? t).map (fun i => (i.zero, i.size, i.bytes)) = some (some z, s, b)) : ∃ i, P.info? t = some i ∧ i.zero = some z ∧ i.size = s ∧ i.bytes = b := by
  obtain ⟨i, hi, e⟩ := Option.map_eq_some_iff.1 h
  simp only [Prod.mk.injEq] at e
  exact ⟨i, hi, e.1, e.2.1, e.2.2⟩
theorem row_below {w w' : World} {base n size : Nat} {e : TypeId} {v : Value} {cs : List Value} (h : w.ownsRow base e size v n cs) (hb : Below w.heap.size w w') : w'.ownsRow base e size v n cs := by
  obtain ⟨hl, h | ⟨g, c, cur, ev, h1, h2, h3⟩⟩ := h
  · exact ⟨hl, .inl h⟩
  · exact ⟨hl, .inr ⟨g, c, cur, ev, h1, (hb.block g (lt_of_block h2)).trans h2, h3⟩⟩
theorem row_far {w : World} {base n size g cap : Nat} {e : TypeId} {cs : List Value} (h : w.ownsRow base e size (.slice (some ⟨g, 0, none⟩) n cap) n cs) {p : Addr} (hp : g ≠ p.block) (u : Value) : (w.setCell p u).ownsRow base e size (.slice (some ⟨g, 0, none⟩) n cap) n cs := by
  obtain ⟨hl, h | ⟨g', c, cur, ev, h1, h2, h3⟩⟩ := h
  · cases h.1
  · simp only [Value.slice.injEq, Option.some.injEq, Addr.mk.injEq, and_true, true_and] at ev
    obtain ⟨rfl, rfl⟩ := ev
    exact ⟨hl, .inr ⟨g, cap, cur, rfl, h1, (Below.heap_setCell w p u g hp).trans h2, h3⟩⟩
theorem row_at {w : World} {base n cap g : Nat} {e : TypeId} {cs : List Value} (h : w.ownsRow base e 1 (.slice (some ⟨g, 0, none⟩) n cap) n cs) : base ≤ g ∧ g < w.heap.size ∧ n ≤ cap ∧ (∀ q u, cs[q]? = some u → w.cell? ⟨g, q, none⟩ = some u) ∧ ∀ q, w.frozen? ⟨g, q, none⟩ = false := by
  have hc := h.cells (g := g) rfl
  have hl := h.lt g rfl
  obtain ⟨_, h | ⟨g', c, cur, e, h1, h2, h3, _⟩⟩ := h
  · cases h.1
  · simp only [Value.slice.injEq, Option.some.injEq, Addr.mk.injEq, and_true, true_and] at e
    obtain ⟨rfl, rfl⟩ := e
    refine ⟨hl.1, hl.2, h3, fun q u hq => by have := hc q u hq; rwa [add_off] at this, free_of h2⟩
theorem own_not {w : World} {g k : Nat} {l : List Bool} (h : Own w g l) (hne : g ≠ k) : RdNot w k (some ⟨g, 0, none⟩) l := fun q hq => ⟨_, rfl, h.lt, hne, by rw [add_off]; exact h.cell hq⟩
theorem rdnot_below {w w' : World} {k : Nat} {A : Option Addr} {l : List Bool} (h : RdNot w k A l) (hb : Below w.heap.size w w') : RdNot w' k A l := fun q hq => by
  obtain ⟨ad, e, hl, hn, hc⟩ := h q hq
  exact ⟨ad, e, Nat.lt_of_lt_of_le hl hb.size, hn, (hb.cell (by rw [block_add]; exact hl)).trans hc⟩
theorem rdnot_set {w : World} {k : Nat} {A : Option Addr} {l : List Bool} (h : RdNot w k A l) {p : Addr} {j : Nat} (h2 : RdNot w j A l) (hp : p.block = j) (u : Value) : RdNot (w.setCell p u) k A l := fun q hq => by
  obtain ⟨ad, e, hl, hn, hc⟩ := h q hq
  obtain ⟨ad', e', _, hn', _⟩ := h2 q hq
  rw [e] at e'
  injection e' with e'
  subst e'
  refine ⟨ad, e, by simpa [World.setCell] using hl, hn, (World.cell?_setCell_other _ _ _ _ (fun e3 => ?_)).trans hc⟩
  have := congrArg Addr.block e3
  rw [block_add] at this
  omega

/-- How it stands when i things have been put. -/
def Inv1 (a : List Bool) (T : List (Nat × Nat)) (W wr : World) (i : Nat) (v8 : Value) : Prop := ∃ (ge cape : Nat) (A : Option Addr) (c : Nat),
  v8 = .slice (some ⟨ge, 0, none⟩) (i + 1) cape ∧ wr.ownsRow (W.heap.size + 1) 3 1 v8 (i + 1) (endsOf a T i) ∧
  wr.heap[W.heap.size]? = some (.cells #[.slice A (nB (upto a T i)) c, .int .i64 ((upto a T i).length : Nat)] 24 (0, 0)) ∧
  RdNot wr W.heap.size A (upto a T i) ∧ RdNot wr ge A (upto a T i) ∧ Below W.heap.size W wr
end Go.Proofs.Ytgljaimoaijcaaa
