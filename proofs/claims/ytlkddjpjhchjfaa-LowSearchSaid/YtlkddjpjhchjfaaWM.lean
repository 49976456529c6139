/- A map of ints to ints of one's own, as a function with finitely many places. -/
import Derived.Test.YtlkddjpjhchjfaaRG
import Derived.Maps.OwnOps
import Derived.Maps.OwnSet
import Derived.Maps.Keyed
import Derived.Maps.Views
import Derived.Carry
namespace Go.Proofs.Ytlkddjpjhchjfaa
set_option maxRecDepth 100000
open Go.RowKit Go.Maps

theorem keyZ : Keyed Try.prog 3 := int_keyed Try.underlying3
theorem zeroZ (w : World) : (zeroValue 3).run Try.prog w = .ok (.int .i64 0) w := by kernel_rfl
def inI (x : Int) : Prop := -9223372036854775808 ≤ x ∧ x ≤ 9223372036854775807
theorem wfZ {x : Int} (h : inI x) : (Lit.int .i64 x).wf = true := by
  unfold inI at h
  simp [Lit.wf, IntKind.min, IntKind.max, IntKind.signed, IntKind.bits]
  omega
theorem keyOfZ {x : Int} (h : inI x) : keyOf Try.prog 3 (.int .i64 x) = some (.int .i64 x) := keyOf_int_mk Try.underlying3 (wfZ h)
/-- A map of one's own in block b, written at most n times, that says f and has k places. -/
def MapZ (w : World) (b n : Nat) (f : Int → Option Int) (k : Nat) : Prop :=
  ∃ D : DataW Unit, w.ownsMap Try.prog 3 (plainElem (H := Unit) Try.prog 3) b n D ∧ (∀ x, D.atKey (.int .i64 x) (.lit (.int .i64 0)) = .lit (.int .i64 ((f x).getD 0))) ∧ (∀ x, Maps.has D (.int .i64 x) = (f x).isSome) ∧ Maps.size D = k
def upd (f : Int → Option Int) (x y : Int) : Int → Option Int := fun z => if z = x then some y else f z
theorem upd_same (f : Int → Option Int) (x y : Int) : upd f x y x = some y := by simp [upd]
theorem upd_other {f : Int → Option Int} {x y z : Int} (h : z ≠ x) : upd f x y z = f z := by simp [upd, h]
theorem MapZ.made (w : World) : MapZ (w.alloc (.map #[] 0)) w.heap.size 0 (fun _ => none) 0 :=
  ⟨.map [], World.ownsMap_made _ _ _ _, fun _ => rfl, fun _ => rfl, rfl⟩
theorem MapZ.below {w w' : World} {b n k : Nat} {f : Int → Option Int} (h : MapZ w b n f k) (hb : Below w.heap.size w w') : MapZ w' b n f k := by
  obtain ⟨D, ⟨es, clock, h1, F, hs, e⟩, h2⟩ := h
  exact ⟨D, ⟨es, clock, (hb.block b (lt_of_block h1)).trans h1, F, hs, e⟩, h2⟩
theorem MapZ.kept {w w' : World} {b n k : Nat} {f : Int → Option Int} {row : Option Nat} (h : MapZ w b n f k) (hg : w.grownBy w' row) (hne : some b ≠ row) : MapZ w' b n f k := by
  obtain ⟨D, h1, h2⟩ := h
  exact ⟨D, h1.kept hg hne, h2⟩
theorem MapZ.set {w : World} {b n k : Nat} {f : Int → Option Int} (h : MapZ w b n f k) {a : Addr} (ha : b ≠ a.block) (u : Value) : MapZ (w.setCell a u) b n f k := by
  obtain ⟨D, h1, h2⟩ := h
  exact ⟨D, h1.setCell ha u, h2⟩
theorem MapZ.drewN {w : World} {b n k : Nat} {f : Int → Option Int} (h : MapZ w b n f k) (q : Nat) : MapZ (w.drewN q) b n f k := h
theorem MapZ.lt {w : World} {b n k : Nat} {f : Int → Option Int} (h : MapZ w b n f k) : b < w.heap.size := by
  obtain ⟨D, h1, _⟩ := h
  exact h1.lt
theorem MapZ.look {w : World} {b n k : Nat} {f : Int → Option Int} (h : MapZ w b n f k) {x : Int} (hx : inI x) : (Instr.lookup 55 (.map (some b)) (.int .i64 x) false).run Try.prog w = .ok (.int .i64 ((f x).getD 0)) w := by
  obtain ⟨D, h1, h2, _⟩ := h
  obtain ⟨c, hr, ha, _⟩ := h1.lookup_int keyZ Try.underlying55 Try.underlying3 (zeroZ w) (keyOfZ hx)
  rw [h2 x] at ha
  injection ha with ha
  injection ha with _ ha
  rw [hr, ha]
theorem MapZ.look_ok {w : World} {b n k : Nat} {f : Int → Option Int} (h : MapZ w b n f k) {x : Int} (hx : inI x) : (Instr.lookup 55 (.map (some b)) (.int .i64 x) true).run Try.prog w = .ok (.tuple #[.int .i64 ((f x).getD 0), .bool (f x).isSome]) w := by
  obtain ⟨D, h1, h2, h3, _⟩ := h
  obtain ⟨v, ps, hr, hv⟩ := h1.look_ok keyZ Try.underlying55 (zeroZ w) (plainElem_int Try.underlying3 (by decide)) (keyOfZ hx)
  obtain ⟨c, rfl, hc, _⟩ := plainElem_int_inv Try.underlying3 hv
  have hc := congrArg Prod.fst hc
  simp only [h2 x] at hc
  injection hc with hc
  injection hc with _ hc
  rw [hr, h3 x, hc]
theorem MapZ.len {w : World} {b n k : Nat} {f : Int → Option Int} (h : MapZ w b n f k) (ty : TypeId) : (Builtin.len_ #[55] ty #[.map (some b)]).run Try.prog w = .ok (.int .i64 k) w := by
  obtain ⟨D, h1, _, _, h4⟩ := h
  rw [h1.len Try.underlying55 ty, h4]
theorem MapZ.put {w' w : World} {b n k : Nat} {f : Int → Option Int} (D : DataW Unit) (hD : w.ownsMap Try.prog 3 (plainElem (H := Unit) Try.prog 3) b n D ∧ (∀ x, D.atKey (.int .i64 x) (.lit (.int .i64 0)) = .lit (.int .i64 ((f x).getD 0))) ∧ (∀ x, Maps.has D (.int .i64 x) = (f x).isSome) ∧ Maps.size D = k)
    (x y : Int) (h : w'.ownsMap Try.prog 3 (plainElem (H := Unit) Try.prog 3) b (n + 1) (D.put (.int .i64 x) (.lit (.int .i64 y)))) : MapZ w' b (n + 1) (upd f x y) (if (f x).isSome then k else k + 1) := by
  obtain ⟨h1, h2, h3, h4⟩ := hD
  refine ⟨_, h, fun z => ?_, fun z => ?_, ?_⟩
  · by_cases e : z = x
    · subst e
      rw [upd_same]
      exact atKey_put_same h1.isMap (by trivial) _ _
    · rw [upd_other e, atKey_put_other (fun e2 => by injection e2 with _ e2; exact e e2)]
      exact h2 z
  · by_cases e : z = x
    · subst e
      rw [upd_same]
      exact has_put_same h1.isMap (by trivial) _
    · rw [upd_other e, has_put_other (fun e2 => by injection e2 with _ e2; exact e e2)]
      exact h3 z
  · rw [size_put (h1.tidy keyZ), h3 x, h4]
/-- 'm[x] = y' at the operation. -/
theorem wpList_putZ (w : World) {ops : Array Oper} {rest : List Oper} {o : Oper} {a : Act} {Q : Exit → Act → World → Prop}
    (hg : o.guard = none) (m x v : Operand) (hop : o.op = Op.mapUpdate 55 m x v) (b n k : Nat) (f : Int → Option Int)
    (hm : a.eval m = .map (some b)) (hown : MapZ w b n f k) (hn : n < 1000000000) (kx ky : Int) (hx : a.eval x = .int .i64 kx) (hv : a.eval v = .int .i64 ky) (h1 : inI kx) (h2 : inI ky)
    (hK : ∀ w', MapZ w' b (n + 1) (upd f kx ky) (if (f kx).isSome then k else k + 1) → w.grownBy w' (some b) → wpList Try.prog ops Q rest (a.put o.dst undef) w') :
    wpList Try.prog ops Q (o :: rest) a w := by
  obtain ⟨D, hD⟩ := hown
  exact wpList_mapUpdate_own w hg m x v 55 hop 3 3 keyZ Try.underlying55 _ b n D hm hD.1 (by unfold maxLen; omega) _ _ _ hx hv (keyOfZ h1) _ [] (plainElem_int Try.underlying3 (wfZ h2))
    (fun w' h3 h4 => hK w' (MapZ.put D hD kx ky h3) h4)
end Go.Proofs.Ytlkddjpjhchjfaa
