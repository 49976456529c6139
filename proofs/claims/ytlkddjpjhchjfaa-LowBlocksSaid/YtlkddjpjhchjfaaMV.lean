/- A map of pairs to ints of one's own, as a function with finitely many places. -/
import Derived.Test.YtlkddjpjhchjfaaPK
import Derived.Test.YtlkddjpjhchjfaaWM
namespace Go.Proofs.Ytlkddjpjhchjfaa
set_option maxRecDepth 100000
open Go.RowKit Go.Maps Go.WideMaps

/-- A map of one's own in block b, written at most n times, that says f and has k places. -/
def MapV (w : World) (b n : Nat) (f : Int × Int → Option Int) (k : Nat) : Prop :=
  ∃ D : DataW Unit, w.ownsMap Try.prog 51 (plainElem (H := Unit) Try.prog 3) b n D ∧ (∀ e, inP e → D.atKey (litP e) (.lit (.int .i64 0)) = .lit (.int .i64 ((f e).getD 0))) ∧ (∀ e, inP e → Maps.has D (litP e) = (f e).isSome) ∧ Maps.size D = k
def updP (f : Int × Int → Option Int) (x : Int × Int) (y : Int) : Int × Int → Option Int := fun z => if z = x then some y else f z
theorem MapV.made (w : World) : MapV (w.alloc (.map #[] 0)) w.heap.size 0 (fun _ => none) 0 :=
  ⟨.map [], World.ownsMap_made _ _ _ _, fun _ _ => rfl, fun _ _ => rfl, rfl⟩
theorem MapV.same {w w' : World} {b n k : Nat} {f : Int × Int → Option Int} (h : MapV w b n f k) (hs : w'.heap[b]? = w.heap[b]?) : MapV w' b n f k := by
  obtain ⟨D, ⟨es, clock, h1, F, hs2, e⟩, h2⟩ := h
  exact ⟨D, ⟨es, clock, hs.trans h1, F, hs2, e⟩, h2⟩
theorem MapV.lt {w : World} {b n k : Nat} {f : Int × Int → Option Int} (h : MapV w b n f k) : b < w.heap.size := by
  obtain ⟨D, h1, _⟩ := h
  exact h1.lt
theorem MapV.below {w w' : World} {b n k : Nat} {f : Int × Int → Option Int} (h : MapV w b n f k) (hb : Below w.heap.size w w') : MapV w' b n f k := h.same (hb.block b h.lt)
theorem MapV.look {w : World} {b n k : Nat} {f : Int × Int → Option Int} (h : MapV w b n f k) {e : Int × Int} (he : inP e) : (Instr.lookup 45 (.map (some b)) (.agg #[.int .i64 e.1, .int .i64 e.2]) false).run Try.prog w = .ok (.int .i64 ((f e).getD 0)) w := by
  obtain ⟨D, h1, h2, _⟩ := h
  obtain ⟨c, hr, ha, _⟩ := h1.lookup_int lawP Try.underlying45 Try.underlying3 (zeroZ w) (keyP he)
  rw [h2 e he] at ha
  injection ha with ha
  injection ha with _ ha
  have hr2 : (Instr.lookup 45 (.map (some b)) (.agg #[.int .i64 e.1, .int .i64 e.2]) false).run Try.prog w = _ := hr
  rw [hr2, ha]
theorem MapV.look_ok {w : World} {b n k : Nat} {f : Int × Int → Option Int} (h : MapV w b n f k) {e : Int × Int} (he : inP e) : (Instr.lookup 45 (.map (some b)) (.agg #[.int .i64 e.1, .int .i64 e.2]) true).run Try.prog w = .ok (.tuple #[.int .i64 ((f e).getD 0), .bool (f e).isSome]) w := by
  obtain ⟨D, h1, h2, h3, _⟩ := h
  obtain ⟨v, ps, hr, hv⟩ := h1.look_ok lawP Try.underlying45 (zeroZ w) (plainElem_int Try.underlying3 (by decide)) (keyP he)
  obtain ⟨c, rfl, hc, _⟩ := plainElem_int_inv Try.underlying3 hv
  have hc := congrArg Prod.fst hc
  simp only [h2 e he] at hc
  injection hc with hc
  injection hc with _ hc
  have hr2 : (Instr.lookup 45 (.map (some b)) (.agg #[.int .i64 e.1, .int .i64 e.2]) true).run Try.prog w = _ := hr
  rw [hr2, h3 e he, hc]
theorem MapV.len {w : World} {b n k : Nat} {f : Int × Int → Option Int} (h : MapV w b n f k) (ty : TypeId) : (Builtin.len_ #[45] ty #[.map (some b)]).run Try.prog w = .ok (.int .i64 k) w := by
  obtain ⟨D, h1, _, _, h4⟩ := h
  rw [h1.len Try.underlying45 ty, h4]
theorem MapV.put {w' w : World} {b n k : Nat} {f : Int × Int → Option Int} (D : DataW Unit) (hD : w.ownsMap Try.prog 51 (plainElem (H := Unit) Try.prog 3) b n D ∧ (∀ e, inP e → D.atKey (litP e) (.lit (.int .i64 0)) = .lit (.int .i64 ((f e).getD 0))) ∧ (∀ e, inP e → Maps.has D (litP e) = (f e).isSome) ∧ Maps.size D = k)
    (x : Int × Int) (y : Int) (hx : inP x) (h : w'.ownsMap Try.prog 51 (plainElem (H := Unit) Try.prog 3) b (n + 1) (D.put (litP x) (.lit (.int .i64 y)))) : MapV w' b (n + 1) (updP f x y) (if (f x).isSome then k else k + 1) := by
  obtain ⟨h1, h2, h3, h4⟩ := hD
  refine ⟨_, h, fun z hz => ?_, fun z hz => ?_, ?_⟩
  · by_cases e : z = x
    · subst e
      unfold updP
      rw [if_pos rfl]
      exact atKey_put_same h1.isMap (by trivial) _ _
    · unfold updP
      rw [if_neg e, atKey_put_other (fun e2 => e (litP_inj hz hx e2))]
      exact h2 z hz
  · by_cases e : z = x
    · subst e
      unfold updP
      rw [if_pos rfl]
      exact has_put_same h1.isMap (by trivial) _
    · unfold updP
      rw [if_neg e, has_put_other (fun e2 => e (litP_inj hz hx e2))]
      exact h3 z hz
  · rw [size_put (h1.tidy lawP), h3 x hx, h4]
/-- 'm[e] = y' at the operation. -/
theorem wpList_putV (w : World) {ops : Array Oper} {rest : List Oper} {o : Oper} {a : Act} {Q : Exit → Act → World → Prop}
    (hg : o.guard = none) (m x v : Operand) (hop : o.op = Op.mapUpdate 45 m x v) (b n k : Nat) (f : Int × Int → Option Int)
    (hm : a.eval m = .map (some b)) (hown : MapV w b n f k) (hn : n < 1000000000) (e : Int × Int) (ky : Int) (hx : a.eval x = .agg #[.int .i64 e.1, .int .i64 e.2]) (hv : a.eval v = .int .i64 ky) (he : inP e) (h2 : inI ky)
    (hK : ∀ w', MapV w' b (n + 1) (updP f e ky) (if (f e).isSome then k else k + 1) → w.grownBy w' (some b) → wpList Try.prog ops Q rest (a.put o.dst undef) w') :
    wpList Try.prog ops Q (o :: rest) a w := by
  obtain ⟨D, hD⟩ := hown
  exact wpList_mapUpdate_own w hg m x v 45 hop 51 3 lawP Try.underlying45 _ b n D hm hD.1 (by unfold maxLen; omega) _ _ _ hx hv (keyP he) _ [] (plainElem_int Try.underlying3 (wfZ h2))
    (fun w' h3 h4 => hK w' (MapV.put D hD e ky he h3) h4)
end Go.Proofs.Ytlkddjpjhchjfaa
