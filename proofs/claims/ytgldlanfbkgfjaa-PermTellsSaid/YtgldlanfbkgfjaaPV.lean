/- A set of pairs of one's own (map[[2]int]struct{}); graph.New where all is right (layer 3). -/
import Derived.Test.YtgldlanfbkgfjaaPU
import Derived.Test.YtgldlanfbkgfjaaW29
import Derived.WideKeyPair
import Derived.DeepKeys4
import Derived.Maps.OwnOps
import Derived.Maps.OwnSet
import Derived.Maps.Views
import Derived.Carry
import Derived.Deep.AppendLies
namespace Go.Proofs.Ytgldlanfbkgfjaa
open Go.RowKit Go.Maps Go.WideMaps

theorem arr2 : ArrKey Try.prog 56 3 2 := ⟨Try.underlying56, by kernel_rfl, by kernel_rfl, by kernel_rfl⟩
theorem lawP : Keyed Try.prog 56 := Keyed.of_law (deep_law_laid (m := 2) (by kernel_rfl) (by omega) (of_decide_eq_true (by kernel_rfl)) (by kernel_rfl) (by kernel_rfl))
def inP (e : Int × Int) : Prop := (0 ≤ e.1 ∧ e.1 < 200) ∧ 0 ≤ e.2 ∧ e.2 < 200
def vP (e : Int × Int) : Value := .agg #[.int .i64 e.1, .int .i64 e.2]
def litP (e : Int × Int) : Lit := .string (keyBytes [.int .i64 e.1, .int .i64 e.2])
theorem keyP {e : Int × Int} (h : inP e) : keyOf Try.prog 56 (vP e) = some (litP e) := by
  obtain ⟨⟨h1, h2⟩, h3, h4⟩ := h
  exact keyOf_pair arr2 Try.underlying3 ⟨_, rfl⟩ (by simp [Lit.wf, IntKind.min, IntKind.max, IntKind.signed, IntKind.bits]; omega) (by simp [Lit.wf, IntKind.min, IntKind.max, IntKind.signed, IntKind.bits]; omega)
theorem litP_inj {e f : Int × Int} (he : inP e) (hf : inP f) (h : litP e = litP f) : e = f := by
  have := lawP.inj (keyP he) (h ▸ keyP hf)
  simp only [vP, Value.agg.injEq] at this
  have h1 := congrArg Array.toList this
  simp at h1
  exact Prod.ext h1.1 h1.2
theorem zeroU (w : World) : (zeroValue 70).run Try.prog w = .ok (.agg #[]) w := by kernel_rfl
/-- A set of pairs in block b, written n times. -/
def SetP (w : World) (b n : Nat) (S : List (Int × Int)) : Prop :=
  ∃ D : DataW Unit, w.ownsMap Try.prog 56 (unitElem (H := Unit)) b n D ∧ ∀ e, inP e → Maps.has D (litP e) = decide (e ∈ S)
theorem SetP.made (w : World) : SetP (w.alloc (.map #[] 0)) w.heap.size 0 [] := ⟨.map [], World.ownsMap_made _ _ _ _, fun _ _ => rfl⟩
theorem SetP.below {w w' : World} {b n : Nat} {S : List (Int × Int)} (h : SetP w b n S) (hb : Below w.heap.size w w') : SetP w' b n S := by
  obtain ⟨D, ⟨es, clock, h1, F, hs, e⟩, h2⟩ := h
  exact ⟨D, ⟨es, clock, (hb.block b (lt_of_block h1)).trans h1, F, hs, e⟩, h2⟩
theorem SetP.lt {w : World} {b n : Nat} {S : List (Int × Int)} (h : SetP w b n S) : b < w.heap.size := by
  obtain ⟨D, h1, _⟩ := h
  exact h1.lt
theorem SetP.set {w : World} {b n : Nat} {S : List (Int × Int)} (h : SetP w b n S) {a : Addr} (ha : b ≠ a.block) (u : Value) : SetP (w.setCell a u) b n S := by
  obtain ⟨D, h1, h2⟩ := h
  exact ⟨D, h1.setCell ha u, h2⟩
theorem SetP.kept {w w' : World} {b n : Nat} {S : List (Int × Int)} {row : Option Nat} (h : SetP w b n S) (hg : w.grownBy w' row) (hne : some b ≠ row) : SetP w' b n S := by
  obtain ⟨D, h1, h2⟩ := h
  exact ⟨D, h1.kept hg hne, h2⟩
theorem SetP.put {w w' : World} {b n : Nat} {S : List (Int × Int)} {D : DataW Unit} (h : w.ownsMap Try.prog 56 (unitElem (H := Unit)) b n D) (h2 : ∀ e, inP e → Maps.has D (litP e) = decide (e ∈ S)) {e : Int × Int} (he : inP e)
    (hr : w'.ownsMap Try.prog 56 (unitElem (H := Unit)) b (n + 1) (D.put (litP e) (.agg []))) : SetP w' b (n + 1) (S ++ [e]) := by
  refine ⟨_, hr, fun f hf => ?_⟩
  by_cases e1 : f = e
  · subst e1
    rw [has_put_same h.isMap (by trivial)]
    simp
  · rw [has_put_other (fun e2 => e1 (litP_inj hf he e2)), h2 f hf]
    simp [e1]
/-- 'met[e] = struct{}{}' at the operation. -/
theorem wpList_putP (w : World) {ops : Array Oper} {rest : List Oper} {o : Oper} {a : Act} {Q : Exit → Act → World → Prop}
    (hg : o.guard = none) (m x v : Operand) (hop : o.op = Op.mapUpdate 69 m x v) (b n : Nat) (S : List (Int × Int))
    (hm : a.eval m = .map (some b)) (hown : SetP w b n S) (hn : n < 1000000000) (e : Int × Int) (hx : a.eval x = vP e) (hv : a.eval v = .agg #[]) (he : inP e)
    (hK : ∀ w', SetP w' b (n + 1) (S ++ [e]) → w.grownBy w' (some b) → wpList Try.prog ops Q rest (a.put o.dst undef) w') :
    wpList Try.prog ops Q (o :: rest) a w := by
  obtain ⟨D, h1, h2⟩ := hown
  exact wpList_mapUpdate_own w hg m x v 69 hop 56 70 lawP Try.underlying69 _ b n D hm h1 (by unfold maxLen; omega) _ _ _ hx hv (keyP he) (.agg []) [] unitElem_mk
    (fun w' h3 h4 => hK w' (SetP.put h1 h2 he h3) h4)
/-- '_, twice := met[e]' at the operation. -/
theorem wpList_lookP (w : World) {ops : Array Oper} {rest : List Oper} {o : Oper} {a : Act} {Q : Exit → Act → World → Prop}
    (hg : o.guard = none) (m x : Operand) (hop : o.op = Op.lookup 69 m x true) (b n : Nat) (S : List (Int × Int))
    (hm : a.eval m = .map (some b)) (hown : SetP w b n S) (e : Int × Int) (hx : a.eval x = vP e) (he : inP e)
    (hK : wpList Try.prog ops Q rest (a.put o.dst (.tuple #[.agg #[], .bool (decide (e ∈ S))])) w) :
    wpList Try.prog ops Q (o :: rest) a w := by
  obtain ⟨D, h1, h2⟩ := hown
  refine wpList_lookup_own_unit w hg m x 69 hop 56 70 lawP Try.underlying69 (zeroU w) b n D hm h1 _ _ hx (keyP he) ?_
  rw [h2 e he]
  exact hK
end Go.Proofs.Ytgldlanfbkgfjaa
