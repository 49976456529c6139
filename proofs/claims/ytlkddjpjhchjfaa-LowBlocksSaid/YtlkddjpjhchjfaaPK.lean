/- Pairs as the keys of maps. -/
import Derived.Test.YtlkddjpjhchjfaaRG
import Derived.WideKeyPair
import Derived.DeepKeys4
import Derived.Maps.OwnOps
import Derived.Maps.OwnSet
import Derived.Maps.Keyed
import Derived.Maps.Views
import Derived.Carry
namespace Go.Proofs.Ytlkddjpjhchjfaa
set_option maxRecDepth 100000
open Go.RowKit Go.Maps Go.WideMaps

theorem arr2 : ArrKey Try.prog 51 3 2 := ⟨Try.underlying51, by kernel_rfl, by kernel_rfl, by kernel_rfl⟩
theorem lawP : Keyed Try.prog 51 := Keyed.of_law (deep_law_laid (m := 2) (by kernel_rfl) (by omega) (of_decide_eq_true (by kernel_rfl)) (by kernel_rfl) (by kernel_rfl))
def inP (e : Int × Int) : Prop := (0 ≤ e.1 ∧ e.1 < 200) ∧ 0 ≤ e.2 ∧ e.2 < 200
def vP (e : Int × Int) : Value := .agg #[.int .i64 e.1, .int .i64 e.2]
def litP (e : Int × Int) : Lit := .string (keyBytes [.int .i64 e.1, .int .i64 e.2])
theorem keyP {e : Int × Int} (h : inP e) : keyOf Try.prog 51 (vP e) = some (litP e) := by
  obtain ⟨⟨h1, h2⟩, h3, h4⟩ := h
  exact keyOf_pair arr2 Try.underlying3 ⟨_, rfl⟩ (by simp [Lit.wf, IntKind.min, IntKind.max, IntKind.signed, IntKind.bits]; omega) (by simp [Lit.wf, IntKind.min, IntKind.max, IntKind.signed, IntKind.bits]; omega)
theorem litP_inj {e f : Int × Int} (he : inP e) (hf : inP f) (h : litP e = litP f) : e = f := by
  have := lawP.inj (keyP he) (h ▸ keyP hf)
  simp only [vP, Value.agg.injEq] at this
  have h1 := congrArg Array.toList this
  simp at h1
  exact Prod.ext h1.1 h1.2
end Go.Proofs.Ytlkddjpjhchjfaa
