/-
  No cell of these rows narrows 'for every input' (looked for: loops, veiled, ifaces, maps, wideKeys, modest, calm, conditions, laid).
  DERIVED. THE GIVEN ROWS OF THIS SEAT. 9 by the template 'for every input the law returns true; each argument reads behind the call as it read before'; 0 by the template 'total and deterministic' (their statements: YtlkddjpjhchjfaaTotals.lean).
  GIVEN WITH THE SEED: the statements are not yours to turn. If you find one false, say at which input.
  Laid BY PROGRAM, IN A SANDBOX (cutbox-rows.mjs): the forced cells as the released guide's own fill.sh prints them over the translation 94261adba99d7948… (all of the seat's roots in one cut). By AI agents, Wed Nov 11 2026. No macro, syntax, notation, axiom, sorry.
-/
import Derived.Test.YtlkddjpjhchjfaaChecked
import GoSem.Claim
import GoSem.ClaimJoined
import GoSem.ClaimMapViews
import Derived.JoinedTies
import Derived.KernelRfl
namespace Go.Proofs.Ytlkddjpjhchjfaa
/- THE CELL 'sum', in the pinned program and in every row, IS THE sha256 OF THE DUMP (.gsa) THAT YtlkddjpjhchjfaaProg.lean LOADS. Nothing in Lean hashes anything: it is a label: what it is worth is what the hold of that sum in a sandbox is worth. -/
noncomputable def Try.pinned : Pinned := { name := "ytlkddjpjhchjfaa", sum := "94261adba99d7948d9cd96c686f0b234854263ce01c60eacea49193682a26c2c", checked := Try.checked }
namespace Rows
def none {H : Type} : Left H := { results := [], args := [] }

/-- 'fretworklaw05.LowTells': WHATEVER THE INPUT: true; the input reads as it did. -/
def lowTellsSpec : ChangeSpec := { name := "lowTells", fn := fun _ => fun
  | [d] => { results := [.lit (.bool true)], args := [d] }
  | _ => none }
def lowTellsRow : OpenClaim := { program := "ytlkddjpjhchjfaa", sum := "94261adba99d7948d9cd96c686f0b234854263ce01c60eacea49193682a26c2c", func := "fretwork/fretworklaw05.LowTells", spec := "lowTells", unfollowed := true, recurses := true, plainKeys := false, apart := false }
def LowTellsSaid : Prop := lowTellsRow.holds Try.pinned (OpenSpec.ofChange lowTellsSpec)

/-- ITS FALSE NEIGHBOUR: 'it returns false'. Refute it at one input. -/
def lowTellsWrong : ChangeSpec := { name := "lowTells", fn := fun _ => fun
  | [d] => { results := [.lit (.bool false)], args := [d] }
  | _ => none }
def LowTellsWrongFalsely : Prop := lowTellsRow.holds Try.pinned (OpenSpec.ofChange lowTellsWrong)

/-- 'fretworklaw05.LowBlocks': WHATEVER THE INPUT: true; the input reads as it did. -/
def lowBlocksSpec : ChangeSpec := { name := "lowBlocks", fn := fun _ => fun
  | [d] => { results := [.lit (.bool true)], args := [d] }
  | _ => none }
def lowBlocksRow : OpenClaim := { program := "ytlkddjpjhchjfaa", sum := "94261adba99d7948d9cd96c686f0b234854263ce01c60eacea49193682a26c2c", func := "fretwork/fretworklaw05.LowBlocks", spec := "lowBlocks", unfollowed := true, recurses := true, plainKeys := false, apart := false }
def LowBlocksSaid : Prop := lowBlocksRow.holds Try.pinned (OpenSpec.ofChange lowBlocksSpec)

/-- ITS FALSE NEIGHBOUR: 'it returns false'. Refute it at one input. -/
def lowBlocksWrong : ChangeSpec := { name := "lowBlocks", fn := fun _ => fun
  | [d] => { results := [.lit (.bool false)], args := [d] }
  | _ => none }
def LowBlocksWrongFalsely : Prop := lowBlocksRow.holds Try.pinned (OpenSpec.ofChange lowBlocksWrong)

/-- 'fretworklaw05.LowCuts': WHATEVER THE INPUT: true; the input reads as it did. -/
def lowCutsSpec : ChangeSpec := { name := "lowCuts", fn := fun _ => fun
  | [d] => { results := [.lit (.bool true)], args := [d] }
  | _ => none }
def lowCutsRow : OpenClaim := { program := "ytlkddjpjhchjfaa", sum := "94261adba99d7948d9cd96c686f0b234854263ce01c60eacea49193682a26c2c", func := "fretwork/fretworklaw05.LowCuts", spec := "lowCuts", unfollowed := true, recurses := true, plainKeys := false, apart := false }
def LowCutsSaid : Prop := lowCutsRow.holds Try.pinned (OpenSpec.ofChange lowCutsSpec)

/-- ITS FALSE NEIGHBOUR: 'it returns false'. Refute it at one input. -/
def lowCutsWrong : ChangeSpec := { name := "lowCuts", fn := fun _ => fun
  | [d] => { results := [.lit (.bool false)], args := [d] }
  | _ => none }
def LowCutsWrongFalsely : Prop := lowCutsRow.holds Try.pinned (OpenSpec.ofChange lowCutsWrong)

/-- 'fretworklaw05.LowBridges': WHATEVER THE INPUT: true; the input reads as it did. -/
def lowBridgesSpec : ChangeSpec := { name := "lowBridges", fn := fun _ => fun
  | [d] => { results := [.lit (.bool true)], args := [d] }
  | _ => none }
def lowBridgesRow : OpenClaim := { program := "ytlkddjpjhchjfaa", sum := "94261adba99d7948d9cd96c686f0b234854263ce01c60eacea49193682a26c2c", func := "fretwork/fretworklaw05.LowBridges", spec := "lowBridges", unfollowed := true, recurses := true, plainKeys := false, apart := false }
def LowBridgesSaid : Prop := lowBridgesRow.holds Try.pinned (OpenSpec.ofChange lowBridgesSpec)

/-- ITS FALSE NEIGHBOUR: 'it returns false'. Refute it at one input. -/
def lowBridgesWrong : ChangeSpec := { name := "lowBridges", fn := fun _ => fun
  | [d] => { results := [.lit (.bool false)], args := [d] }
  | _ => none }
def LowBridgesWrongFalsely : Prop := lowBridgesRow.holds Try.pinned (OpenSpec.ofChange lowBridgesWrong)

/-- 'fretworklaw05.LowForest': WHATEVER THE INPUT: true; the input reads as it did. -/
def lowForestSpec : ChangeSpec := { name := "lowForest", fn := fun _ => fun
  | [d] => { results := [.lit (.bool true)], args := [d] }
  | _ => none }
def lowForestRow : OpenClaim := { program := "ytlkddjpjhchjfaa", sum := "94261adba99d7948d9cd96c686f0b234854263ce01c60eacea49193682a26c2c", func := "fretwork/fretworklaw05.LowForest", spec := "lowForest", unfollowed := true, recurses := true, plainKeys := false, apart := false }
def LowForestSaid : Prop := lowForestRow.holds Try.pinned (OpenSpec.ofChange lowForestSpec)

/-- ITS FALSE NEIGHBOUR: 'it returns false'. Refute it at one input. -/
def lowForestWrong : ChangeSpec := { name := "lowForest", fn := fun _ => fun
  | [d] => { results := [.lit (.bool false)], args := [d] }
  | _ => none }
def LowForestWrongFalsely : Prop := lowForestRow.holds Try.pinned (OpenSpec.ofChange lowForestWrong)

/-- 'fretworklaw05.LowSearch': WHATEVER THE INPUT: true; the input reads as it did. -/
def lowSearchSpec : ChangeSpec := { name := "lowSearch", fn := fun _ => fun
  | [d] => { results := [.lit (.bool true)], args := [d] }
  | _ => none }
def lowSearchRow : OpenClaim := { program := "ytlkddjpjhchjfaa", sum := "94261adba99d7948d9cd96c686f0b234854263ce01c60eacea49193682a26c2c", func := "fretwork/fretworklaw05.LowSearch", spec := "lowSearch", unfollowed := true, recurses := true, plainKeys := false, apart := false }
def LowSearchSaid : Prop := lowSearchRow.holds Try.pinned (OpenSpec.ofChange lowSearchSpec)

/-- ITS FALSE NEIGHBOUR: 'it returns false'. Refute it at one input. -/
def lowSearchWrong : ChangeSpec := { name := "lowSearch", fn := fun _ => fun
  | [d] => { results := [.lit (.bool false)], args := [d] }
  | _ => none }
def LowSearchWrongFalsely : Prop := lowSearchRow.holds Try.pinned (OpenSpec.ofChange lowSearchWrong)

/-- 'fretworklaw05.LowNames': WHATEVER THE INPUT: true; the input reads as it did. -/
def lowNamesSpec : ChangeSpec := { name := "lowNames", fn := fun _ => fun
  | [d1, d2] => { results := [.lit (.bool true)], args := [d1, d2] }
  | _ => none }
def lowNamesRow : OpenClaim := { program := "ytlkddjpjhchjfaa", sum := "94261adba99d7948d9cd96c686f0b234854263ce01c60eacea49193682a26c2c", func := "fretwork/fretworklaw05.LowNames", spec := "lowNames", unfollowed := true, recurses := true, plainKeys := false, apart := false }
def LowNamesSaid : Prop := lowNamesRow.holds Try.pinned (OpenSpec.ofChange lowNamesSpec)

/-- ITS FALSE NEIGHBOUR: 'it returns false'. Refute it at one input. -/
def lowNamesWrong : ChangeSpec := { name := "lowNames", fn := fun _ => fun
  | [d1, d2] => { results := [.lit (.bool false)], args := [d1, d2] }
  | _ => none }
def LowNamesWrongFalsely : Prop := lowNamesRow.holds Try.pinned (OpenSpec.ofChange lowNamesWrong)

/-- 'fretworklaw05.LowLong': WHATEVER THE INPUT: true; the input reads as it did. -/
def lowLongSpec : ChangeSpec := { name := "lowLong", fn := fun _ => fun
  | [d] => { results := [.lit (.bool true)], args := [d] }
  | _ => none }
def lowLongRow : OpenClaim := { program := "ytlkddjpjhchjfaa", sum := "94261adba99d7948d9cd96c686f0b234854263ce01c60eacea49193682a26c2c", func := "fretwork/fretworklaw05.LowLong", spec := "lowLong", unfollowed := true, recurses := true, plainKeys := false, apart := false }
def LowLongSaid : Prop := lowLongRow.holds Try.pinned (OpenSpec.ofChange lowLongSpec)

/-- ITS FALSE NEIGHBOUR: 'it returns false'. Refute it at one input. -/
def lowLongWrong : ChangeSpec := { name := "lowLong", fn := fun _ => fun
  | [d] => { results := [.lit (.bool false)], args := [d] }
  | _ => none }
def LowLongWrongFalsely : Prop := lowLongRow.holds Try.pinned (OpenSpec.ofChange lowLongWrong)

/-- 'fretworklaw08.BridgeTwo': WHATEVER THE INPUT: true; the input reads as it did. -/
def bridgeTwoSpec : ChangeSpec := { name := "bridgeTwo", fn := fun _ => fun
  | [d1, d2] => { results := [.lit (.bool true)], args := [d1, d2] }
  | _ => none }
def bridgeTwoRow : OpenClaim := { program := "ytlkddjpjhchjfaa", sum := "94261adba99d7948d9cd96c686f0b234854263ce01c60eacea49193682a26c2c", func := "fretwork/fretworklaw08.BridgeTwo", spec := "bridgeTwo", unfollowed := true, recurses := true, plainKeys := false, apart := false }
def BridgeTwoSaid : Prop := bridgeTwoRow.holds Try.pinned (OpenSpec.ofChange bridgeTwoSpec)

/-- ITS FALSE NEIGHBOUR: 'it returns false'. Refute it at one input. -/
def bridgeTwoWrong : ChangeSpec := { name := "bridgeTwo", fn := fun _ => fun
  | [d1, d2] => { results := [.lit (.bool false)], args := [d1, d2] }
  | _ => none }
def BridgeTwoWrongFalsely : Prop := bridgeTwoRow.holds Try.pinned (OpenSpec.ofChange bridgeTwoWrong)

/- THE SECOND FORM. 'bulk': how many values and letters a reading holds, each counted each time it is reached (what is shared counts as often as it is met; a slice's spare places count too). A statement '..UptoSaid' is the law's where the arguments, and the package variables that the reading takes, are together of bulk at most 1048576: NARROWER than '..Said'. Prove '..Said' where nothing that the law and all that it calls make is longer than what came in: it says more and counts as full. Else prove '..UptoSaid'. A law counts once. -/
mutual
def uptoBulk {H : Type} : DataW H → Nat
  | .lit (.string bytes) => bytes.length + 1
  | .lit _ => 1
  | .nil => 1
  | .ptr d => uptoBulk d + 1
  | .slice elems spare => uptoBulkAll elems + uptoBulkAll spare + 1
  | .agg parts => uptoBulkAll parts + 1
  | .iface _ d => uptoBulk d + 1
  | .map entries => uptoBulkEntries entries + 1
  | .held _ => 1
def uptoBulkAll {H : Type} : List (DataW H) → Nat
  | [] => 0
  | d :: r => uptoBulk d + uptoBulkAll r
def uptoBulkEntries {H : Type} : List (Lit × DataW H) → Nat
  | [] => 0
  | x :: r => uptoBulkEntry x + uptoBulkEntries r
def uptoBulkEntry {H : Type} : Lit × DataW H → Nat
  | (.string bytes, d) => bytes.length + uptoBulk d + 1
  | (_, d) => uptoBulk d + 1
 end
def uptoSmall : (H : Type) → List (DataW H) → Bool := fun _ ds => decide (uptoBulkAll ds ≤ 1048576)
def OpenSpec.upto (s : _root_.Go.ChangeSpec) : _root_.Go.OpenSpec := { _root_.Go.OpenSpec.ofChange s with cond := some uptoSmall }

/-- 'fretworklaw05.LowTells', WHERE WHAT IT READS IS OF BULK AT MOST 1048576: true; the input reads as it did. -/
def lowTellsUptoRow : OpenClaim := { program := "ytlkddjpjhchjfaa", sum := "94261adba99d7948d9cd96c686f0b234854263ce01c60eacea49193682a26c2c", func := "fretwork/fretworklaw05.LowTells", spec := "lowTells", unfollowed := true, recurses := true, plainKeys := false, apart := false, narrowed := true }
def LowTellsUptoSaid : Prop := lowTellsUptoRow.holds Try.pinned (OpenSpec.upto lowTellsSpec)

/-- 'fretworklaw05.LowBlocks', WHERE WHAT IT READS IS OF BULK AT MOST 1048576: true; the input reads as it did. -/
def lowBlocksUptoRow : OpenClaim := { program := "ytlkddjpjhchjfaa", sum := "94261adba99d7948d9cd96c686f0b234854263ce01c60eacea49193682a26c2c", func := "fretwork/fretworklaw05.LowBlocks", spec := "lowBlocks", unfollowed := true, recurses := true, plainKeys := false, apart := false, narrowed := true }
def LowBlocksUptoSaid : Prop := lowBlocksUptoRow.holds Try.pinned (OpenSpec.upto lowBlocksSpec)

/-- 'fretworklaw05.LowCuts', WHERE WHAT IT READS IS OF BULK AT MOST 1048576: true; the input reads as it did. -/
def lowCutsUptoRow : OpenClaim := { program := "ytlkddjpjhchjfaa", sum := "94261adba99d7948d9cd96c686f0b234854263ce01c60eacea49193682a26c2c", func := "fretwork/fretworklaw05.LowCuts", spec := "lowCuts", unfollowed := true, recurses := true, plainKeys := false, apart := false, narrowed := true }
def LowCutsUptoSaid : Prop := lowCutsUptoRow.holds Try.pinned (OpenSpec.upto lowCutsSpec)

/-- 'fretworklaw05.LowBridges', WHERE WHAT IT READS IS OF BULK AT MOST 1048576: true; the input reads as it did. -/
def lowBridgesUptoRow : OpenClaim := { program := "ytlkddjpjhchjfaa", sum := "94261adba99d7948d9cd96c686f0b234854263ce01c60eacea49193682a26c2c", func := "fretwork/fretworklaw05.LowBridges", spec := "lowBridges", unfollowed := true, recurses := true, plainKeys := false, apart := false, narrowed := true }
def LowBridgesUptoSaid : Prop := lowBridgesUptoRow.holds Try.pinned (OpenSpec.upto lowBridgesSpec)

/-- 'fretworklaw05.LowForest', WHERE WHAT IT READS IS OF BULK AT MOST 1048576: true; the input reads as it did. -/
def lowForestUptoRow : OpenClaim := { program := "ytlkddjpjhchjfaa", sum := "94261adba99d7948d9cd96c686f0b234854263ce01c60eacea49193682a26c2c", func := "fretwork/fretworklaw05.LowForest", spec := "lowForest", unfollowed := true, recurses := true, plainKeys := false, apart := false, narrowed := true }
def LowForestUptoSaid : Prop := lowForestUptoRow.holds Try.pinned (OpenSpec.upto lowForestSpec)

/-- 'fretworklaw05.LowSearch', WHERE WHAT IT READS IS OF BULK AT MOST 1048576: true; the input reads as it did. -/
def lowSearchUptoRow : OpenClaim := { program := "ytlkddjpjhchjfaa", sum := "94261adba99d7948d9cd96c686f0b234854263ce01c60eacea49193682a26c2c", func := "fretwork/fretworklaw05.LowSearch", spec := "lowSearch", unfollowed := true, recurses := true, plainKeys := false, apart := false, narrowed := true }
def LowSearchUptoSaid : Prop := lowSearchUptoRow.holds Try.pinned (OpenSpec.upto lowSearchSpec)

/-- 'fretworklaw05.LowNames', WHERE WHAT IT READS IS OF BULK AT MOST 1048576: true; the input reads as it did. -/
def lowNamesUptoRow : OpenClaim := { program := "ytlkddjpjhchjfaa", sum := "94261adba99d7948d9cd96c686f0b234854263ce01c60eacea49193682a26c2c", func := "fretwork/fretworklaw05.LowNames", spec := "lowNames", unfollowed := true, recurses := true, plainKeys := false, apart := false, narrowed := true }
def LowNamesUptoSaid : Prop := lowNamesUptoRow.holds Try.pinned (OpenSpec.upto lowNamesSpec)

/-- 'fretworklaw05.LowLong', WHERE WHAT IT READS IS OF BULK AT MOST 1048576: true; the input reads as it did. -/
def lowLongUptoRow : OpenClaim := { program := "ytlkddjpjhchjfaa", sum := "94261adba99d7948d9cd96c686f0b234854263ce01c60eacea49193682a26c2c", func := "fretwork/fretworklaw05.LowLong", spec := "lowLong", unfollowed := true, recurses := true, plainKeys := false, apart := false, narrowed := true }
def LowLongUptoSaid : Prop := lowLongUptoRow.holds Try.pinned (OpenSpec.upto lowLongSpec)

/-- 'fretworklaw08.BridgeTwo', WHERE WHAT IT READS IS OF BULK AT MOST 1048576: true; the input reads as it did. -/
def bridgeTwoUptoRow : OpenClaim := { program := "ytlkddjpjhchjfaa", sum := "94261adba99d7948d9cd96c686f0b234854263ce01c60eacea49193682a26c2c", func := "fretwork/fretworklaw08.BridgeTwo", spec := "bridgeTwo", unfollowed := true, recurses := true, plainKeys := false, apart := false, narrowed := true }
def BridgeTwoUptoSaid : Prop := bridgeTwoUptoRow.holds Try.pinned (OpenSpec.upto bridgeTwoSpec)

end Rows
end Go.Proofs.Ytlkddjpjhchjfaa
