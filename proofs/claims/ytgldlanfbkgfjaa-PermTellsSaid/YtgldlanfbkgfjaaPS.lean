/- slices.SortFunc at pairs of ints: what the library's law asks of this program, laid by hand; graph.compare, with the world that it leaves (layer 3). -/
import Derived.Test.YtgldlanfbkgfjaaW1
import Derived.Shelf.SlSortCmp.WholeK
namespace Go.Proofs.Ytgldlanfbkgfjaa
open Go.RowKit

def srt : Go.Shelf.Ren where
  f := fun x => match x with
    | 6 => 47
    | 15 => 51
    | 14 => 50
    | 28 => 61
    | 29 => 62
    | 20 => 53
    | 21 => 54
    | 22 => 55
    | 23 => 56
    | 24 => 57
    | 25 => 58
    | 26 => 59
    | 27 => 60
    | 46 => 63
    | 47 => 64
    | 48 => 65
    | 49 => 66
    | 50 => 67
    | 57 => 68
    | n => n
  t := fun x => match x with
    | 22 => 23
    | 24 => 56
    | 25 => 65
    | 3 => 3
    | 39 => 74
    | 0 => 0
    | 53 => 86
    | 55 => 88
    | 4 => 4
    | 46 => 80
    | 45 => 79
    | 50 => 66
    | 5 => 5
    | 9 => 9
    | 66 => 89
    | 70 => 93
    | 76 => 95
    | 77 => 96
    | n => n
  g := fun n => n
set_option maxRecDepth 100000 in
set_option maxHeartbeats 4000000 in
theorem srt_lays : SlLaysF0.n6 Try.prog srt where
  mixed := by kernel_rfl
  f6 := ⟨ "slices.SortFunc[[][2]int,[2]int]", by decide, (Try.func47).trans (congrArg some rfl)⟩
  f14 := ⟨ "slices.pdqsortCmpFunc[[2]int]", by decide, (Try.func50).trans (congrArg some rfl)⟩
  f20 := ⟨ "slices.insertionSortCmpFunc[[2]int]", by decide, (Try.func53).trans (congrArg some rfl)⟩
  f21 := ⟨ "slices.heapSortCmpFunc[[2]int]", by decide, (Try.func54).trans (congrArg some rfl)⟩
  f22 := ⟨ "slices.breakPatternsCmpFunc[[2]int]", by decide, (Try.func55).trans (congrArg some rfl)⟩
  f23 := ⟨ "slices.choosePivotCmpFunc[[2]int]", by decide, (Try.func56).trans (congrArg some rfl)⟩
  f24 := ⟨ "slices.reverseRangeCmpFunc[[2]int]", by decide, (Try.func57).trans (congrArg some rfl)⟩
  f25 := ⟨ "slices.partialInsertionSortCmpFunc[[2]int]", by decide, (Try.func58).trans (congrArg some rfl)⟩
  f26 := ⟨ "slices.partitionEqualCmpFunc[[2]int]", by decide, (Try.func59).trans (congrArg some rfl)⟩
  f27 := ⟨ "slices.partitionCmpFunc[[2]int]", by decide, (Try.func60).trans (congrArg some rfl)⟩
  f46 := ⟨ "slices.siftDownCmpFunc[[2]int]", by decide, (Try.func63).trans (congrArg some rfl)⟩
  f49 := ⟨ "slices.medianAdjacentCmpFunc[[2]int]", by decide, (Try.func66).trans (congrArg some rfl)⟩
  f50 := ⟨ "slices.medianCmpFunc[[2]int]", by decide, (Try.func67).trans (congrArg some rfl)⟩
  f57 := ⟨ "slices.order2CmpFunc[[2]int]", by decide, (Try.func68).trans (congrArg some rfl)⟩
  f15 := (Try.func51).trans (congrArg some rfl)
  f28 := (Try.func61).trans (congrArg some rfl)
  f29 := (Try.func62).trans (congrArg some rfl)
  f47 := (Try.func64).trans (congrArg some rfl)
  f48 := (Try.func65).trans (congrArg some rfl)
  t0 := Try.underlying0
  a0 := Try.isAgg0
  z0 := Try.sizeOf0
  v0 := Try.zeroValue0
  t3 := Try.underlying3
  a3 := Try.isAgg3
  z3 := Try.sizeOf3
  v3 := Try.zeroValue3
  t4 := Try.underlying4
  a4 := Try.isAgg4
  z4 := Try.sizeOf4
  v4 := Try.zeroValue4
  t5 := Try.underlying5
  a5 := Try.isAgg5
  z5 := Try.sizeOf5
  v5 := Try.zeroValue5
  t9 := Try.underlying9
  a9 := Try.isAgg9
  z9 := Try.sizeOf9
  v9 := Try.zeroValue9
  t22 := Try.underlying23
  a22 := Try.isAgg23
  z22 := Try.sizeOf23
  v22 := Try.zeroValue23
  t25 := Try.underlying65
  a25 := Try.isAgg65
  z25 := Try.sizeOf65
  v25 := Try.zeroValue65
  t39 := Try.underlying74
  a39 := Try.isAgg74
  z39 := Try.sizeOf74
  v39 := Try.zeroValue74
  t45 := Try.underlying79
  a45 := Try.isAgg79
  z45 := Try.sizeOf79
  v45 := Try.zeroValue79
  t46 := Try.underlying80
  a46 := Try.isAgg80
  z46 := Try.sizeOf80
  v46 := Try.zeroValue80
  t50 := Try.underlying66
  a50 := Try.isAgg66
  z50 := Try.sizeOf66
  v50 := Try.zeroValue66
  t53 := Try.underlying86
  a53 := Try.isAgg86
  z53 := Try.sizeOf86
  v53 := Try.zeroValue86
  t55 := Try.underlying88
  a55 := Try.isAgg88
  z55 := Try.sizeOf88
  v55 := Try.zeroValue88
  t66 := Try.underlying89
  a66 := Try.isAgg89
  z66 := Try.sizeOf89
  v66 := Try.zeroValue89
  t70 := Try.underlying93
  a70 := Try.isAgg93
  z70 := Try.sizeOf93
  v70 := Try.zeroValue93
  t76 := Try.underlying95
  a76 := Try.isAgg95
  z76 := Try.sizeOf95
  v76 := Try.zeroValue95
  t77 := Try.underlying96
  a77 := Try.isAgg96
  z77 := Try.sizeOf96
  v77 := Try.zeroValue96
end Go.Proofs.Ytgldlanfbkgfjaa
