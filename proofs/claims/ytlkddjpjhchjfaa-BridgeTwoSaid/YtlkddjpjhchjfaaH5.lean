/- slices.Sort and slices.Compact at ints: what the library's laws ask of this program, laid by hand (layer 8). -/
import Derived.Test.YtlkddjpjhchjfaaRG
import Derived.Shelf.Slices.CompactI
import Derived.Shelf.Slices.In.SortNone
import Derived.Shelf.Sort.Plain
namespace Go.Proofs.Ytlkddjpjhchjfaa
open Go.RowKit Go.Shelf

def srtI : Go.Shelf.Ren where
  f := fun x => match x with
    | 125 => 78
    | 128 => 93
    | 129 => 94
    | 189 => 79
    | 215 => 84
    | 216 => 109
    | 257 => 95
    | 294 => 103
    | 295 => 104
    | 296 => 105
    | 297 => 106
    | 298 => 107
    | 299 => 108
    | 300 => 110
    | 301 => 111
    | 328 => 113
    | 329 => 99
    | 330 => 100
    | 331 => 114
    | 332 => 115
    | 343 => 116
    | n => n
  t := fun x => match x with
    | 0 => 0
    | 3 => 3
    | 4 => 4
    | 5 => 5
    | 9 => 9
    | 28 => 35
    | 46 => 107
    | 51 => 127
    | 53 => 129
    | 131 => 58
    | 182 => 120
    | 183 => 121
    | 218 => 135
    | 222 => 139
    | 228 => 146
    | 229 => 147
    | n => n
  g := fun n => n
set_option maxRecDepth 100000 in
set_option maxHeartbeats 4000000 in
theorem srtI_lays : Lays.n189 Try.prog srtI where
  mixed := by kernel_rfl
  f125 := (Try.func78).trans (congrArg some rfl)
  f128 := (Try.func93).trans (congrArg some rfl)
  f129 := (Try.func94).trans (congrArg some rfl)
  f189 := (Try.func79).trans (congrArg some rfl)
  f215 := (Try.func84).trans (congrArg some rfl)
  f216 := (Try.func109).trans (congrArg some rfl)
  f257 := (Try.func95).trans (congrArg some rfl)
  f294 := (Try.func103).trans (congrArg some rfl)
  f295 := (Try.func104).trans (congrArg some rfl)
  f296 := (Try.func105).trans (congrArg some rfl)
  f297 := (Try.func106).trans (congrArg some rfl)
  f298 := (Try.func107).trans (congrArg some rfl)
  f299 := (Try.func108).trans (congrArg some rfl)
  f300 := (Try.func110).trans (congrArg some rfl)
  f301 := (Try.func111).trans (congrArg some rfl)
  f328 := (Try.func113).trans (congrArg some rfl)
  f329 := (Try.func99).trans (congrArg some rfl)
  f330 := (Try.func100).trans (congrArg some rfl)
  f331 := (Try.func114).trans (congrArg some rfl)
  f332 := (Try.func115).trans (congrArg some rfl)
  f343 := (Try.func116).trans (congrArg some rfl)
  t0 := Try.underlying0
  a0 := Try.isAgg0
  z0 := Try.sizeOf0
  v0 := Try.zeroValue0
  t3 := Try.underlying3
  a3 := Try.isAgg3
  z3 := Try.sizeOf3
  v3 := Try.zeroValue3
  t4 := Try.underlying4
  a4 := Try.isAgg4
  z4 := Try.sizeOf4
  v4 := Try.zeroValue4
  t5 := Try.underlying5
  a5 := Try.isAgg5
  z5 := Try.sizeOf5
  v5 := Try.zeroValue5
  t9 := Try.underlying9
  a9 := Try.isAgg9
  z9 := Try.sizeOf9
  v9 := Try.zeroValue9
  t28 := Try.underlying35
  a28 := Try.isAgg35
  z28 := Try.sizeOf35
  v28 := Try.zeroValue35
  t46 := Try.underlying107
  a46 := Try.isAgg107
  z46 := Try.sizeOf107
  v46 := Try.zeroValue107
  t51 := Try.underlying127
  a51 := Try.isAgg127
  z51 := Try.sizeOf127
  v51 := Try.zeroValue127
  t53 := Try.underlying129
  a53 := Try.isAgg129
  z53 := Try.sizeOf129
  v53 := Try.zeroValue129
  t131 := Try.underlying58
  a131 := Try.isAgg58
  z131 := Try.sizeOf58
  v131 := Try.zeroValue58
  t182 := Try.underlying120
  a182 := Try.isAgg120
  z182 := Try.sizeOf120
  v182 := Try.zeroValue120
  t183 := Try.underlying121
  a183 := Try.isAgg121
  z183 := Try.sizeOf121
  v183 := Try.zeroValue121
  t218 := Try.underlying135
  a218 := Try.isAgg135
  z218 := Try.sizeOf135
  v218 := Try.zeroValue135
  t222 := Try.underlying139
  a222 := Try.isAgg139
  z222 := Try.sizeOf139
  v222 := Try.zeroValue139
  t228 := Try.underlying146
  a228 := Try.isAgg146
  z228 := Try.sizeOf146
  v228 := Try.zeroValue146
  t229 := Try.underlying147
  a229 := Try.isAgg147
  z229 := Try.sizeOf147
  v229 := Try.zeroValue147
def cmpI : Go.Shelf.Ren where
  f := fun x => match x with
    | 20 => 80
    | n => n
  t := fun x => match x with
    | 0 => 0
    | 3 => 3
    | 4 => 4
    | 22 => 35
    | n => n
  g := fun n => n
set_option maxRecDepth 100000 in
set_option maxHeartbeats 4000000 in
theorem cmpI_lays : Lays2.n20 Try.prog cmpI where
  mixed := by kernel_rfl
  f20 := (Try.func80).trans (congrArg some rfl)
  t0 := Try.underlying0
  a0 := Try.isAgg0
  z0 := Try.sizeOf0
  v0 := Try.zeroValue0
  t3 := Try.underlying3
  a3 := Try.isAgg3
  z3 := Try.sizeOf3
  v3 := Try.zeroValue3
  t4 := Try.underlying4
  a4 := Try.isAgg4
  z4 := Try.sizeOf4
  v4 := Try.zeroValue4
  t22 := Try.underlying35
  a22 := Try.isAgg35
  z22 := Try.sizeOf35
  v22 := Try.zeroValue35
  i3 := by kernel_rfl
end Go.Proofs.Ytlkddjpjhchjfaa
