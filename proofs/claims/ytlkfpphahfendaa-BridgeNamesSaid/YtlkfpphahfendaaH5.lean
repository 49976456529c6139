/- slices.Sort and slices.Compact at ints: what the library's laws ask of this program, laid by hand (layer 8). -/
import Derived.Test.YtlkfpphahfendaaRG
import Derived.Shelf.Slices.CompactI
import Derived.Shelf.Slices.In.SortNone
import Derived.Shelf.Sort.Plain
namespace Go.Proofs.Ytlkfpphahfendaa
open Go.RowKit Go.Shelf

def srtI : Go.Shelf.Ren where
  f := fun x => match x with
    | 125 => 53
    | 128 => 75
    | 129 => 76
    | 189 => 27
    | 215 => 78
    | 216 => 72
    | 257 => 52
    | 294 => 66
    | 295 => 67
    | 296 => 68
    | 297 => 69
    | 298 => 70
    | 299 => 71
    | 300 => 73
    | 301 => 74
    | 328 => 83
    | 329 => 84
    | 330 => 85
    | 331 => 86
    | 332 => 87
    | 343 => 98
    | n => n
  t := fun x => match x with
    | 0 => 0
    | 3 => 3
    | 4 => 4
    | 5 => 5
    | 9 => 9
    | 28 => 41
    | 46 => 90
    | 51 => 118
    | 53 => 120
    | 131 => 45
    | 182 => 110
    | 183 => 111
    | 218 => 127
    | 222 => 131
    | 228 => 142
    | 229 => 143
    | n => n
  g := fun n => n
set_option maxRecDepth 100000 in
set_option maxHeartbeats 4000000 in
theorem srtI_lays : Lays.n189 Try.prog srtI where
  mixed := by kernel_rfl
  f125 := (Try.func53).trans (congrArg some rfl)
  f128 := (Try.func75).trans (congrArg some rfl)
  f129 := (Try.func76).trans (congrArg some rfl)
  f189 := (Try.func27).trans (congrArg some rfl)
  f215 := (Try.func78).trans (congrArg some rfl)
  f216 := (Try.func72).trans (congrArg some rfl)
  f257 := (Try.func52).trans (congrArg some rfl)
  f294 := (Try.func66).trans (congrArg some rfl)
  f295 := (Try.func67).trans (congrArg some rfl)
  f296 := (Try.func68).trans (congrArg some rfl)
  f297 := (Try.func69).trans (congrArg some rfl)
  f298 := (Try.func70).trans (congrArg some rfl)
  f299 := (Try.func71).trans (congrArg some rfl)
  f300 := (Try.func73).trans (congrArg some rfl)
  f301 := (Try.func74).trans (congrArg some rfl)
  f328 := (Try.func83).trans (congrArg some rfl)
  f329 := (Try.func84).trans (congrArg some rfl)
  f330 := (Try.func85).trans (congrArg some rfl)
  f331 := (Try.func86).trans (congrArg some rfl)
  f332 := (Try.func87).trans (congrArg some rfl)
  f343 := (Try.func98).trans (congrArg some rfl)
  t0 := Try.underlying0
  a0 := Try.isAgg0
  z0 := Try.sizeOf0
  v0 := Try.zeroValue0
  t3 := Try.underlying3
  a3 := Try.isAgg3
  z3 := Try.sizeOf3
  v3 := Try.zeroValue3
  t4 := Try.underlying4
  a4 := Try.isAgg4
  z4 := Try.sizeOf4
  v4 := Try.zeroValue4
  t5 := Try.underlying5
  a5 := Try.isAgg5
  z5 := Try.sizeOf5
  v5 := Try.zeroValue5
  t9 := Try.underlying9
  a9 := Try.isAgg9
  z9 := Try.sizeOf9
  v9 := Try.zeroValue9
  t28 := Try.underlying41
  a28 := Try.isAgg41
  z28 := Try.sizeOf41
  v28 := Try.zeroValue41
  t46 := Try.underlying90
  a46 := Try.isAgg90
  z46 := Try.sizeOf90
  v46 := Try.zeroValue90
  t51 := Try.underlying118
  a51 := Try.isAgg118
  z51 := Try.sizeOf118
  v51 := Try.zeroValue118
  t53 := Try.underlying120
  a53 := Try.isAgg120
  z53 := Try.sizeOf120
  v53 := Try.zeroValue120
  t131 := Try.underlying45
  a131 := Try.isAgg45
  z131 := Try.sizeOf45
  v131 := Try.zeroValue45
  t182 := Try.underlying110
  a182 := Try.isAgg110
  z182 := Try.sizeOf110
  v182 := Try.zeroValue110
  t183 := Try.underlying111
  a183 := Try.isAgg111
  z183 := Try.sizeOf111
  v183 := Try.zeroValue111
  t218 := Try.underlying127
  a218 := Try.isAgg127
  z218 := Try.sizeOf127
  v218 := Try.zeroValue127
  t222 := Try.underlying131
  a222 := Try.isAgg131
  z222 := Try.sizeOf131
  v222 := Try.zeroValue131
  t228 := Try.underlying142
  a228 := Try.isAgg142
  z228 := Try.sizeOf142
  v228 := Try.zeroValue142
  t229 := Try.underlying143
  a229 := Try.isAgg143
  z229 := Try.sizeOf143
  v229 := Try.zeroValue143
def cmpI : Go.Shelf.Ren where
  f := fun x => match x with
    | 20 => 55
    | n => n
  t := fun x => match x with
    | 0 => 0
    | 3 => 3
    | 4 => 4
    | 22 => 41
    | n => n
  g := fun n => n
set_option maxRecDepth 100000 in
set_option maxHeartbeats 4000000 in
theorem cmpI_lays : Lays2.n20 Try.prog cmpI where
  mixed := by kernel_rfl
  f20 := (Try.func55).trans (congrArg some rfl)
  t0 := Try.underlying0
  a0 := Try.isAgg0
  z0 := Try.sizeOf0
  v0 := Try.zeroValue0
  t3 := Try.underlying3
  a3 := Try.isAgg3
  z3 := Try.sizeOf3
  v3 := Try.zeroValue3
  t4 := Try.underlying4
  a4 := Try.isAgg4
  z4 := Try.sizeOf4
  v4 := Try.zeroValue4
  t22 := Try.underlying41
  a22 := Try.isAgg41
  z22 := Try.sizeOf41
  v22 := Try.zeroValue41
  i3 := by kernel_rfl
end Go.Proofs.Ytlkfpphahfendaa
