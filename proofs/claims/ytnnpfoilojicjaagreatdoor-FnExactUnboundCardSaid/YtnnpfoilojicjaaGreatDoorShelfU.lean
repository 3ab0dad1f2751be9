/- The library contracts that the walks use, laid at this program: each one application of a theorem of the library. -/
import Derived.Shelf.Sort.Plain
import Derived.Shelf.Slices.CompactS
import Derived.Shelf.Slices.Cells
import Derived.Shelf.Slices.In.SortNone
import Derived.Test.YtnnpfoilojicjaaGreatDoorProg
namespace Go.Proofs.YtnnpfoilojicjaaGreatDoor
open Go.Shelf Go.RowKit Go.Sort Go.Lib
def laysSo_ren : Go.Shelf.Ren := ⟨fun | 190 => 19 | 125 => 36 | 258 => 35 | 128 => 74 | 129 => 75 | 302 => 65 | 303 => 66 | 304 => 67 | 305 => 68 | 306 => 69 | 307 => 70 | 308 => 71 | 309 => 72 | 310 => 73 | 333 => 121 | 329 => 122 | 330 => 123 | 334 => 124 | 335 => 125 | 336 => 126 | 344 => 167 | n => n, fun | 31 => 53 | 9 => 9 | 3 => 3 | 46 => 75 | 0 => 0 | 51 => 125 | 53 => 127 | 4 => 4 | 183 => 117 | 182 => 116 | 131 => 122 | 5 => 5 | 218 => 184 | 222 => 188 | 228 => 234 | 229 => 235 | n => n, fun | n => n⟩
theorem laysSo : Go.Proofs.Lays.n190 Tryz.prog laysSo_ren := {
 mixed := by kernel_rfl
 f125 := Tryz.func36.trans (congrArg some (by kernel_rfl))
 f128 := Tryz.func74.trans (congrArg some (by kernel_rfl))
 f129 := Tryz.func75.trans (congrArg some (by kernel_rfl))
 f190 := Tryz.func19.trans (congrArg some (by kernel_rfl))
 f258 := Tryz.func35.trans (congrArg some (by kernel_rfl))
 f302 := Tryz.func65.trans (congrArg some (by kernel_rfl))
 f303 := Tryz.func66.trans (congrArg some (by kernel_rfl))
 f304 := Tryz.func67.trans (congrArg some (by kernel_rfl))
 f305 := Tryz.func68.trans (congrArg some (by kernel_rfl))
 f306 := Tryz.func69.trans (congrArg some (by kernel_rfl))
 f307 := Tryz.func70.trans (congrArg some (by kernel_rfl))
 f308 := Tryz.func71.trans (congrArg some (by kernel_rfl))
 f309 := Tryz.func72.trans (congrArg some (by kernel_rfl))
 f310 := Tryz.func73.trans (congrArg some (by kernel_rfl))
 f329 := Tryz.func122.trans (congrArg some (by kernel_rfl))
 f330 := Tryz.func123.trans (congrArg some (by kernel_rfl))
 f333 := Tryz.func121.trans (congrArg some (by kernel_rfl))
 f334 := Tryz.func124.trans (congrArg some (by kernel_rfl))
 f335 := Tryz.func125.trans (congrArg some (by kernel_rfl))
 f336 := Tryz.func126.trans (congrArg some (by kernel_rfl))
 f344 := Tryz.func167.trans (congrArg some (by kernel_rfl))
 t0 := Tryz.underlying0
 a0 := Tryz.isAgg0
 z0 := Tryz.sizeOf0
 v0 := Tryz.zeroValue0
 t3 := Tryz.underlying3
 a3 := Tryz.isAgg3
 z3 := Tryz.sizeOf3
 v3 := Tryz.zeroValue3
 t4 := Tryz.underlying4
 a4 := Tryz.isAgg4
 z4 := Tryz.sizeOf4
 v4 := Tryz.zeroValue4
 t5 := Tryz.underlying5
 a5 := Tryz.isAgg5
 z5 := Tryz.sizeOf5
 v5 := Tryz.zeroValue5
 t9 := Tryz.underlying9
 a9 := Tryz.isAgg9
 z9 := Tryz.sizeOf9
 v9 := Tryz.zeroValue9
 t31 := Tryz.underlying53
 a31 := Tryz.isAgg53
 z31 := Tryz.sizeOf53
 v31 := Tryz.zeroValue53
 t46 := Tryz.underlying75
 a46 := Tryz.isAgg75
 z46 := Tryz.sizeOf75
 v46 := Tryz.zeroValue75
 t51 := Tryz.underlying125
 a51 := Tryz.isAgg125
 z51 := Tryz.sizeOf125
 v51 := Tryz.zeroValue125
 t53 := Tryz.underlying127
 a53 := Tryz.isAgg127
 z53 := Tryz.sizeOf127
 v53 := Tryz.zeroValue127
 t131 := Tryz.underlying122
 a131 := Tryz.isAgg122
 z131 := Tryz.sizeOf122
 v131 := Tryz.zeroValue122
 t182 := Tryz.underlying116
 a182 := Tryz.isAgg116
 z182 := Tryz.sizeOf116
 v182 := Tryz.zeroValue116
 t183 := Tryz.underlying117
 a183 := Tryz.isAgg117
 z183 := Tryz.sizeOf117
 v183 := Tryz.zeroValue117
 t218 := Tryz.underlying184
 a218 := Tryz.isAgg184
 z218 := Tryz.sizeOf184
 v218 := Tryz.zeroValue184
 t222 := Tryz.underlying188
 a222 := Tryz.isAgg188
 z222 := Tryz.sizeOf188
 v222 := Tryz.zeroValue188
 t228 := Tryz.underlying234
 a228 := Tryz.isAgg234
 z228 := Tryz.sizeOf234
 v228 := Tryz.zeroValue234
 t229 := Tryz.underlying235
 a229 := Tryz.isAgg235
 z229 := Tryz.sizeOf235
 v229 := Tryz.zeroValue235 }
theorem sortStr (blk off cap : Nat) (ss : List (List UInt8)) (w : World) (hH : Holds encStr w blk off ss.toArray) (hblk : blk < w.heap.size) (hsz : ss.length < 4611686018427387904) :
  Calls Tryz.prog 19 #[.slice (some ⟨blk, off, none⟩) ss.length cap] w fun e w' =>
   e = .returned (.tuple #[]) ∧ ∃ n os, w' = grow (putRow encStr (Sort.ahead w n) blk off (ss.mergeSort fun x y => decide (x ≤ y)).toArray) os := Any.slices_Sort_string laysSo blk off cap ss w hH hblk hsz
theorem sortNone (p : Option Addr) (cap : Nat) (w : World) :
  Calls Tryz.prog 19 #[.slice p 0 cap] w fun e w' => e = .returned (.tuple #[]) ∧ w' = w := Any.slices_Sort_string_none laysSo p cap w
def laysCm_ren : Go.Shelf.Ren := ⟨fun | 194 => 20 | n => n, fun | 31 => 53 | 9 => 9 | 3 => 3 | 4 => 4 | 0 => 0 | n => n, fun | n => n⟩
theorem laysCm : Go.Proofs.Lays.n194 Tryz.prog laysCm_ren := {
 mixed := by kernel_rfl
 f194 := Tryz.func20.trans (congrArg some (by kernel_rfl))
 t0 := Tryz.underlying0
 a0 := Tryz.isAgg0
 z0 := Tryz.sizeOf0
 v0 := Tryz.zeroValue0
 t3 := Tryz.underlying3
 a3 := Tryz.isAgg3
 z3 := Tryz.sizeOf3
 v3 := Tryz.zeroValue3
 t4 := Tryz.underlying4
 a4 := Tryz.isAgg4
 z4 := Tryz.sizeOf4
 v4 := Tryz.zeroValue4
 t9 := Tryz.underlying9
 a9 := Tryz.isAgg9
 z9 := Tryz.sizeOf9
 v9 := Tryz.zeroValue9
 t31 := Tryz.underlying53
 a31 := Tryz.isAgg53
 z31 := Tryz.sizeOf53
 v31 := Tryz.zeroValue53 }
theorem compStr (blk off cap : Nat) (zs : List (List UInt8)) (w : World) (hH : Holds encStr w blk off zs.toArray) (hsz : zs.length ≤ 9223372036854775807) (hcap : zs.length ≤ cap) :
  Calls Tryz.prog 20 #[.slice (some ⟨blk, off, none⟩) zs.length cap] w fun e w' => e = .returned (.slice (some ⟨blk, off, none⟩) (Lib.compact zs).length cap) ∧ ∃ q, w' = putRow encStr (Sort.ahead w q) blk off (Lib.compact zs ++ List.replicate (zs.length - (Lib.compact zs).length) []).toArray := Any.slices_Compact_string laysCm blk off cap zs w hH hsz hcap
theorem compNil (a : Option Addr) (cap : Nat) (w : World) :
  Calls Tryz.prog 20 #[.slice a 0 cap] w fun e w' => e = .returned (.slice a 0 cap) ∧ w' = w := Any.slices_Compact_string_empty laysCm a cap w
end Go.Proofs.YtnnpfoilojicjaaGreatDoor
