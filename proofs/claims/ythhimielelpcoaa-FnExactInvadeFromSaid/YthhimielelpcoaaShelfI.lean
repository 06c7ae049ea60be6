/-
  What is proved here: contracts of the library at this program (keysI, sortedI, sortI), each laid out of what the library proves. Conditions: as each theorem names.
-/
import Derived.Shelf.SlIterI.Nil
import Derived.Shelf.SortM.Plain
import Derived.Shelf.SortM.SortNone
import Derived.Test.YthhimielelpcoaaProg
namespace Go.Proofs
open Go.RowKit Go.Maps Go.Sort Go.Shelf

def Try.keysI_ren : Go.Shelf.Ren := ⟨fun | 7 => 107 | 10 => 145 | n => n, fun | 23 => 87 | 26 => 2 | 3 => 4 | 28 => 143 | 0 => 0 | 27 => 142 | 33 => 80 | 4 => 4 | n => n, fun n => n⟩
theorem Try.keysI : SlLaysZI.n7 Try.prog Try.keysI_ren := {
  mixed := by kernel_rfl
  f7 := ⟨"maps.Keys[map[int64]bool,int64,bool]", by kernel_rfl, Try.func107.trans (congrArg some (by kernel_rfl))⟩
  f10 := ⟨"maps.Keys[map[int64]bool,int64,bool]$1", by kernel_rfl, Try.func145.trans (congrArg some (by kernel_rfl))⟩
  t0 := Try.underlying0
  a0 := Try.isAgg0
  z0 := Try.sizeOf0
  v0 := Try.zeroValue0
  t4 := Try.underlying4
  a4 := Try.isAgg4
  z4 := Try.sizeOf4
  v4 := Try.zeroValue4
  t23 := Try.underlying87
  a23 := Try.isAgg87
  z23 := Try.sizeOf87
  v23 := Try.zeroValue87
  t26 := Try.underlying2
  a26 := Try.isAgg2
  z26 := Try.sizeOf2
  v26 := Try.zeroValue2
  t27 := Try.underlying142
  a27 := Try.isAgg142
  z27 := Try.sizeOf142
  v27 := Try.zeroValue142
  t28 := Try.underlying143
  a28 := Try.isAgg143
  z28 := Try.sizeOf143
  v28 := Try.zeroValue143
  t33 := Try.underlying80
  a33 := Try.isAgg80
  z33 := Try.sizeOf80
  v33 := Try.zeroValue80 }

def Try.sortedI_ren : Go.Shelf.Ren := ⟨fun | 6 => 106 | 8 => 143 | 9 => 144 | 11 => 176 | 13 => 178 | 12 => 177 | 23 => 202 | 24 => 203 | 14 => 193 | 15 => 194 | 16 => 195 | 17 => 196 | 18 => 197 | 19 => 198 | 20 => 199 | 21 => 200 | 22 => 201 | 25 => 206 | 26 => 207 | 27 => 208 | 28 => 209 | 29 => 210 | 30 => 211 | 31 => 213 | n => n, fun | 26 => 2 | 28 => 143 | 24 => 34 | 0 => 0 | 3 => 3 | 37 => 162 | 48 => 194 | 50 => 192 | 4 => 4 | 40 => 202 | 39 => 201 | 45 => 132 | 5 => 5 | 9 => 9 | 51 => 209 | 55 => 213 | 57 => 215 | 58 => 216 | 33 => 80 | n => n, fun n => n⟩
theorem Try.sortedI : SlLaysZI.n6 Try.prog Try.sortedI_ren := {
  mixed := by kernel_rfl
  f6 := ⟨"slices.Sorted[int64]", by kernel_rfl, Try.func106.trans (congrArg some (by kernel_rfl))⟩
  f8 := ⟨"slices.Collect[int64]", by kernel_rfl, Try.func143.trans (congrArg some (by kernel_rfl))⟩
  f11 := ⟨"slices.AppendSeq[[]int64,int64]", by kernel_rfl, Try.func176.trans (congrArg some (by kernel_rfl))⟩
  t0 := Try.underlying0
  a0 := Try.isAgg0
  z0 := Try.sizeOf0
  v0 := Try.zeroValue0
  t24 := Try.underlying34
  a24 := Try.isAgg34
  z24 := Try.sizeOf34
  v24 := Try.zeroValue34
  t26 := Try.underlying2
  a26 := Try.isAgg2
  z26 := Try.sizeOf2
  v26 := Try.zeroValue2
  t28 := Try.underlying143
  a28 := Try.isAgg143
  z28 := Try.sizeOf143
  v28 := Try.zeroValue143
  i26 := by kernel_rfl }

def Try.sortI_ren : Go.Shelf.Ren := ⟨fun | 5 => 144 | 8 => 178 | 7 => 177 | 19 => 202 | 20 => 203 | 10 => 193 | 11 => 194 | 12 => 195 | 13 => 196 | 14 => 197 | 15 => 198 | 16 => 199 | 17 => 200 | 18 => 201 | 30 => 206 | 31 => 207 | 32 => 208 | 33 => 209 | 34 => 210 | 35 => 211 | 40 => 213 | n => n, fun | 23 => 34 | 25 => 2 | 3 => 3 | 32 => 162 | 22 => 34 | 0 => 0 | 44 => 194 | 46 => 192 | 4 => 4 | 36 => 202 | 35 => 201 | 41 => 132 | 5 => 5 | 9 => 9 | 53 => 209 | 57 => 213 | 63 => 215 | 64 => 216 | n => n, fun n => n⟩
theorem Try.sortI : SlLaysM.n5 Try.prog Try.sortI_ren := {
  mixed := by kernel_rfl
  f5 := ⟨"slices.Sort[[]int64,int64]", by kernel_rfl, Try.func144.trans (congrArg some (by kernel_rfl))⟩
  f7 := ⟨"slices.pdqsortOrdered[int64]", by kernel_rfl, Try.func177.trans (congrArg some (by kernel_rfl))⟩
  f8 := Try.func178.trans (congrArg some (by kernel_rfl))
  f10 := ⟨"slices.insertionSortOrdered[int64]", by kernel_rfl, Try.func193.trans (congrArg some (by kernel_rfl))⟩
  f11 := ⟨"slices.heapSortOrdered[int64]", by kernel_rfl, Try.func194.trans (congrArg some (by kernel_rfl))⟩
  f12 := ⟨"slices.breakPatternsOrdered[int64]", by kernel_rfl, Try.func195.trans (congrArg some (by kernel_rfl))⟩
  f13 := ⟨"slices.choosePivotOrdered[int64]", by kernel_rfl, Try.func196.trans (congrArg some (by kernel_rfl))⟩
  f14 := ⟨"slices.reverseRangeOrdered[int64]", by kernel_rfl, Try.func197.trans (congrArg some (by kernel_rfl))⟩
  f15 := ⟨"slices.partialInsertionSortOrdered[int64]", by kernel_rfl, Try.func198.trans (congrArg some (by kernel_rfl))⟩
  f16 := ⟨"cmp.Less[int64]", by kernel_rfl, Try.func199.trans (congrArg some (by kernel_rfl))⟩
  f17 := ⟨"slices.partitionEqualOrdered[int64]", by kernel_rfl, Try.func200.trans (congrArg some (by kernel_rfl))⟩
  f18 := ⟨"slices.partitionOrdered[int64]", by kernel_rfl, Try.func201.trans (congrArg some (by kernel_rfl))⟩
  f19 := Try.func202.trans (congrArg some (by kernel_rfl))
  f20 := Try.func203.trans (congrArg some (by kernel_rfl))
  f30 := ⟨"slices.siftDownOrdered[int64]", by kernel_rfl, Try.func206.trans (congrArg some (by kernel_rfl))⟩
  f31 := Try.func207.trans (congrArg some (by kernel_rfl))
  f32 := Try.func208.trans (congrArg some (by kernel_rfl))
  f33 := ⟨"slices.medianAdjacentOrdered[int64]", by kernel_rfl, Try.func209.trans (congrArg some (by kernel_rfl))⟩
  f34 := ⟨"slices.medianOrdered[int64]", by kernel_rfl, Try.func210.trans (congrArg some (by kernel_rfl))⟩
  f35 := ⟨"cmp.isNaN[int64]", by kernel_rfl, Try.func211.trans (congrArg some (by kernel_rfl))⟩
  f40 := ⟨"slices.order2Ordered[int64]", by kernel_rfl, Try.func213.trans (congrArg some (by kernel_rfl))⟩
  t0 := Try.underlying0
  a0 := Try.isAgg0
  z0 := Try.sizeOf0
  v0 := Try.zeroValue0
  t3 := Try.underlying3
  a3 := Try.isAgg3
  z3 := Try.sizeOf3
  v3 := Try.zeroValue3
  t4 := Try.underlying4
  a4 := Try.isAgg4
  z4 := Try.sizeOf4
  v4 := Try.zeroValue4
  t5 := Try.underlying5
  a5 := Try.isAgg5
  z5 := Try.sizeOf5
  v5 := Try.zeroValue5
  t9 := Try.underlying9
  a9 := Try.isAgg9
  z9 := Try.sizeOf9
  v9 := Try.zeroValue9
  t22 := Try.underlying34
  a22 := Try.isAgg34
  z22 := Try.sizeOf34
  v22 := Try.zeroValue34
  t23 := Try.underlying34
  a23 := Try.isAgg34
  z23 := Try.sizeOf34
  v23 := Try.zeroValue34
  t25 := Try.underlying2
  a25 := Try.isAgg2
  z25 := Try.sizeOf2
  v25 := Try.zeroValue2
  t32 := Try.underlying162
  a32 := Try.isAgg162
  z32 := Try.sizeOf162
  v32 := Try.zeroValue162
  t35 := Try.underlying201
  a35 := Try.isAgg201
  z35 := Try.sizeOf201
  v35 := Try.zeroValue201
  t36 := Try.underlying202
  a36 := Try.isAgg202
  z36 := Try.sizeOf202
  v36 := Try.zeroValue202
  t41 := Try.underlying132
  a41 := Try.isAgg132
  z41 := Try.sizeOf132
  v41 := Try.zeroValue132
  t44 := Try.underlying194
  a44 := Try.isAgg194
  z44 := Try.sizeOf194
  v44 := Try.zeroValue194
  t46 := Try.underlying192
  a46 := Try.isAgg192
  z46 := Try.sizeOf192
  v46 := Try.zeroValue192
  t53 := Try.underlying209
  a53 := Try.isAgg209
  z53 := Try.sizeOf209
  v53 := Try.zeroValue209
  t57 := Try.underlying213
  a57 := Try.isAgg213
  z57 := Try.sizeOf213
  v57 := Try.zeroValue213
  t63 := Try.underlying215
  a63 := Try.isAgg215
  z63 := Try.sizeOf215
  v63 := Try.zeroValue215
  t64 := Try.underlying216
  a64 := Try.isAgg216
  z64 := Try.sizeOf216
  v64 := Try.zeroValue216 }

end Go.Proofs
