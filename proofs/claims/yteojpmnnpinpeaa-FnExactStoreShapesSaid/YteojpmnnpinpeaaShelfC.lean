/-
  What is proved here: contracts of the library at this program (strings_Join, strings_Join_none), each laid by the kit's own command out of what the library proves. Conditions: as each theorem names.
-/
import Derived.Shelf.Lays
import Derived.Shelf.Strings.OnBuilder
import Derived.Test.YteojpmnnpinpeaaProg
namespace Go.Proofs
open Go.Shelf
def Try.lays156_ren : Go.Shelf.Ren := ⟨fun | 156 => 113 | 165 => 189 | 166 => 190 | 169 => 191 | 240 => 245 | 241 => 246 | 276 => 272 | 277 => 273 | n => n, fun | 31 => 144 | 9 => 9 | 3 => 3 | 4 => 4 | 0 => 0 | 20 => 20 | 72 => 222 | 76 => 226 | 70 => 220 | 37 => 212 | 75 => 225 | 127 => 262 | 164 => 278 | 5 => 5 | 80 => 228 | n => n, fun | n => n⟩

theorem Try.lays156 : Go.Proofs.Lays.n156 Try.prog Try.lays156_ren := {
  mixed := by kernel_rfl
  f156 := Try.func113.trans (congrArg some (by kernel_rfl))
  f165 := Try.func189.trans (congrArg some (by kernel_rfl))
  f166 := Try.func190.trans (congrArg some (by kernel_rfl))
  f169 := Try.func191.trans (congrArg some (by kernel_rfl))
  f240 := Try.func245.trans (congrArg some (by kernel_rfl))
  f241 := Try.func246.trans (congrArg some (by kernel_rfl))
  f276 := Try.func272.trans (congrArg some (by kernel_rfl))
  f277 := Try.func273.trans (congrArg some (by kernel_rfl))
  t0 := Try.underlying0
  a0 := Try.isAgg0
  z0 := Try.sizeOf0
  v0 := Try.zeroValue0
  t3 := Try.underlying3
  a3 := Try.isAgg3
  z3 := Try.sizeOf3
  v3 := Try.zeroValue3
  t4 := Try.underlying4
  a4 := Try.isAgg4
  z4 := Try.sizeOf4
  v4 := Try.zeroValue4
  t9 := Try.underlying9
  a9 := Try.isAgg9
  z9 := Try.sizeOf9
  v9 := Try.zeroValue9
  t20 := Try.underlying20
  a20 := Try.isAgg20
  z20 := Try.sizeOf20
  v20 := Try.zeroValue20
  t31 := Try.underlying144
  a31 := Try.isAgg144
  z31 := Try.sizeOf144
  v31 := Try.zeroValue144
  t37 := Try.underlying212
  a37 := Try.isAgg212
  z37 := Try.sizeOf212
  v37 := Try.zeroValue212
  t70 := Try.underlying220
  a70 := Try.isAgg220
  z70 := Try.sizeOf220
  v70 := Try.zeroValue220
  t72 := Try.underlying222
  a72 := Try.isAgg222
  z72 := Try.sizeOf222
  v72 := Try.zeroValue222
  t75 := Try.underlying225
  a75 := Try.isAgg225
  z75 := Try.sizeOf225
  v75 := Try.zeroValue225
  t76 := Try.underlying226
  a76 := Try.isAgg226
  z76 := Try.sizeOf226
  v76 := Try.zeroValue226
  t127 := Try.underlying262
  a127 := Try.isAgg262
  z127 := Try.sizeOf262
  v127 := Try.zeroValue262
  t164 := Try.underlying278
  a164 := Try.isAgg278
  z164 := Try.sizeOf278
  v164 := Try.zeroValue278 }

theorem Try.Builder_Extra_156 : Builder.Extra Try.prog Try.lays156_ren := {
  sizeBuilder := by kernel_rfl
  liesBuilder := by kernel_rfl
  t5 := Try.underlying5
  a5 := Try.isAgg5
  z5 := Try.sizeOf5
  v5 := Try.zeroValue5
  infoByte := by kernel_rfl
  cellsByte := by kernel_rfl
  sizeByte := by kernel_rfl
  neB5 := by decide }

open Go.RowKit in
/-- No element: the empty string; the world is as it was. (Whatever the slice's address and capacity: a nil slice too.) (LAID: no walk: one application.) -/
theorem Try.strings_Join_none (a : Option Addr) (c : Nat) (sep : ByteArray) (w : World) :
    Calls Try.prog 113 #[.slice a 0 c, .string sep] w fun e w' => e = .returned (.string ⟨#[]⟩) ∧ w' = w := Any.strings_Join_none Try.lays156 Try.Builder_Extra_156 a c sep w

open Go.RowKit in
/-- strings.Join: "Join concatenates the elements of its first argument to create a single string. The separator string sep is placed between elements in the resulting string.": HOWEVER MANY ELEMENTS. Below the heap's end the world is as it was. (LAID: no walk: one application.) -/
theorem Try.strings_Join (bk o c : Nat) (xs : List ByteArray) (sep : ByteArray) (w : World) (hcells : ∀ (j : Nat) x, xs[j]? = some x → w.cell? ⟨bk, o + j, none⟩ = some (.string x)) (hbk : bk < w.heap.size) (hN : xs.length ≤ 140737488355328) (hcap : xs.length ≤ c) (hlen : (Lib.join (xs.map (·.data.toList)) sep.data.toList).length ≤ 140737488355328) :
    Calls Try.prog 113 #[.slice (some ⟨bk, o, none⟩) xs.length c, .string sep] w fun e w' => e = .returned (.string ⟨(Lib.join (xs.map (·.data.toList)) sep.data.toList).toArray⟩) ∧ Below w.heap.size w w' := Any.strings_Join Try.lays156 Try.Builder_Extra_156 bk o c xs sep w hcells hbk hN hcap hlen

end Go.Proofs
