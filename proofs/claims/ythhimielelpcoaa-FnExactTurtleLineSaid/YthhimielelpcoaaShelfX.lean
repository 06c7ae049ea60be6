/-
  What is proved here: contracts of the library at this program (strings_ContainsAny_laid), each laid by the kit's own command out of what the library proves. Conditions: as each theorem names.
-/
import Derived.Shelf.Lays
import Derived.Shelf.Strings.IndexAnyAll
import Derived.Test.YthhimielelpcoaaProg
namespace Go.Proofs
open Go.Shelf
def Try.lays150_ren : Go.Shelf.Ren := ⟨fun | 150 => 86 | 153 => 134 | 152 => 170 | 226 => 171 | 227 => 172 | 228 => 173 | 137 => 188 | 119 => 189 | 224 => 190 | 225 => 191 | 217 => 205 | 266 => 212 | n => n, fun | 9 => 9 | 4 => 4 | 3 => 3 | 5 => 5 | 21 => 21 | 117 => 183 | 116 => 182 | 0 => 0 | 46 => 162 | 124 => 198 | n => n, fun | n => n⟩

theorem Try.lays150 : Go.Proofs.Lays.n150 Try.prog Try.lays150_ren := {
  mixed := by kernel_rfl
  f119 := Try.func189.trans (congrArg some (by kernel_rfl))
  f137 := Try.func188.trans (congrArg some (by kernel_rfl))
  f150 := Try.func86.trans (congrArg some (by kernel_rfl))
  f152 := Try.func170.trans (congrArg some (by kernel_rfl))
  f153 := Try.func134.trans (congrArg some (by kernel_rfl))
  f217 := Try.func205.trans (congrArg some (by kernel_rfl))
  f224 := Try.func190.trans (congrArg some (by kernel_rfl))
  f225 := Try.func191.trans (congrArg some (by kernel_rfl))
  f226 := Try.func171.trans (congrArg some (by kernel_rfl))
  f227 := Try.func172.trans (congrArg some (by kernel_rfl))
  f228 := Try.func173.trans (congrArg some (by kernel_rfl))
  f266 := Try.func212.trans (congrArg some (by kernel_rfl))
  t0 := Try.underlying0
  a0 := Try.isAgg0
  z0 := Try.sizeOf0
  v0 := Try.zeroValue0
  t3 := Try.underlying3
  a3 := Try.isAgg3
  z3 := Try.sizeOf3
  v3 := Try.zeroValue3
  t4 := Try.underlying4
  a4 := Try.isAgg4
  z4 := Try.sizeOf4
  v4 := Try.zeroValue4
  t5 := Try.underlying5
  a5 := Try.isAgg5
  z5 := Try.sizeOf5
  v5 := Try.zeroValue5
  t9 := Try.underlying9
  a9 := Try.isAgg9
  z9 := Try.sizeOf9
  v9 := Try.zeroValue9
  t21 := Try.underlying21
  a21 := Try.isAgg21
  z21 := Try.sizeOf21
  v21 := Try.zeroValue21
  t46 := Try.underlying162
  a46 := Try.isAgg162
  z46 := Try.sizeOf162
  v46 := Try.zeroValue162
  t116 := Try.underlying182
  a116 := Try.isAgg182
  z116 := Try.sizeOf182
  t117 := Try.underlying183
  a117 := Try.isAgg183
  z117 := Try.sizeOf183
  v117 := Try.zeroValue183
  t124 := Try.underlying198
  a124 := Try.isAgg198
  z124 := Try.sizeOf198
  v124 := Try.zeroValue198 }

open Go.RowKit Go.Lib in
theorem Try.strings_ContainsAny_laid (s chars : ByteArray) (w : World) (hs : s.size < 4294967281) (hcs : chars.size < 4294967281) (has : ∀ (j : Nat) b, s.data.toList[j]? = some b → b.toNat < 128) (hac : ∀ (j : Nat) b, chars.data.toList[j]? = some b → b.toNat < 128) :
    Calls Try.prog 86 #[.string s, .string chars] w fun e w' => e = .returned (.bool (Lib.containsAny s.data.toList chars.data.toList)) ∧ Below w.heap.size w w' := Any.strings_ContainsAny_laid Try.lays150 (by kernel_rfl) s chars w hs hcs has hac

end Go.Proofs
