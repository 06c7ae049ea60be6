/-
  What is proved here: PackCells, of both packages: one answer. Conditions: at most 1048576 cells, each with room for itself.
-/
import Derived.Test.YtcoikcdglcpmcaaFpm
namespace Go.Proofs.Ytcoikcdglcpmcaa
open Go.RowKit
set_option linter.unusedVariables false

theorem specPackYes (A : Option Addr) (n c : Nat) (p : Nat → Bool) (w : World) (hr : RowV w w.heap.size A n (bo p)) (hn : n ≤ 256) :
    Calls Try.prog 40 #[.slice A n c] w fun e w' => e = .returned (.tuple #[.string ⟨(packU p n).toArray⟩, .bool true]) ∧ Hid (Below w.heap.size w w') := by
  have H := Lib.hid (specPak A n c p w hr hn)
  clear hr
  go_enter Try.func40, Try.ntmps40
  go_wp2_with fail
  refine H.out.mono ?_
  rintro e w' ⟨rfl, hb⟩
  go_wp2_with fail
  go_ret2
  exact ⟨rfl, hb⟩
theorem specPackNo (A : Option Addr) (n c : Nat) (w : World) (hn : 256 < n) (hn2 : n ≤ 1048576) :
    Calls Try.prog 40 #[.slice A n c] w fun e w' => e = .returned (.tuple #[.string ⟨#[]⟩, .bool false]) ∧ Hid (Below w.heap.size w w') := by
  go_enter Try.func40, Try.ntmps40
  go_wp2_with fail
  go_ret2
  exact ⟨rfl, Below.refl _ _⟩
theorem implPackNo (A : Option Addr) (n c : Nat) (w : World) (hn : 256 < n) (hn2 : n ≤ 1048576) :
    Calls Try.prog 42 #[.slice A n c] w fun e w' => e = .returned (.tuple #[.string ⟨#[]⟩, .bool false]) ∧ Hid (Below w.heap.size w w') := by
  go_enter Try.func42, Try.ntmps42
  go_wp2_with fail
  go_ret2
  exact ⟨rfl, Below.refl _ _⟩

theorem pakBoth (n : Nat) (p : Nat → Bool) (hn : n ≤ 1048576) : ∃ (s : ByteArray) (b : Bool),
    (∀ (W : World) (A : Option Addr) (c : Nat), RowV W W.heap.size A n (bo p) → n ≤ c → Calls Try.prog 40 #[.slice A n c] W fun e w' => e = .returned (.tuple #[.string s, .bool b]) ∧ Hid (Below W.heap.size W w')) ∧
    (∀ (W : World) (A : Option Addr) (c : Nat), RowV W W.heap.size A n (bo p) → n ≤ c → Calls Try.prog 42 #[.slice A n c] W fun e w' => e = .returned (.tuple #[.string s, .bool b]) ∧ Hid (Below W.heap.size W w')) := by
  by_cases h : n ≤ 256
  · exact ⟨_, true, fun W A c hr _ => specPackYes A n c p W hr h, fun W A c hr hc => implPak A n c p W hr hc h⟩
  · exact ⟨_, false, fun W A c _ _ => specPackNo A n c W (by omega) hn, fun W A c _ _ => implPackNo A n c W (by omega) hn⟩

end Go.Proofs.Ytcoikcdglcpmcaa
