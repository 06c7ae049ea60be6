/-
  What is proved here: SameField, of both packages: one answer. Conditions: at most 1048576 cells.
-/
import Derived.Test.YtcoikcdglcpmcaaFsA
import Derived.Test.YtcoikcdglcpmcaaFsB
import Derived.Test.YtcoikcdglcpmcaaFsC
import Derived.Test.YtcoikcdglcpmcaaFsD
namespace Go.Proofs.Ytcoikcdglcpmcaa
open Go.RowKit

theorem specSm (v v2 : Nat) (x y : Int) (A : Option Addr) (n c : Nat) (p : Nat → Bool) (x2 y2 : Int) (A2 : Option Addr) (n2 c2 : Nat) (p2 : Nat → Bool) (w : World) (V : VarT w v x y A n c) (V2 : VarT w v2 x2 y2 A2 n2 c2) (hr : RowV w w.heap.size A n (bo p)) (hq : RowV w w.heap.size A2 n2 (bo p2)) (hn : n ≤ 1048576) (hn2 : n2 ≤ 1048576) :
    Calls Try.prog 59 #[.pointer (some ⟨v, 0, none⟩), .pointer (some ⟨v2, 0, none⟩)] w fun e w' => e = .returned (.bool (sfB x y n p x2 y2 n2 p2)) ∧ ∃ k, w' = w.drewN k := by
  by_cases h1 : x = x2
  · by_cases h2 : y = y2
    · by_cases h3 : n = n2
      · exact specSmD v v2 x y A n c p x2 y2 A2 n2 c2 p2 w V V2 hr hq hn hn2 h1 h2 h3
      · exact specSmC v v2 x y A n c p x2 y2 A2 n2 c2 p2 w V V2 hr hq hn hn2 h1 h2 h3
    · exact specSmB v v2 x y A n c p x2 y2 A2 n2 c2 p2 w V V2 hr hq hn hn2 h1 h2
  · exact specSmA v v2 x y A n c p x2 y2 A2 n2 c2 p2 w V V2 hr hq hn hn2 h1

theorem specSf (x y : Int) (A : Option Addr) (n c : Nat) (p : Nat → Bool) (x2 y2 : Int) (A2 : Option Addr) (n2 c2 : Nat) (p2 : Nat → Bool) (w : World) (hr : RowV w w.heap.size A n (bo p)) (hq : RowV w w.heap.size A2 n2 (bo p2)) (hn : n ≤ 1048576) (hn2 : n2 ≤ 1048576) :
    Calls Try.prog 20 #[.agg #[.int .i64 x, .int .i64 y, .slice A n c], .agg #[.int .i64 x2, .int .i64 y2, .slice A2 n2 c2]] w fun e w' => e = .returned (.bool (sfB x y n p x2 y2 n2 p2)) ∧ Hid (Below w.heap.size w w') := by
  have B1 := below_var w x y A n c 27
  have B2 := below_var (w.alloc (.cells #[.int .i64 x, .int .i64 y, .slice A n c] 27)) x2 y2 A2 n2 c2 27
  have B0 := B1.trans (B2.mono B1.size)
  have HB := Lib.hid B0
  have V1 := (varT_new w x y A n c 27).below B2
  have V2 := varT_new (w.alloc (.cells #[.int .i64 x, .int .i64 y, .slice A n c] 27)) x2 y2 A2 n2 c2 27
  have HC := Lib.hid (specSm _ _ x y A n c p x2 y2 A2 n2 c2 p2 _ V1 V2 (hr.carry B0) (hq.carry B0) hn hn2)
  have e1 : (w.alloc (.cells #[.int .i64 x, .int .i64 y, .slice A n c] 27)).heap.size = w.heap.size + 1 := by simp
  rw [e1] at HC
  clear hr hq B0 B1 B2 V1 V2 e1
  go_enter Try.func20, Try.ntmps20
  go_wp2_with fail
  refine HC.out.mono ?_
  rintro e w' ⟨rfl, k, rfl⟩
  clear HC
  go_wp2_with fail
  go_ret
  exact ⟨rfl, belowN HB.out⟩


theorem samBoth (x y : Int) (n : Nat) (p : Nat → Bool) (x2 y2 : Int) (n2 : Nat) (p2 : Nat → Bool) (hn : n ≤ 1048576) (hn2 : n2 ≤ 1048576) : ∃ b,
    (∀ (W : World) (A : Option Addr) (c : Nat) (A2 : Option Addr) (c2 : Nat), RowV W W.heap.size A n (bo p) → RowV W W.heap.size A2 n2 (bo p2) → Calls Try.prog 20 #[.agg #[.int .i64 x, .int .i64 y, .slice A n c], .agg #[.int .i64 x2, .int .i64 y2, .slice A2 n2 c2]] W fun e w' => e = .returned (.bool b) ∧ Hid (Below W.heap.size W w')) ∧
    (∀ (W : World) (A : Option Addr) (c : Nat) (A2 : Option Addr) (c2 : Nat), RowV W W.heap.size A n (bo p) → RowV W W.heap.size A2 n2 (bo p2) → Calls Try.prog 21 #[.agg #[.int .i64 x, .int .i64 y, .slice A n c], .agg #[.int .i64 x2, .int .i64 y2, .slice A2 n2 c2]] W fun e w' => e = .returned (.bool b) ∧ Hid (Below W.heap.size W w')) :=
  ⟨sfB x y n p x2 y2 n2 p2, fun W A c A2 c2 h g => specSf x y A n c p x2 y2 A2 n2 c2 p2 W h g hn hn2, fun W A c A2 c2 h g => implSf x y A n c p x2 y2 A2 n2 c2 p2 W h g hn hn2⟩

end Go.Proofs.Ytcoikcdglcpmcaa
