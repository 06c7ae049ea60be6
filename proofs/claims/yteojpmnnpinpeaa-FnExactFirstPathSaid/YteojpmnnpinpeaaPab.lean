/-
  What is proved here: FirstPath, of both packages: one answer. Conditions: at most 1048576 cells.
-/
import Derived.Test.YteojpmnnpinpeaaPai
import Derived.Test.YteojpmnnpinpeaaBub
namespace Go.Proofs.Yteojpmnnpinpeaa
open Go.RowKit
set_option linter.unusedVariables false
set_option linter.unusedSimpArgs false

theorem specPatNo (x y : Int) (F : Option Addr) (n f : Nat) (w : World) (hn : n ≤ 1048576) (h : fvB x y n = false) :
    Calls Try.prog 29 #[.agg #[.int .i64 x, .int .i64 y, .slice F n f]] w fun e w' => e = .returned (.tuple #[.slice none 0 0, .bool false]) ∧ Hid (Below w.heap.size w w') := by
  have B0 := below_var w x y F n f 35
  have V0 := varT_new w x y F n f 35
  have HI := Lib.hid (specIs _ x y F n f _ V0 hn)
  rw [h] at HI
  have HB := Lib.hid B0
  clear h B0 V0
  go_enter Try.func29, Try.ntmps29
  go_wp2_with fail
  refine HI.out.mono ?_
  rintro e w1 ⟨rfl, k, rfl⟩
  clear HI
  go_wp2_with fail
  go_ret2
  exact ⟨rfl, belowN HB.out⟩

theorem implPatNo (x y : Int) (F : Option Addr) (n f : Nat) (w : World) (hn : n ≤ 1048576) (h : fvB x y n = false) :
    Calls Try.prog 30 #[.agg #[.int .i64 x, .int .i64 y, .slice F n f]] w fun e w' => e = .returned (.tuple #[.slice none 0 0, .bool false]) ∧ Hid (Below w.heap.size w w') := by
  have B0 := below_var w x y F n f 35
  have V0 := varT_new w x y F n f 35
  have HI := Lib.hid (implBurNo x y F n f (w.alloc (.cells #[.int .i64 x, .int .i64 y, .slice F n f] 35)) hn h)
  have HB := Lib.hid B0
  have v0 := V0.c0
  have v1 := V0.c1
  have v2 := V0.c2
  clear h B0 V0
  go_enter Try.func30, Try.ntmps30
  go_wp2_with fail
  generalize w.alloc (.cells #[.int .i64 x, .int .i64 y, .slice F n f] 35) = b at *
  refine HI.out.mono ?_
  rintro e w1 ⟨rfl, hb⟩
  have HB1 := Lib.hid ((HB.out.trans (hb.out.mono HB.out.size)).trans (below_oneB w1 (.cells #[.slice none 0 0] 32) (Nat.le_trans HB.out.size hb.out.size)))
  clear hb HI HB v0 v1 v2
  go_wp2_with fail
  go_ret2
  exact ⟨rfl, HB1⟩

theorem patBoth (x y : Int) (n : Nat) (p : Nat → Bool) (hn : n ≤ 1048576) : ∃ (b : Bool) (fn : Nat) (ff : Nat → Int), fn ≤ 1048576 ∧
    (∀ (W : World) (A : Option Addr) (c : Nat), RowV W W.heap.size A n (bo p) → Calls Try.prog 29 #[.agg #[.int .i64 x, .int .i64 y, .slice A n c]] W fun e w' => ∃ A c, e = .returned (.tuple #[.slice A fn c, .bool b]) ∧ Hid (RowW w' W.heap.size w'.heap.size A fn (iv ff)) ∧ Hid (Below W.heap.size W w')) ∧
    (∀ (W : World) (A : Option Addr) (c : Nat), RowV W W.heap.size A n (bo p) → Calls Try.prog 30 #[.agg #[.int .i64 x, .int .i64 y, .slice A n c]] W fun e w' => ∃ A c, e = .returned (.tuple #[.slice A fn c, .bool b]) ∧ Hid (RowW w' W.heap.size w'.heap.size A fn (iv ff)) ∧ Hid (Below W.heap.size W w')) := by
  cases h : fvB x y n with
  | false => exact ⟨false, 0, fun _ => 0, by omega, fun W A c _ => (specPatNo x y A n c W hn h).mono fun e w' h => ⟨none, 0, h.1, RowW.empty (Nat.le_refl _), h.2⟩, fun W A c _ => (implPatNo x y A n c W hn h).mono fun e w' h => ⟨none, 0, h.1, RowW.empty (Nat.le_refl _), h.2⟩⟩
  | true =>
    have hw : wyN (burnT p x y n) x n ≤ 1048576 := by
      obtain ⟨_, _, hn1, hn2⟩ := fvB_yes h
      have hh := (dT_dist (x := x) (y := y) (pB_lt p n)).high (enP (burnT p x y n) x n).toNat
      have hh2 : burnT p x y n (enP (burnT p x y n) x n).toNat ≤ n := hh
      unfold wyN
      split <;> omega
    exact ⟨_, _, _, hw, fun W A c hr => specPat x y A n c p W hn hr h, fun W A c hr => implPat x y A n c p W hn hr h⟩

end Go.Proofs.Yteojpmnnpinpeaa
