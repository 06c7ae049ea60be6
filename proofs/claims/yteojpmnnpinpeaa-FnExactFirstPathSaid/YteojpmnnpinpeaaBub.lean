/-
  What is proved here: BurnTimes, of both packages: one answer. Conditions: at most 1048576 cells.
-/
import Derived.Test.YteojpmnnpinpeaaBus
import Derived.Test.YteojpmnnpinpeaaBui
import Derived.Test.YteojpmnnpinpeaaLvi
namespace Go.Proofs.Yteojpmnnpinpeaa
open Go.RowKit
set_option linter.unusedVariables false

theorem specBur (x y : Int) (F : Option Addr) (n f : Nat) (p : Nat → Bool) (w : World) (hn : n ≤ 1048576) (hr : RowV w w.heap.size F n (bo p)) (h : fvB x y n = true) :
    Calls Try.prog 21 #[.agg #[.int .i64 x, .int .i64 y, .slice F n f]] w fun e w' => ∃ A c, e = .returned (.tuple #[.slice A n c, .int .i64 (maxD (burnT p x y n) n), .bool true]) ∧ Hid (RowW w' w.heap.size w'.heap.size A n (iv (burnT p x y n))) ∧ Hid (Below w.heap.size w w') := by
  have B0 := below_var w x y F n f 35
  have V0 := varT_new w x y F n f 35
  have HI := Lib.hid (specIs _ x y F n f _ V0 hn)
  rw [h] at HI
  have HB := Lib.hid B0
  have HV := Lib.hid V0
  have HR := Lib.hid (hr.carry B0)
  have HC := Lib.hid (fun W V r => specBurn w.heap.size x y F n f p W h V r)
  clear hr h B0 V0
  go_enter Try.func21, Try.ntmps21
  go_wp2_with fail
  generalize w.alloc (.cells #[.int .i64 x, .int .i64 y, .slice F n f] 35) = b at *
  refine HI.out.mono ?_
  rintro e w1 ⟨rfl, k, rfl⟩
  have HB1 : Hid (Below b.heap.size b (b.drewN k)) := belowN (Below.refl _ _)
  clear HI
  go_wp2_with fail
  refine (HC.out _ (HV.out.below HB1.out) (HR.out.carry HB1.out)).mono ?_
  rintro e w2 ⟨A, c, rfl, hW, hb2⟩
  have HB2 := Lib.hid (HB.out.trans ((HB1.out.trans hb2.out).mono HB.out.size))
  have HW := Lib.hid (hW.out.lower (Nat.le_trans HB.out.size HB1.out.size))
  clear hb2 hW HC HV HR HB HB1
  go_wp2_with fail
  go_ret3
  exact ⟨A, c, rfl, HW, HB2⟩
theorem specBurNo (x y : Int) (F : Option Addr) (n f : Nat) (w : World) (hn : n ≤ 1048576) (h : fvB x y n = false) :
    Calls Try.prog 21 #[.agg #[.int .i64 x, .int .i64 y, .slice F n f]] w fun e w' => e = .returned (.tuple #[.slice none 0 0, .int .i64 0, .bool false]) ∧ Hid (Below w.heap.size w w') := by
  have B0 := below_var w x y F n f 35
  have V0 := varT_new w x y F n f 35
  have HI := Lib.hid (specIs _ x y F n f _ V0 hn)
  rw [h] at HI
  have HB := Lib.hid B0
  clear h B0 V0
  go_enter Try.func21, Try.ntmps21
  go_wp2_with fail
  refine HI.out.mono ?_
  rintro e w1 ⟨rfl, k, rfl⟩
  clear HI
  go_wp2_with fail
  go_ret3
  exact ⟨rfl, belowN HB.out⟩

theorem implBurNo (x y : Int) (F : Option Addr) (n f : Nat) (w : World) (hn : n ≤ 1048576) (h : fvB x y n = false) :
    Calls Try.prog 23 #[.agg #[.int .i64 x, .int .i64 y, .slice F n f]] w fun e w' => e = .returned (.tuple #[.slice none 0 0, .int .i64 0, .bool false]) ∧ Hid (Below w.heap.size w w') := by
  have B0 := below_var w x y F n f 35
  have V0 := varT_new w x y F n f 35
  have HI := Lib.hid (implValid x y F n f (w.alloc (.cells #[.int .i64 x, .int .i64 y, .slice F n f] 35)) hn)
  have HB := Lib.hid B0
  have v0 := V0.c0
  have v1 := V0.c1
  have v2 := V0.c2
  rw [h] at HI
  clear h B0 V0
  go_enter Try.func23, Try.ntmps23
  go_wp2_with fail
  try go_step3
  go_wp2_with fail
  generalize w.alloc (.cells #[.int .i64 x, .int .i64 y, .slice F n f] 35) = b at *
  refine HI.out.mono ?_
  rintro e w1 ⟨rfl, hb⟩
  have HB1 := Lib.hid (HB.out.trans (hb.out.mono HB.out.size))
  clear hb HI HB v0 v1 v2
  go_wp2_with fail
  try rw [Exit.noGoto_ret]
  go_ret3
  exact ⟨rfl, HB1⟩

theorem burBoth (x y : Int) (n : Nat) (p : Nat → Bool) (hn : n ≤ 1048576) : ∃ (sq : Int) (b : Bool) (fn : Nat) (ff : Nat → Int), fn ≤ 1048576 ∧
    (∀ (W : World) (A : Option Addr) (c : Nat), RowV W W.heap.size A n (bo p) → Calls Try.prog 21 #[.agg #[.int .i64 x, .int .i64 y, .slice A n c]] W fun e w' => ∃ A c, e = .returned (.tuple #[.slice A fn c, .int .i64 sq, .bool b]) ∧ Hid (RowW w' W.heap.size w'.heap.size A fn (iv ff)) ∧ Hid (Below W.heap.size W w')) ∧
    (∀ (W : World) (A : Option Addr) (c : Nat), RowV W W.heap.size A n (bo p) → Calls Try.prog 23 #[.agg #[.int .i64 x, .int .i64 y, .slice A n c]] W fun e w' => ∃ A c, e = .returned (.tuple #[.slice A fn c, .int .i64 sq, .bool b]) ∧ Hid (RowW w' W.heap.size w'.heap.size A fn (iv ff)) ∧ Hid (Below W.heap.size W w')) := by
  cases h : fvB x y n with
  | false => exact ⟨0, false, 0, fun _ => 0, by omega, fun W A c _ => (specBurNo x y A n c W hn h).mono fun e w' h => ⟨none, 0, h.1, RowW.empty (Nat.le_refl _), h.2⟩, fun W A c _ => (implBurNo x y A n c W hn h).mono fun e w' h => ⟨none, 0, h.1, RowW.empty (Nat.le_refl _), h.2⟩⟩
  | true => exact ⟨_, true, n, _, hn, fun W A c hr => specBur x y A n c p W hn hr h, fun W A c hr => implBurn x y A n c p W h hr⟩

end Go.Proofs.Yteojpmnnpinpeaa
