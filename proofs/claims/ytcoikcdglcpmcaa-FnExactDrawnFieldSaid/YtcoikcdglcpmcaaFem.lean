/-
  What is proved here: a field without full cells, of both packages, as walks. Conditions: none.
-/
import Derived.Test.YtcoikcdglcpmcaaFva
namespace Go.Proofs.Ytcoikcdglcpmcaa
open Go.RowKit
set_option linter.unusedVariables false

theorem made_at (w : World) (c : Array Value) (n : Nat) (z : Value) (t u : TypeId) : RowM ((w.alloc (.cells c t)).alloc (.cells (madeCells #[z] n) u)) (w.heap.size + 1) n (fun _ => z) := by
  have := rowM_new (w.alloc (.cells c t)) n z u
  rwa [show (w.alloc (.cells c t)).heap.size = w.heap.size + 1 by simp] at this

theorem specEmpNo (x y : Int) (w : World) (h : sidB x y = false) :
    Calls Try.prog 22 #[.int .i64 x, .int .i64 y] w fun e w' => ∃ A c, e = .returned (.tuple #[.agg #[.int .i64 0, .int .i64 0, .slice A 0 c], .bool false]) ∧ Hid (RowW w' w.heap.size w'.heap.size A 0 (bo fun _ => false)) ∧ Hid (Below w.heap.size w w') := by
  have HS := Lib.hid (specSides x y)
  rw [h] at HS
  have B0 := Lib.hid (below_var w 0 0 none 0 0 27)
  clear h
  go_enter Try.func22, Try.ntmps22
  go_wp2_with (go_at_call 61; refine (HS.out _).mono ?_; rintro e w' ⟨rfl, rfl⟩)
  exact bodyPost_ret (v := .tuple #[.agg #[.int .i64 0, .int .i64 0, .slice none 0 0], .bool false]) (by simp [results, Try.results22, go_sem]) rfl ⟨none, 0, rfl, RowW.empty (Nat.le_refl _), B0⟩

theorem specEmpYes (x y : Int) (n : Nat) (w : World) (h : sidB x y = true) (e : x * y = n) :
    Calls Try.prog 22 #[.int .i64 x, .int .i64 y] w fun e w' => ∃ A c, e = .returned (.tuple #[.agg #[.int .i64 x, .int .i64 y, .slice A n c], .bool true]) ∧ Hid (RowW w' w.heap.size w'.heap.size A n (bo fun _ => false)) ∧ Hid (Below w.heap.size w w') := by
  have HS := Lib.hid (specSides x y)
  rw [h] at HS
  have hw := sid_in h
  have hmk := run_mkB n (by have := sid_bd h; omega)
  rw [e] at hw
  have B0 := Lib.hid (below_var w 0 0 none 0 0 27)
  clear h
  go_enter Try.func22, Try.ntmps22
  go_wp2_with (go_at_call 61; refine (HS.out _).mono ?_; rintro e w' ⟨rfl, rfl⟩)
  have M := made_at w #[.int .i64 x, .int .i64 y, .slice (some ⟨w.heap.size + 1, 0, none⟩) n n] n (.bool false) 27 4
  exact bodyPost_ret (v := .tuple #[.agg #[.int .i64 x, .int .i64 y, .slice (some ⟨w.heap.size + 1, 0, none⟩) n n], .bool true]) (by simp [results, Try.results22, go_sem]) rfl ⟨_, _, rfl, M.rowW (Nat.le_succ _), ((Below.refl _ _).alloc (Nat.le_refl _) _).alloc (by simp) _⟩
theorem implEmpNo (x y : Int) (w : World) (h : sidB x y = false) :
    Calls Try.prog 23 #[.int .i64 x, .int .i64 y] w fun e w' => ∃ A c, e = .returned (.tuple #[.agg #[.int .i64 0, .int .i64 0, .slice A 0 c], .bool false]) ∧ Hid (RowW w' w.heap.size w'.heap.size A 0 (bo fun _ => false)) ∧ Hid (Below w.heap.size w w') := by
  have HS := Lib.hid (implSides x y)
  rw [h] at HS
  have B0 := Lib.hid (below_var w 0 0 none 0 0 27)
  clear h
  go_enter Try.func23, Try.ntmps23
  go_wp2_with (go_at_call 58; refine (HS.out _).mono ?_; rintro e w' ⟨rfl, rfl⟩)
  exact bodyPost_ret (v := .tuple #[.agg #[.int .i64 0, .int .i64 0, .slice none 0 0], .bool false]) (by simp [results, Try.results23, go_sem]) rfl ⟨none, 0, rfl, RowW.empty (Nat.le_refl _), B0⟩

theorem implEmpYes (x y : Int) (n : Nat) (w : World) (h : sidB x y = true) (e : x * y = n) :
    Calls Try.prog 23 #[.int .i64 x, .int .i64 y] w fun e w' => ∃ A c, e = .returned (.tuple #[.agg #[.int .i64 x, .int .i64 y, .slice A n c], .bool true]) ∧ Hid (RowW w' w.heap.size w'.heap.size A n (bo fun _ => false)) ∧ Hid (Below w.heap.size w w') := by
  have HS := Lib.hid (implSides x y)
  rw [h] at HS
  have hw := sid_in h
  have hmk := run_mkB n (by have := sid_bd h; omega)
  rw [e] at hw
  have B0 := Lib.hid (below_var w 0 0 none 0 0 27)
  clear h
  go_enter Try.func23, Try.ntmps23
  go_wp2_with (go_at_call 58; refine (HS.out _).mono ?_; rintro e w' ⟨rfl, rfl⟩)
  have M := made_at w #[.int .i64 x, .int .i64 y, .slice (some ⟨w.heap.size + 1, 0, none⟩) n n] n (.bool false) 27 4
  exact bodyPost_ret (v := .tuple #[.agg #[.int .i64 x, .int .i64 y, .slice (some ⟨w.heap.size + 1, 0, none⟩) n n], .bool true]) (by simp [results, Try.results23, go_sem]) rfl ⟨_, _, rfl, M.rowW (Nat.le_succ _), ((Below.refl _ _).alloc (Nat.le_refl _) _).alloc (by simp) _⟩

theorem empBoth (x y : Int) : ∃ b fx fy fn ff, fn ≤ 1048576 ∧
    (∀ (w : World), Calls Try.prog 22 #[.int .i64 x, .int .i64 y] w fun e w' => ∃ A c, e = .returned (.tuple #[.agg #[.int .i64 fx, .int .i64 fy, .slice A fn c], .bool b]) ∧ Hid (RowW w' w.heap.size w'.heap.size A fn (bo ff)) ∧ Hid (Below w.heap.size w w')) ∧
    (∀ (w : World), Calls Try.prog 23 #[.int .i64 x, .int .i64 y] w fun e w' => ∃ A c, e = .returned (.tuple #[.agg #[.int .i64 fx, .int .i64 fy, .slice A fn c], .bool b]) ∧ Hid (RowW w' w.heap.size w'.heap.size A fn (bo ff)) ∧ Hid (Below w.heap.size w w')) := by
  cases h : sidB x y with
  | false => exact ⟨false, 0, 0, 0, fun _ => false, by omega, fun w => specEmpNo x y w h, fun w => implEmpNo x y w h⟩
  | true =>
    have hb := sid_bd h
    have e : x * y = ((x * y).toNat : Int) := by omega
    exact ⟨true, x, y, (x * y).toNat, fun _ => false, by omega, fun w => specEmpYes x y _ w h e, fun w => implEmpYes x y _ w h e⟩

end Go.Proofs.Ytcoikcdglcpmcaa
