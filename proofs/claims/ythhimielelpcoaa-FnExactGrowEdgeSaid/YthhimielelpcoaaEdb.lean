/-
  What is proved here: GrowEdge of both packages gives the same, whatever is given. Conditions: at most 1048576 cells.
-/
import Derived.Test.YthhimielelpcoaaEdi
namespace Go.Proofs.Ythhimielelpcoaa
open Go.RowKit
set_option linter.unusedVariables false

theorem GrPost.yes {x y s : Int} {n cn : Nat} {p : Nat → Bool} {w w' : World} {e : Ending} (hg : grB x y n p s cn = true) (h : GrPost x y n p s cn w e w') :
    ∃ A' c', e = .returned (.tuple #[.agg #[.int .i64 x, .int .i64 y, .slice A' n c'], .int .i64 (grJ x y n p s cn).2, .bool true]) ∧ Hid (RowW w' w.heap.size w'.heap.size A' n (bo (grJ x y n p s cn).1)) ∧ Hid (Below w.heap.size w w') := by
  obtain ⟨hb, ⟨_, A', c', he, hr⟩ | ⟨h2, _⟩⟩ := h
  · exact ⟨A', c', he, hr, hb⟩
  · rw [hg] at h2; cases h2
theorem GrPost.no {x y s : Int} {n cn : Nat} {p : Nat → Bool} {w w' : World} {e : Ending} (hg : grB x y n p s cn = false) (h : GrPost x y n p s cn w e w') :
    ∃ A' c', e = .returned (.tuple #[.agg #[.int .i64 0, .int .i64 0, .slice A' 0 c'], .int .i64 0, .bool false]) ∧ Hid (RowW w' w.heap.size w'.heap.size A' 0 (bo (fun _ => false))) ∧ Hid (Below w.heap.size w w') := by
  obtain ⟨hb, ⟨h2, _⟩ | ⟨_, he⟩⟩ := h
  · rw [hg] at h2; cases h2
  · exact ⟨none, 0, he, ⟨Nat.le_refl _, fun a ha => (by cases ha), fun h => absurd h (Nat.not_lt_zero _)⟩, hb⟩

theorem groBoth (x y : Int) (n : Nat) (p : Nat → Bool) (cn sd : Int) (hn : n ≤ 1048576) : ∃ (sq : Int) (b : Bool) (fx fy : Int) (fn : Nat) (ff : Nat → Bool), fn ≤ 1048576 ∧
    (∀ (W : World) (A : Option Addr) (c : Nat), RowV W W.heap.size A n (bo p) → Calls Try.prog 10 #[.agg #[.int .i64 x, .int .i64 y, .slice A n c], .int .i64 cn, .int .i64 sd] W fun e w' => ∃ A' c', e = .returned (.tuple #[.agg #[.int .i64 fx, .int .i64 fy, .slice A' fn c'], .int .i64 sq, .bool b]) ∧ Hid (RowW w' W.heap.size w'.heap.size A' fn (bo ff)) ∧ Hid (Below W.heap.size W w')) ∧
    (∀ (W : World) (A : Option Addr) (c : Nat), RowV W W.heap.size A n (bo p) → Calls Try.prog 12 #[.agg #[.int .i64 x, .int .i64 y, .slice A n c], .int .i64 cn, .int .i64 sd] W fun e w' => ∃ A' c', e = .returned (.tuple #[.agg #[.int .i64 fx, .int .i64 fy, .slice A' fn c'], .int .i64 sq, .bool b]) ∧ Hid (RowW w' W.heap.size w'.heap.size A' fn (bo ff)) ∧ Hid (Below W.heap.size W w')) := by
  cases h : (fvB x y n && inB cn 0 512 && seedB sd) with
  | false => exact ⟨0, false, 0, 0, 0, fun _ => false, by omega, fun W A c hr => specGrNo x y A n c p cn sd W hr hn _ _ _ rfl rfl rfl h, fun W A c hr => implGrNo x y A n c p cn sd W hr hn _ _ _ rfl rfl rfl h⟩
  | true =>
    rw [Bool.and_eq_true, Bool.and_eq_true] at h
    obtain ⟨⟨hv, hc⟩, hs⟩ := h
    obtain ⟨c0, c1⟩ := inB_yes hc
    obtain ⟨s0, s1⟩ := inB_yes hs
    obtain ⟨k, rfl⟩ : ∃ k : Nat, cn = (k : Int) := ⟨cn.toNat, by omega⟩
    cases hg : grB x y n p sd k with
    | true => exact ⟨(grJ x y n p sd k).2, true, x, y, n, (grJ x y n p sd k).1, hn, fun W A c hr => (specGrYes x y A n c p k sd W hr hn hv (by omega) s0 s1).mono fun e w' h => h.yes hg, fun W A c hr => (implGrYes x y A n c p k sd W hr hn hv (by omega) s0 s1).mono fun e w' h => h.yes hg⟩
    | false => exact ⟨0, false, 0, 0, 0, fun _ => false, by omega, fun W A c hr => (specGrYes x y A n c p k sd W hr hn hv (by omega) s0 s1).mono fun e w' h => h.no hg, fun W A c hr => (implGrYes x y A n c p k sd W hr hn hv (by omega) s0 s1).mono fun e w' h => h.no hg⟩
end Go.Proofs.Ythhimielelpcoaa
