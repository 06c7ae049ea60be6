/-
  What is proved here: numbers inside bounds, seeds and drawn numbers of both packages, as walks. Conditions: none but those that each theorem names.
-/
import Derived.Test.YtnhcmloaanamnaaCel
namespace Go.Proofs.Ytnhcmloaanamnaa
open Go.RowKit
set_option linter.unusedVariables false

/-- inside bounds -/
def inB (n lo hi : Int) : Bool := decide (lo ≤ n) && decide (n ≤ hi)
theorem inB_yes {n lo hi : Int} (h : inB n lo hi = true) : lo ≤ n ∧ n ≤ hi := by
  unfold inB at h
  rw [Bool.and_eq_true] at h
  exact ⟨of_decide_eq_true h.1, of_decide_eq_true h.2⟩
theorem inB_no {n lo hi : Int} (h : inB n lo hi = false) : ¬ (lo ≤ n ∧ n ≤ hi) := by
  intro g
  unfold inB at h
  rw [decide_eq_true g.1, decide_eq_true g.2] at h
  cases h
theorem inB_in {n lo hi : Int} (h1 : lo ≤ n) (h2 : n ≤ hi) : inB n lo hi = true := by
  unfold inB
  rw [decide_eq_true h1, decide_eq_true h2]; rfl
theorem inB_out {n lo hi : Int} (h : ¬ (lo ≤ n ∧ n ≤ hi)) : inB n lo hi = false := by
  cases e : inB n lo hi with
  | false => rfl
  | true => exact absurd (inB_yes e) h

theorem within_any (n lo hi : Int) (w : World) : Calls Try.prog 46 #[.int .i64 n, .int .i64 lo, .int .i64 hi] w fun e w' => e = .returned (.bool (inB n lo hi)) ∧ w = w' := by
  by_cases h1 : lo ≤ n
  · by_cases h2 : n ≤ hi
    · go_enter Try.func46, Try.ntmps46
      go_wp2
      go_ret
      exact ⟨by simp [inB, h1, h2], rfl⟩
    · have h3 : hi < n := by omega
      go_enter Try.func46, Try.ntmps46
      go_wp2
      go_ret
      exact ⟨by simp [inB, h2], rfl⟩
  · have h3 : n < lo := by omega
    go_enter Try.func46, Try.ntmps46
    go_wp2
    go_ret
    exact ⟨by simp [inB, show ¬ lo ≤ n by omega], rfl⟩
theorem inS_any (n lo hi : Int) (w : World) : Calls Try.prog 43 #[.int .i64 n, .int .i64 lo, .int .i64 hi] w fun e w' => e = .returned (.bool (inB n lo hi)) ∧ w = w' := by
  by_cases h1 : lo ≤ n
  · by_cases h2 : n ≤ hi
    · go_enter Try.func43, Try.ntmps43
      go_wp2
      go_ret
      exact ⟨by simp [inB, h1, h2], rfl⟩
    · have h3 : hi < n := by omega
      go_enter Try.func43, Try.ntmps43
      go_wp2
      go_ret
      exact ⟨by simp [inB, h2], rfl⟩
  · have h3 : n < lo := by omega
    go_enter Try.func43, Try.ntmps43
    go_wp2
    go_ret
    exact ⟨by simp [inB, show ¬ lo ≤ n by omega], rfl⟩

/-- sides of fields -/
def sidB (x y : Int) : Bool := inB x 1 16 && inB y 1 16
theorem sidB_yes {x y : Int} (h : sidB x y = true) : (1 ≤ x ∧ x ≤ 16) ∧ (1 ≤ y ∧ y ≤ 16) := by
  unfold sidB at h
  rw [Bool.and_eq_true] at h
  exact ⟨inB_yes h.1, inB_yes h.2⟩
theorem sid_bd {x y : Int} (h : sidB x y = true) : 1 ≤ x * y ∧ x * y ≤ 256 := by
  obtain ⟨⟨a, b⟩, c, d⟩ := sidB_yes h
  have h1 := Int.mul_le_mul b d (by omega) (by omega)
  have h2 := Int.mul_pos (show 0 < x by omega) (show 0 < y by omega)
  omega
theorem sid_in {x y : Int} (h : sidB x y = true) : IntKind.i64.wrap (x * y) = x * y := by
  obtain ⟨a, b⟩ := sid_bd h
  exact IntWalk.i64_in _ (by omega)

theorem specSides (x y : Int) (w : World) : Calls Try.prog 90 #[.int .i64 x, .int .i64 y] w fun e w' => e = .returned (.bool (sidB x y)) ∧ w = w' := by
  cases h1 : inB x 1 16
  · have N : Hid (sidB x y = false) := by show sidB x y = false; unfold sidB; rw [h1]; rfl
    have H1 := Lib.hid h1
    clear h1
    go_enter Try.func90, Try.ntmps90
    go_wp2_with (first | (go_at_call 46; refine (within_any _ _ _ _).mono ?_; rintro e w' ⟨rfl, rfl⟩; rw [H1.out]) | (go_at_call 43; refine (inS_any _ _ _ _).mono ?_; rintro e w' ⟨rfl, rfl⟩; rw [H1.out]))
    go_ret
    exact ⟨by rw [N.out]; rfl, rfl⟩
  · have N : Hid (sidB x y = inB y 1 16) := by show sidB x y = _; unfold sidB; rw [h1]; rfl
    have H1 := Lib.hid h1
    clear h1
    go_enter Try.func90, Try.ntmps90
    go_wp2_with (first | (go_at_call 46; refine (within_any _ _ _ _).mono ?_; rintro e w' ⟨rfl, rfl⟩; try rw [H1.out]) | (go_at_call 43; refine (inS_any _ _ _ _).mono ?_; rintro e w' ⟨rfl, rfl⟩; try rw [H1.out]))
    go_ret
    exact ⟨by rw [N.out]; rfl, rfl⟩
theorem implSides (x y : Int) (w : World) : Calls Try.prog 92 #[.int .i64 x, .int .i64 y] w fun e w' => e = .returned (.bool (sidB x y)) ∧ w = w' := by
  cases h1 : inB x 1 16
  · have N : Hid (sidB x y = false) := by show sidB x y = false; unfold sidB; rw [h1]; rfl
    have H1 := Lib.hid h1
    clear h1
    go_enter Try.func92, Try.ntmps92
    go_wp2_with (first | (go_at_call 46; refine (within_any _ _ _ _).mono ?_; rintro e w' ⟨rfl, rfl⟩; rw [H1.out]) | (go_at_call 43; refine (inS_any _ _ _ _).mono ?_; rintro e w' ⟨rfl, rfl⟩; rw [H1.out]))
    go_ret
    exact ⟨by rw [N.out]; rfl, rfl⟩
  · have N : Hid (sidB x y = inB y 1 16) := by show sidB x y = _; unfold sidB; rw [h1]; rfl
    have H1 := Lib.hid h1
    clear h1
    go_enter Try.func92, Try.ntmps92
    go_wp2_with (first | (go_at_call 46; refine (within_any _ _ _ _).mono ?_; rintro e w' ⟨rfl, rfl⟩; try rw [H1.out]) | (go_at_call 43; refine (inS_any _ _ _ _).mono ?_; rintro e w' ⟨rfl, rfl⟩; try rw [H1.out]))
    go_ret
    exact ⟨by rw [N.out]; rfl, rfl⟩

/-- the seed behind a seed, a number that is drawn with one -/
def nextS (s : Int) : Int := (1103515245 * s + 12345) % 2147483648
theorem nextS_bd (s : Int) : 0 ≤ nextS s ∧ nextS s ≤ 2147483647 := by unfold nextS; omega
def drawS (s n : Int) : Int := nextS s / 65536 % n
theorem drawS_bd (s : Int) {n : Int} (h : 0 < n) : 0 ≤ drawS s n ∧ drawS s n < n := ⟨Int.emod_nonneg _ (by omega), Int.emod_lt_of_pos _ h⟩
def itS (s : Int) : Nat → Int
  | 0 => s
  | k + 1 => nextS (itS s k)
theorem itS_bd (s : Int) (h0 : 0 ≤ s) (h1 : s ≤ 2147483647) (k : Nat) : 0 ≤ itS s k ∧ itS s k ≤ 2147483647 := by
  cases k with
  | zero => exact ⟨h0, h1⟩
  | succ k => exact nextS_bd _
def seedB (s : Int) : Bool := inB s 0 2147483647

theorem implNext (s : Int) (h0 : 0 ≤ s) (h1 : s ≤ 2147483647) (w : World) : Calls Try.prog 64 #[.int .i64 s] w fun e w' => e = .returned (.int .i64 (nextS s)) ∧ w = w' := by
  go_enter Try.func64, Try.ntmps64
  go_wp2
  go_ret
  exact ⟨rfl, rfl⟩
theorem implSeed (s : Int) (w : World) : Calls Try.prog 63 #[.int .i64 s] w fun e w' => e = .returned (.bool (seedB s)) ∧ w = w' := by
  go_enter Try.func63, Try.ntmps63
  go_wp2_with (go_at_call 46; refine (within_any _ _ _ _).mono ?_; rintro e w' ⟨rfl, rfl⟩)
  go_ret
  exact ⟨rfl, rfl⟩

end Go.Proofs.Ytnhcmloaanamnaa
