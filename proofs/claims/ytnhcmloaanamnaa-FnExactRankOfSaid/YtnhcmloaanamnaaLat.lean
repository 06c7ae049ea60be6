/-
  What is proved here: seeds, drawn numbers and the numbers of lattices, of both packages, as walks; the law LatticeAt. Conditions: seeds from 0 to 2147483647.
-/
import Derived.Test.YtnhcmloaanamnaaSum
namespace Go.Proofs.Ytnhcmloaanamnaa
open Flt Go.RowKit

/-- the seed behind a seed -/
def nextS (s : Int) : Int := (1103515245 * s + 12345) % 2147483648
theorem nextS_bd (s : Int) : 0 ≤ nextS s ∧ nextS s ≤ 2147483647 := by unfold nextS; omega
/-- the number that is drawn with a seed -/
def drawF (s : Int) : Option Nat := fop .quo .f32 (can .f32 (floatOfInt .f32 (s / 65536 - 16384))) (can .f32 1182793728)
/-- inside bounds -/
def inB (n lo hi : Int) : Bool := decide (lo ≤ n) && decide (n ≤ hi)
def seedB (s : Int) : Bool := inB s 0 2147483647
theorem inB_yes {n lo hi : Int} (h : inB n lo hi = true) : lo ≤ n ∧ n ≤ hi := by
  unfold inB at h
  rw [Bool.and_eq_true] at h
  exact ⟨of_decide_eq_true h.1, of_decide_eq_true h.2⟩

theorem specNext (s : Int) (h0 : 0 ≤ s) (h1 : s ≤ 2147483647) (w : World) : Calls Try.prog 58 #[.int .i64 s] w fun e w' => e = .returned (.int .i64 (nextS s)) ∧ w = w' := by
  go_enter Try.func58, Try.ntmps58
  go_wp2
  go_ret
  exact ⟨rfl, rfl⟩
theorem implNext (s : Int) (h0 : 0 ≤ s) (h1 : s ≤ 2147483647) (w : World) : Calls Try.prog 64 #[.int .i64 s] w fun e w' => e = .returned (.int .i64 (nextS s)) ∧ w = w' := by
  go_enter Try.func64, Try.ntmps64
  go_wp2
  go_ret
  exact ⟨rfl, rfl⟩
theorem specDrawn (s : Int) (h0 : 0 ≤ s) (h1 : s ≤ 2147483647) (w : World) : Calls Try.prog 59 #[.int .i64 s] w (FPost .f32 (drawF s) w) := by
  go_enter Try.func59, Try.ntmps59
  go_wp2_with ((with_reducible refine upon_bin rfl ?_); intro _ _ _ _)
  rename_i r n wr er
  go_ret
  exact fpost (by rw [er.out]; rfl) wr
theorem implDrawn (s : Int) (h0 : 0 ≤ s) (h1 : s ≤ 2147483647) (w : World) : Calls Try.prog 65 #[.int .i64 s] w (FPost .f32 (drawF s) w) := by
  go_enter Try.func65, Try.ntmps65
  go_wp2_with ((with_reducible refine upon_bin rfl ?_); intro _ _ _ _)
  rename_i r n wr er
  go_ret
  exact fpost (by rw [er.out]; rfl) wr
theorem within_any (n lo hi : Int) (w : World) : Calls Try.prog 46 #[.int .i64 n, .int .i64 lo, .int .i64 hi] w fun e w' => e = .returned (.bool (inB n lo hi)) ∧ w = w' := by
  by_cases h1 : lo ≤ n
  · by_cases h2 : n ≤ hi
    · go_enter Try.func46, Try.ntmps46
      go_wp2
      go_ret
      exact ⟨by simp [inB, h1, h2], rfl⟩
    · have h3 : hi < n := by omega
      go_enter Try.func46, Try.ntmps46
      go_wp2
      go_ret
      exact ⟨by simp [inB, h2], rfl⟩
  · have h3 : n < lo := by omega
    go_enter Try.func46, Try.ntmps46
    go_wp2
    go_ret
    exact ⟨by simp [inB, show ¬ lo ≤ n by omega], rfl⟩
theorem inS_any (n lo hi : Int) (w : World) : Calls Try.prog 43 #[.int .i64 n, .int .i64 lo, .int .i64 hi] w fun e w' => e = .returned (.bool (inB n lo hi)) ∧ w = w' :=
  (in_any n lo hi w).mono fun _ _ ⟨h1, h2⟩ => ⟨h1, h2.symm⟩
theorem specSeed (s : Int) (w : World) : Calls Try.prog 57 #[.int .i64 s] w fun e w' => e = .returned (.bool (seedB s)) ∧ w = w' := by
  go_enter Try.func57, Try.ntmps57
  go_wp2_with (go_at_call 43; refine (inS_any _ _ _ _).mono ?_; rintro e w' ⟨rfl, rfl⟩)
  go_ret
  exact ⟨rfl, rfl⟩
theorem implSeed (s : Int) (w : World) : Calls Try.prog 63 #[.int .i64 s] w fun e w' => e = .returned (.bool (seedB s)) ∧ w = w' := by
  go_enter Try.func63, Try.ntmps63
  go_wp2_with (go_at_call 46; refine (within_any _ _ _ _).mono ?_; rintro e w' ⟨rfl, rfl⟩)
  go_ret
  exact ⟨rfl, rfl⟩

/-- the number of a place -/
def startS (s x y : Int) : Int := (s + 374761393 * x + 668265263 * y) % 2147483648
theorem startS_bd (s x y : Int) : 0 ≤ startS s x y ∧ startS s x y ≤ 2147483647 := by unfold startS; omega
/-- so many seeds on -/
def itS (s : Int) : Nat → Int
  | 0 => s
  | k + 1 => nextS (itS s k)
theorem itS_bd (s : Int) (h0 : 0 ≤ s) (h1 : s ≤ 2147483647) (k : Nat) : 0 ≤ itS s k ∧ itS s k ≤ 2147483647 := by
  cases k with
  | zero => exact ⟨h0, h1⟩
  | succ k => exact nextS_bd _
def latF (s x y : Int) : Option Nat := drawF (nextS (nextS (nextS (startS s x y))))


def latB (s x y : Int) : Bool := seedB s && (inB x 0 1000000 && inB y 0 1000000)
/-- what a function of numbers gives: a word, and whether it has one -/
def VPost (c : Option Nat) (b : Bool) (w : World) (e : Ending) (w' : World) : Prop := ∃ g n, e = .returned (.tuple #[.float .f32 g, .bool b]) ∧ w' = w.drewN n ∧ Hid (can .f32 g = c) ∧ WF .f32 g
theorem vpost {c : Option Nat} {b : Bool} {w : World} {g n : Nat} (h : can .f32 g = c) (hw : WF .f32 g) : VPost c b w (.returned (.tuple #[.float .f32 g, .bool b])) (w.drewN n) := ⟨g, n, rfl, rfl, h, hw⟩
theorem vpost_no {w : World} {n : Nat} : VPost (some 0) false w (.returned (.tuple #[.float .f32 0, .bool false])) (w.drewN n) := ⟨0, n, rfl, rfl, by show can .f32 0 = some 0; decide, ⟨by decide⟩⟩
theorem vpost_no0 {w : World} : VPost (some 0) false w (.returned (.tuple #[.float .f32 0, .bool false])) w := ⟨0, 0, rfl, rfl, by show can .f32 0 = some 0; decide, ⟨by decide⟩⟩

theorem latB_1 {s x y : Int} (h : seedB s = false) : latB s x y = false := by unfold latB; rw [h]; rfl
theorem latB_2 {s x y : Int} (h : inB x 0 1000000 = false) : latB s x y = false := by unfold latB; rw [h, Bool.false_and, Bool.and_false]
theorem latB_3 {s x y : Int} (h : inB y 0 1000000 = false) : latB s x y = false := by unfold latB; rw [h, Bool.and_false, Bool.and_false]




end Go.Proofs.Ytnhcmloaanamnaa
