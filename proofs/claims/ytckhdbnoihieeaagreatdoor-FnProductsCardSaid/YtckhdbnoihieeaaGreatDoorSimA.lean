/-
  What is proved here: the laws SameNumber, IsFinite, BitsOf and FromBits as walks, whatever is drawn. Conditions: words fit their kinds.
-/
import Derived.Test.YtckhdbnoihieeaaGreatDoorNum
namespace Go.Proofs.YtckhdbnoihieeaaGreatDoor
open Flt

theorem implBits (x : Nat) (hx : WF .f32 x) (w : World) :
    Calls Tryz.prog 20 #[.float .f32 x] w fun e w' => e = .returned (.int .i64 (bitsV x)) ∧ ∃ n, w' = w.drewN n := by
  have hb := f32bits
  cases hn : nanW .f32 x with
  | true =>
    go_enter Tryz.func20, Tryz.ntmps20
    go_wp2_with (go_at_call 44; refine (isNaN_any _ _).mono ?_; rintro e w' ⟨rfl, n, rfl⟩)
    go_ret
    refine ⟨?_, _, rfl⟩
    simp [bitsV, hn]
  | false =>
    have hl := hx.lt32
    have h2 : (0 : Int) ≤ x := by omega
    have h3 : (x : Int) ≤ 4294967295 := by omega
    clear hl
    go_enter Tryz.func20, Tryz.ntmps20
    go_wp2_with (go_at_call 44; refine (isNaN_any _ _).mono ?_; rintro e w' ⟨rfl, n, rfl⟩)
    go_ret
    refine ⟨?_, _, rfl⟩
    simp [bitsV, hn]

theorem specSame (a b : Nat) (ha : WF .f32 a) (hb : WF .f32 b) (w : World) :
    Calls Tryz.prog 9 #[.float .f32 a, .float .f32 b] w fun e w' => e = .returned (.bool (bitsV a == bitsV b)) ∧ ∃ n, w' = w.drewN n := by
  go_enter Tryz.func9, Tryz.ntmps9
  go_wp2_with (first | (go_at_call 54; refine (specBits _ (by assumption) _).mono ?_; rintro e w' ⟨rfl, rfl⟩) | go_in)
  go_ret
  exact ⟨rfl, 0, rfl⟩
theorem implSame (a b : Nat) (ha : WF .f32 a) (hb : WF .f32 b) (w : World) :
    Calls Tryz.prog 49 #[.float .f32 a, .float .f32 b] w fun e w' => e = .returned (.bool (bitsV a == bitsV b)) ∧ ∃ n, w' = w.drewN n := by
  go_enter Tryz.func49, Tryz.ntmps49
  go_wp2_with (go_at_call 20; refine (implBits _ (by assumption) _).mono ?_; rintro e w' ⟨rfl, n, rfl⟩)
  go_ret
  exact ⟨rfl, _, rfl⟩






theorem implFrom_no (n : Int) (h : n < 0 ∨ 4294967295 < n) (w : World) :
    Calls Tryz.prog 19 #[.int .i64 n] w fun e w' => e = .returned (.tuple #[.float .f32 0, .bool false]) ∧ w' = w := by
  rcases h with h | h
  · go_enter Tryz.func19, Tryz.ntmps19
    go_wp2
    go_ret2
    exact ⟨rfl, rfl⟩
  · have h' : 0 ≤ n := by omega
    go_enter Tryz.func19, Tryz.ntmps19
    go_wp2
    go_ret2
    exact ⟨rfl, rfl⟩

theorem implFrom_yes (n : Int) (h1 : 0 ≤ n) (h2 : n ≤ 4294967295) (w : World) :
    Calls Tryz.prog 19 #[.int .i64 n] w fun e w' => e = .returned (.tuple #[.float .f32 n.toNat, .bool true]) ∧ w' = w := by
  have hb := f32frombits
  go_enter Tryz.func19, Tryz.ntmps19
  go_wp2
  go_ret2
  exact ⟨rfl, rfl⟩


end Go.Proofs.YtckhdbnoihieeaaGreatDoor
