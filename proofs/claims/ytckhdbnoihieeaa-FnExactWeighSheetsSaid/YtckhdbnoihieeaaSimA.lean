/-
  What is proved here: the laws SameNumber, IsFinite, BitsOf and FromBits as walks, whatever is drawn. Conditions: words fit their kinds.
-/
import Derived.Test.YtckhdbnoihieeaaNum
namespace Go.Proofs.Ytckhdbnoihieeaa
open Flt

theorem implBits (x : Nat) (hx : WF .f32 x) (w : World) :
    Calls Try.prog 93 #[.float .f32 x] w fun e w' => e = .returned (.int .i64 (bitsV x)) ∧ ∃ n, w' = w.drewN n := by
  have hb := f32bits
  cases hn : nanW .f32 x with
  | true =>
    go_enter Try.func93, Try.ntmps93
    go_wp2_with (go_at_call 85; refine (isNaN_any _ _).mono ?_; rintro e w' ⟨rfl, n, rfl⟩)
    go_ret
    refine ⟨?_, _, rfl⟩
    simp [bitsV, hn]
  | false =>
    have hl := hx.lt32
    have h2 : (0 : Int) ≤ x := by omega
    have h3 : (x : Int) ≤ 4294967295 := by omega
    clear hl
    go_enter Try.func93, Try.ntmps93
    go_wp2_with (go_at_call 85; refine (isNaN_any _ _).mono ?_; rintro e w' ⟨rfl, n, rfl⟩)
    go_ret
    refine ⟨?_, _, rfl⟩
    simp [bitsV, hn]


theorem implSame (a b : Nat) (ha : WF .f32 a) (hb : WF .f32 b) (w : World) :
    Calls Try.prog 74 #[.float .f32 a, .float .f32 b] w fun e w' => e = .returned (.bool (bitsV a == bitsV b)) ∧ ∃ n, w' = w.drewN n := by
  go_enter Try.func74, Try.ntmps74
  go_wp2_with (go_at_call 93; refine (implBits _ (by assumption) _).mono ?_; rintro e w' ⟨rfl, n, rfl⟩)
  go_ret
  exact ⟨rfl, _, rfl⟩









end Go.Proofs.Ytckhdbnoihieeaa
