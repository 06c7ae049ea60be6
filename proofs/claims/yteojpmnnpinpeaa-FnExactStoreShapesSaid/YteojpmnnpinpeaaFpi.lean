/-
  What is proved here: the runs of cells as the program packs them, as walks; one answer of both packages. Conditions: at most 1048576 cells, each with room for itself.
-/
import Derived.Test.YteojpmnnpinpeaaFpl
namespace Go.Proofs.Yteojpmnnpinpeaa
open Go.RowKit
set_option linter.unusedVariables false

theorem runB_shift (p : Nat → Bool) (f : Bool) (a m : Nat) : ∀ t, runB (fun j => p (a + j)) f t m = runB p f (a + t) m := by
  induction m with
  | zero => intro t; rfl
  | succ m ih =>
    intro t
    by_cases e : p (a + t) = f
    · rw [runB_yes (p := fun j => p (a + j)) e, runB_yes e, ih (t + 1)]; rfl
    · rw [runB_no (p := fun j => p (a + j)) e, runB_no e]
def lOf : Value → Nat
  | .slice _ n _ => n
  | _ => 0

/-- where a list first has a value -/
def idxB (p : Nat → Bool) (v : Bool) (n : Nat) : Int := if runB p (!v) 0 n < n then (runB p (!v) 0 n : Int) else -1
theorem idx_is (A : Option Addr) (n c : Nat) (p : Nat → Bool) (v : Bool) (w : World) (Z : Nat) (hr : RowV w Z A n (bo p)) (hn : n ≤ 1048576) :
    Calls Try.prog 244 #[.slice A n c, .bool v] w fun e w' => e = .returned (.int .i64 (idxB p v n)) ∧ w = w' := by
  have HR := Lib.hid hr
  obtain ⟨R, hRe⟩ : ∃ R, R = runB p (!v) 0 n := ⟨_, rfl⟩
  have hR := runB_le p (!v) n 0
  have hall := runB_all p (!v) n 0
  have hend := runB_end p (!v) n 0
  have N : Hid (idxB p v n = if R < n then (R : Int) else -1) := by rw [hRe]; exact Lib.hid rfl
  rw [← hRe] at hR hall hend
  have HALL := Lib.hid hall
  have HEND := Lib.hid hend
  clear hr hall hend hRe
  go_enter Try.func244, Try.ntmps244
  go_wp2
  go_loop [8] (fun i => ∃ k : Nat, k ≤ R ∧ i = .int .i64 k) (fun i => R - (intOf i).toNat)
  case atStart => exact ⟨0, Nat.zero_le _, rfl⟩
  case round =>
    obtain ⟨k, hk, rfl⟩ := hrel
    by_cases hlt : k < R
    · obtain ⟨b, off, rfl, hb, hcell⟩ := HR.out (by omega)
      have hc := hcell k (by omega)
      unfold bo at hc
      have h0 := HALL.out k hlt
      rw [Nat.zero_add] at h0
      rw [h0] at hc
      have hkn : k < n := by omega
      clear hcell h0 N
      cases v
      all_goals
        go_wp2
        go_round
        case rel => exact ⟨k + 1, by omega, by go_num⟩
        case measure => simp [intOf]; omega
    · obtain rfl : k = R := by omega
      by_cases hkn : k < n
      · obtain ⟨b, off, rfl, hb, hcell⟩ := HR.out (by omega)
        have hc := hcell k (by omega)
        unfold bo at hc
        have h0 := HEND.out hkn
        rw [Nat.zero_add, Bool.not_not] at h0
        rw [h0] at hc
        have N2 := Lib.hid (N.out.trans (if_pos hkn))
        clear hcell h0 N
        cases v
        all_goals
          go_wp2
          go_ret
          exact ⟨by rw [N2.out]; rfl, rfl⟩
      · have N2 := Lib.hid (N.out.trans (if_neg hkn))
        obtain rfl : k = n := by omega
        clear N
        go_wp2
        go_ret
        exact ⟨by rw [N2.out]; rfl, rfl⟩

end Go.Proofs.Yteojpmnnpinpeaa
