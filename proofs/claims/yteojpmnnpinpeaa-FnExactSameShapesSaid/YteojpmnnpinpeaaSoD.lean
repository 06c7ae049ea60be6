/-
  What is proved here: whether two fields are the same, as the model tells it: a part. Conditions: at most 1048576 cells.
-/
import Derived.Test.YteojpmnnpinpeaaSo0
namespace Go.Proofs.Yteojpmnnpinpeaa
open Go.RowKit
set_option linter.unusedVariables false

set_option maxHeartbeats 16000000 in
set_option maxRecDepth 100000 in
theorem specOmD (v o v2 o2 : Nat) (x y : Int) (A : Option Addr) (n c : Nat) (p : Nat → Bool) (x2 y2 : Int) (A2 : Option Addr) (n2 c2 : Nat) (p2 : Nat → Bool) (w : World) (V : VarO w v o x y A n c) (V2 : VarO w v2 o2 x2 y2 A2 n2 c2) (hr : RowV w w.heap.size A n (bo p)) (hq : RowV w w.heap.size A2 n2 (bo p2)) (hn : n ≤ 1048576) (hn2 : n2 ≤ 1048576) (h1 : x = x2) (h2 : y = y2) (h3 : n = n2) :
    Calls Try.prog 70 #[.pointer (some ⟨v, o, none⟩), .pointer (some ⟨v2, o2, none⟩)] w fun e w' => e = .returned (.bool (sfB x y n p x2 y2 n2 p2)) ∧ ∃ k, w' = w.drewN k := by
  obtain ⟨_, c0, c1, c2'⟩ := V
  obtain ⟨_, d0, d1, d2⟩ := V2
  have E : Hid (sfB x y n p x2 y2 n2 p2 = ((x == x2) && ((y == y2) && ((n == n2) && allB p p2 n)))) := rfl
  have HR := Lib.hid hr
  have HQ := Lib.hid hq
  clear hr hq
  subst h1 h2 h3
  have E2 : Hid (sfB x y n p x y n p2 = allB p p2 n) := by
    show _ = _
    rw [E.out, beq_self_eq_true, beq_self_eq_true, beq_self_eq_true]; rfl
  clear E
  go_enter Try.func70, Try.ntmps70
  go_wp2_with fail
  go_quiet (fail)
  go_wp2
  go_loopw [44] (fun i wr => ∃ k : Nat, k ≤ n ∧ i = .int .i64 k ∧ Hid (∀ j, j < k → p j = p2 j) ∧ ∃ n, wr = w.drewN n) (fun i _ => n - (intOf i).toNat)
  case atStart => exact ⟨0, Nat.zero_le _, rfl, fun j h => absurd h (Nat.not_lt_zero _), _, rfl⟩
  case round =>
    obtain ⟨k, hk, rfl, hJ, m, rfl⟩ := hrel
    by_cases hlt : k < n
    · obtain ⟨b, off, rfl, hb, hcell⟩ := HR.out (by omega)
      obtain ⟨b2, off2, rfl, hb2, hcell2⟩ := HQ.out (by omega)
      have hc := hcell k hlt
      have hd := hcell2 k hlt
      unfold bo at hc hd
      clear hcell hcell2
      cases e : p k == p2 k
      · have N := Lib.hid (allB_no hlt e)
        have e2 : p k = !p2 k := by cases h1 : p k <;> cases h2 : p2 k <;> simp_all
        rw [e2] at hc
        clear e e2 hJ
        cases p2 k
        all_goals
          go_wp2_with fail
          go_quiet (fail)
          go_wp2
          go_ret
          exact ⟨by rw [E2.out, N.out]; rfl, _, by first | rfl | rw [World.drewN_drewN]⟩
      · have e2 : p k = p2 k := eq_of_beq e
        have HJ : Hid (∀ j, j < k + 1 → p j = p2 j) := fun j hj => by
          by_cases h : j = k
          · rw [h]; exact e2
          · exact hJ.out j (by omega)
        rw [e2] at hc
        clear e e2 hJ
        cases p2 k
        all_goals
          go_wp2_with fail
          go_quiet (fail)
          go_wp2
          go_roundw
          case rel => exact ⟨k + 1, by omega, by go_num, HJ, _, by first | rfl | rw [World.drewN_drewN]⟩
          case measure => simp [intOf]; omega
    · have N : Hid (allB p p2 n = true) := allB_yes fun j hj => hJ.out j (by omega)
      go_wp2
      go_ret
      exact ⟨by rw [E2.out, N.out]; rfl, _, rfl⟩

end Go.Proofs.Yteojpmnnpinpeaa
