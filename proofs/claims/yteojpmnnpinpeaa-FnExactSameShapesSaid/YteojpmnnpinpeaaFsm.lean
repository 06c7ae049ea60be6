/-
  What is proved here: whether two fields are the same, of both packages, as walks. Conditions: at most 1048576 cells.
-/
import Derived.Test.YteojpmnnpinpeaaFie
namespace Go.Proofs.Yteojpmnnpinpeaa
open Go.RowKit
set_option linter.unusedVariables false

/-- the first n places hold the same -/
def allB (p q : Nat → Bool) (n : Nat) : Bool := (List.range n).all fun j => p j == q j
theorem allB_yes {p q : Nat → Bool} {n : Nat} (h : ∀ j, j < n → p j = q j) : allB p q n = true := by
  unfold allB
  exact List.all_eq_true.2 fun j hj => by rw [h j (List.mem_range.1 hj)]; exact beq_self_eq_true _
theorem allB_no {p q : Nat → Bool} {n k : Nat} (hk : k < n) (h : (p k == q k) = false) : allB p q n = false := by
  unfold allB
  rw [List.all_eq_false]
  exact ⟨k, List.mem_range.2 hk, by rw [h]; decide⟩

theorem equalB (A B : Option Addr) (n c d : Nat) (p q : Nat → Bool) (w : World) (Z : Nat) (hr : RowV w Z A n (bo p)) (hq : RowV w Z B n (bo q)) (hn : n ≤ 1048576) :
    Calls Try.prog 237 #[.slice A n c, .slice B n d] w fun e w' => e = .returned (.bool (allB p q n)) ∧ ∃ k, w' = w.drewN k := by
  have HR := Lib.hid hr
  have HQ := Lib.hid hq
  clear hr hq
  go_enter Try.func237, Try.ntmps237
  go_wp2
  go_loopw [13] (fun i wr => ∃ k : Nat, k ≤ n ∧ i = .int .i64 k ∧ Hid (∀ j, j < k → p j = q j) ∧ ∃ n, wr = w.drewN n) (fun i _ => n - (intOf i).toNat)
  case atStart => exact ⟨0, Nat.zero_le _, rfl, fun j h => absurd h (Nat.not_lt_zero _), 0, rfl⟩
  case round =>
    obtain ⟨k, hk, rfl, hJ, m, rfl⟩ := hrel
    by_cases hlt : k < n
    · obtain ⟨b, off, rfl, hb, hcell⟩ := HR.out (by omega)
      obtain ⟨b2, off2, rfl, hb2, hcell2⟩ := HQ.out (by omega)
      have hc := hcell k hlt
      have hd := hcell2 k hlt
      unfold bo at hc hd
      clear hcell hcell2
      cases e : p k == q k
      · have N := Lib.hid (allB_no hlt e)
        have e2 : p k = !q k := by cases h1 : p k <;> cases h2 : q k <;> simp_all
        rw [e2] at hc
        clear e e2 hJ
        cases q k
        all_goals
          go_wp2_with fail
          go_quiet (fail)
          go_wp2
          go_ret
          exact ⟨by rw [N.out]; rfl, _, by first | rfl | rw [World.drewN_drewN]⟩
      · have e2 : p k = q k := eq_of_beq e
        have HJ : Hid (∀ j, j < k + 1 → p j = q j) := fun j hj => by
          by_cases h : j = k
          · rw [h]; exact e2
          · exact hJ.out j (by omega)
        rw [e2] at hc
        clear e e2 hJ
        cases q k
        all_goals
          go_wp2_with fail
          go_quiet (fail)
          go_wp2
          go_roundw
          case rel => exact ⟨k + 1, by omega, by go_num, HJ, _, rfl⟩
          case measure => simp [intOf]; omega
    · have N : Hid (allB p q n = true) := allB_yes fun j hj => hJ.out j (by omega)
      go_wp2
      go_ret
      exact ⟨by rw [N.out]; rfl, _, rfl⟩

/-- two fields are the same -/
def sfB (x y : Int) (n : Nat) (p : Nat → Bool) (x2 y2 : Int) (n2 : Nat) (p2 : Nat → Bool) : Bool := (x == x2) && ((y == y2) && ((n == n2) && allB p p2 n))

set_option maxRecDepth 100000 in
theorem implSf (x y : Int) (A : Option Addr) (n c : Nat) (p : Nat → Bool) (x2 y2 : Int) (A2 : Option Addr) (n2 c2 : Nat) (p2 : Nat → Bool) (w : World) (hr : RowV w w.heap.size A n (bo p)) (hq : RowV w w.heap.size A2 n2 (bo p2)) (hn : n ≤ 1048576) (hn2 : n2 ≤ 1048576) :
    Calls Try.prog 170 #[.agg #[.int .i64 x, .int .i64 y, .slice A n c], .agg #[.int .i64 x2, .int .i64 y2, .slice A2 n2 c2]] w fun e w' => e = .returned (.bool (sfB x y n p x2 y2 n2 p2)) ∧ Hid (Below w.heap.size w w') := by
  have B0 : Below w.heap.size w ((w.alloc (.cells #[.int .i64 x, .int .i64 y, .slice A n c] 35)).alloc (.cells #[.int .i64 x2, .int .i64 y2, .slice A2 n2 c2] 35)) := ((Below.refl _ _).alloc (Nat.le_refl _) _).alloc (by simp) _
  have HB := Lib.hid B0
  have E : Hid (sfB x y n p x2 y2 n2 p2 = ((x == x2) && ((y == y2) && ((n == n2) && allB p p2 n)))) := rfl
  by_cases h1 : x = x2
  · by_cases h2 : y = y2
    · by_cases h3 : n = n2
      · subst h1 h2 h3
        have E2 : Hid (sfB x y n p x y n p2 = allB p p2 n) := by
          show _ = _
          rw [E.out, beq_self_eq_true, beq_self_eq_true, beq_self_eq_true]; rfl
        have HC := Lib.hid (equalB A A2 n c c2 p p2 _ w.heap.size (hr.below B0) (hq.below B0) hn)
        clear hr hq B0 E
        go_enter Try.func170, Try.ntmps170
        go_wp2_with (go_at_call 237; refine HC.out.mono ?_; rintro e w' ⟨rfl, k, rfl⟩)
        go_ret
        exact ⟨by rw [E2.out]; rfl, belowN HB.out⟩
      · subst h1 h2
        have E2 : Hid (sfB x y n p x y n2 p2 = false) := by
          show _ = _
          rw [E.out, beq_self_eq_true, beq_self_eq_true, show (n == n2) = false from beq_eq_false_iff_ne.2 h3]; rfl
        have HC : Hid (∀ W, Calls Try.prog 237 #[.slice A n c, .slice A2 n2 c2] W fun e w' => e = .returned (.bool false) ∧ W = w') := by
          intro W
          go_enter Try.func237, Try.ntmps237
          go_wp2
          go_ret
          exact ⟨rfl, rfl⟩
        clear hr hq B0 E
        go_enter Try.func170, Try.ntmps170
        go_wp2_with (go_at_call 237; refine (HC.out _).mono ?_; rintro e w' ⟨rfl, rfl⟩)
        go_ret
        exact ⟨by rw [E2.out]; rfl, HB⟩
    · subst h1
      have E2 : Hid (sfB x y n p x y2 n2 p2 = false) := by
        show _ = _
        rw [E.out, beq_self_eq_true, show (y == y2) = false from beq_eq_false_iff_ne.2 h2]; rfl
      clear hr hq B0 E
      go_enter Try.func170, Try.ntmps170
      go_wp2_with fail
      go_ret
      exact ⟨by rw [E2.out]; rfl, HB⟩
  · have E2 : Hid (sfB x y n p x2 y2 n2 p2 = false) := by
      show _ = _
      rw [E.out, show (x == x2) = false from beq_eq_false_iff_ne.2 h1]; rfl
    clear hr hq B0 E
    go_enter Try.func170, Try.ntmps170
    go_wp2_with fail
    go_ret
    exact ⟨by rw [E2.out]; rfl, HB⟩

end Go.Proofs.Yteojpmnnpinpeaa
