/-
  What is proved here: InvadeFrom of both packages gives the same, whatever is given. Conditions: at most 1048576 weights.
-/
import Derived.Test.YthhimielelpcoaaIvi
namespace Go.Proofs.Ythhimielelpcoaa
open Flt Go.RowKit
set_option linter.unusedVariables false
set_option linter.unusedSimpArgs false

set_option maxHeartbeats 4000000 in
set_option maxRecDepth 1000000 in
theorem specInvNo (x y : Int) (A : Option Addr) (c : Nat) (zs : List Nat) (sat cn : Int) (w : World) (hr : RowF w w.heap.size A zs) (hn : zs.length ≤ 1048576) (wb ab cb : Bool) (hw : wtB x y zs = wb) (ha : inB sat 0 ((zs.length : Int) - 1) = ab) (hc : inB cn 1 (zs.length : Int) = cb) (hno : (wb && ab && cb) = false) :
    Calls Try.prog 16 #[.slice A zs.length c, .int .i64 x, .int .i64 y, .int .i64 sat, .int .i64 cn] w fun e w' => ∃ A' c', e = .returned (.tuple #[.slice A' 0 c', .bool false]) ∧ Hid (RowW w' w.heap.size w'.heap.size A' 0 (iv fun _ => 0)) ∧ Hid (Below w.heap.size w w') := by
  have HW := Lib.hid (specWei x y A c w.heap.size zs w hr hn)
  rw [hw] at HW
  have HA : Hid (∀ W, Calls Try.prog 46 #[.int .i64 sat, .int .i64 0, .int .i64 ((zs.length : Int) - 1)] W fun e w' => e = .returned (.bool ab) ∧ W = w') := fun W => by
    have := inS_any sat 0 ((zs.length : Int) - 1) W
    rwa [ha] at this
  have HC : Hid (∀ W, Calls Try.prog 46 #[.int .i64 cn, .int .i64 1, .int .i64 (zs.length : Nat)] W fun e w' => e = .returned (.bool cb) ∧ W = w') := fun W => by
    have := inS_any cn 1 (zs.length : Int) W
    rwa [hc] at this
  cases wb with
  | false =>
    clear hr hw ha hc hno HA HC
    go_enter Try.func16, Try.ntmps16
    go_wp2_with (go_at_call 63; refine HW.out.mono ?_; rintro e w' ⟨rfl, k, rfl⟩)
    go_ret2
    exact ⟨none, 0, rfl, RowW.empty (Nat.le_refl _), belowN (Below.refl _ _)⟩
  | true =>
    have hfv : fvB x y zs.length = true := by unfold wtB at hw; rw [Bool.and_eq_true] at hw; exact hw.1
    have hmul : IntKind.i64.wrap (x * y) = (zs.length : Int) := by rw [← (fvB_yes hfv).2.1]; exact IntWalk.i64_in _ (by omega)
    have hsub : IntKind.i64.wrap ((zs.length : Int) - 1) = (zs.length : Int) - 1 := IntWalk.i64_in _ (by omega)
    cases ab with
    | false =>
      clear hr hw ha hc hno HC hfv
      go_enter Try.func16, Try.ntmps16
      go_wp2_with (first | (go_at_call 63; refine HW.out.mono ?_; rintro e w' ⟨rfl, k, rfl⟩) | (go_at_call 46; (with_reducible refine (HA.out _).mono ?_); rintro e w' ⟨rfl, rfl⟩))
      go_ret2
      exact ⟨none, 0, rfl, RowW.empty (Nat.le_refl _), belowN (Below.refl _ _)⟩
    | true =>
      cases cb with
      | true => cases hno
      | false =>
        clear hr hw ha hc hno hfv
        go_enter Try.func16, Try.ntmps16
        go_wp2_with (first | (go_at_call 63; refine HW.out.mono ?_; rintro e w' ⟨rfl, k, rfl⟩) | (go_at_call 46; (with_reducible first | refine (HA.out _).mono ?_ | refine (HC.out _).mono ?_); rintro e w' ⟨rfl, rfl⟩))
        go_ret2
        exact ⟨none, 0, rfl, RowW.empty (Nat.le_refl _), belowN (Below.refl _ _)⟩

set_option maxHeartbeats 4000000 in
set_option maxRecDepth 1000000 in
theorem implInvNo (x y : Int) (A : Option Addr) (c : Nat) (zs : List Nat) (sat cn : Int) (w : World) (hr : RowF w w.heap.size A zs) (hn : zs.length ≤ 1048576) (wb ab cb : Bool) (hw : wtB x y zs = wb) (ha : inB sat 0 ((zs.length : Int) - 1) = ab) (hc : inB cn 1 (zs.length : Int) = cb) (hno : (wb && ab && cb) = false) :
    Calls Try.prog 18 #[.slice A zs.length c, .int .i64 x, .int .i64 y, .int .i64 sat, .int .i64 cn] w fun e w' => ∃ A' c', e = .returned (.tuple #[.slice A' 0 c', .bool false]) ∧ Hid (RowW w' w.heap.size w'.heap.size A' 0 (iv fun _ => 0)) ∧ Hid (Below w.heap.size w w') := by
  have b1 : Below w.heap.size w (w.alloc (.cells #[.slice A zs.length c] 33)) := (Below.refl _ _).alloc (Nat.le_refl _) _
  have HW := Lib.hid (implWei x y A c w.heap.size zs _ (hr.below b1) hn)
  rw [hw] at HW
  have HB := Lib.hid b1
  have hsub : IntKind.i64.wrap ((zs.length : Int) - 1) = (zs.length : Int) - 1 := IntWalk.i64_in _ (by omega)
  have HA : Hid (∀ W, Calls Try.prog 53 #[.int .i64 sat, .int .i64 0, .int .i64 ((zs.length : Int) - 1)] W fun e w' => e = .returned (.bool ab) ∧ W = w') := fun W => by
    have := within_any sat 0 ((zs.length : Int) - 1) W
    rwa [ha] at this
  have HC : Hid (∀ W, Calls Try.prog 53 #[.int .i64 cn, .int .i64 1, .int .i64 (zs.length : Nat)] W fun e w' => e = .returned (.bool cb) ∧ W = w') := fun W => by
    have := within_any cn 1 (zs.length : Int) W
    rwa [hc] at this
  have cw : (w.alloc (.cells #[.slice A zs.length c] 33)).cell? ⟨w.heap.size, 0, none⟩ = some (.slice A zs.length c) := cell1_new w _ _
  have HCW := Lib.hid cw
  clear hr hw ha hc b1 cw
  go_enter Try.func18, Try.ntmps18
  go_upto_region 1 with fail
  generalize w.alloc (.cells #[.slice A zs.length c] 33) = w1 at *
  have cw := HCW.out
  have hb2 : Hid (w.heap.size ≤ w1.heap.size) := HB.out.size
  cases wb with
  | false =>
    clear hno HA HC
    go_wp2_with (go_at_call 64; refine HW.out.mono ?_; rintro e w' ⟨rfl, k, rfl⟩)
    go_ret2
    exact ⟨none, 0, rfl, RowW.empty (Nat.le_refl _), belowN HB.out⟩
  | true =>
    cases ab with
    | false =>
      clear hno HC
      go_wp2_with (first | (go_at_call 64; refine HW.out.mono ?_; rintro e w' ⟨rfl, k, rfl⟩) | (go_at_call 53; (with_reducible refine (HA.out _).mono ?_); rintro e w' ⟨rfl, rfl⟩))
      go_ret2
      exact ⟨none, 0, rfl, RowW.empty (Nat.le_refl _), belowN HB.out⟩
    | true =>
      cases cb with
      | true => cases hno
      | false =>
        clear hno
        go_wp2_with (first | (go_at_call 64; refine HW.out.mono ?_; rintro e w' ⟨rfl, k, rfl⟩) | (go_at_call 53; (with_reducible first | refine (HA.out _).mono ?_ | refine (HC.out _).mono ?_); rintro e w' ⟨rfl, rfl⟩))
        go_ret2
        exact ⟨none, 0, rfl, RowW.empty (Nat.le_refl _), belowN HB.out⟩

theorem invBoth (zs : List Nat) (x y sat cn : Int) (hn : zs.length ≤ 1048576) : ∃ (b : Bool) (fn : Nat) (ff : Nat → Int), fn ≤ 1048576 ∧
    (∀ (W : World) (A : Option Addr) (c : Nat), RowV W W.heap.size A zs.length (fv (at0 zs)) → Calls Try.prog 16 #[.slice A zs.length c, .int .i64 x, .int .i64 y, .int .i64 sat, .int .i64 cn] W fun e w' => ∃ A' c', e = .returned (.tuple #[.slice A' fn c', .bool b]) ∧ Hid (RowW w' W.heap.size w'.heap.size A' fn (iv ff)) ∧ Hid (Below W.heap.size W w')) ∧
    (∀ (W : World) (A : Option Addr) (c : Nat), RowV W W.heap.size A zs.length (fv (at0 zs)) → Calls Try.prog 18 #[.slice A zs.length c, .int .i64 x, .int .i64 y, .int .i64 sat, .int .i64 cn] W fun e w' => ∃ A' c', e = .returned (.tuple #[.slice A' fn c', .bool b]) ∧ Hid (RowW w' W.heap.size w'.heap.size A' fn (iv ff)) ∧ Hid (Below W.heap.size W w')) := by
  cases h : (wtB x y zs && inB sat 0 ((zs.length : Int) - 1) && inB cn 1 (zs.length : Int)) with
  | false => exact ⟨false, 0, fun _ => 0, by omega, fun W A c hr => specInvNo x y A c zs sat cn W hr hn _ _ _ rfl rfl rfl h, fun W A c hr => implInvNo x y A c zs sat cn W hr hn _ _ _ rfl rfl rfl h⟩
  | true =>
    rw [Bool.and_eq_true, Bool.and_eq_true] at h
    obtain ⟨⟨hw, ha⟩, hc⟩ := h
    obtain ⟨a0, a1⟩ := inB_yes ha
    obtain ⟨c0, c1⟩ := inB_yes hc
    obtain ⟨a, rfl⟩ : ∃ k : Nat, sat = (k : Int) := ⟨sat.toNat, by omega⟩
    obtain ⟨k, rfl⟩ : ∃ k : Nat, cn = (k : Int) := ⟨cn.toNat, by omega⟩
    have hfv : fvB x y zs.length = true := by unfold wtB at hw; rw [Bool.and_eq_true] at hw; exact hw.1
    have hfa : finAll zs = true := by unfold wtB at hw; rw [Bool.and_eq_true] at hw; exact hw.2
    refine ⟨true, k, atI (ivJ (ltW zs) x y zs.length a (k - 1)).2, by omega, fun W A c hr => ?_, fun W A c hr => ?_⟩
    · have hrf : RowF W W.heap.size A zs := hr
      obtain ⟨b, off, rfl, hb, hz⟩ := hr (by omega)
      exact specInvYes x y b off zs.length c a k zs W hb hz hfv ((specWei x y _ c W.heap.size zs W hrf hn).mono fun e w' h => ⟨by rw [h.1, hw], by obtain ⟨_, q, rfl⟩ := h; exact belowN (Below.refl _ _)⟩) (by omega) (by omega) (by omega)
    · have hrf : RowF W W.heap.size A zs := hr
      obtain ⟨b, off, rfl, hb, hz⟩ := hr (by omega)
      exact implInvYes x y b off zs.length c a k zs W hb hz (fun j hj => fin_num (finAll_at hfa hj)) hfv (fun W' hB => (implWei x y _ c W.heap.size zs W' (hrf.below hB) hn).mono fun e w' h => ⟨by rw [h.1, hw], by obtain ⟨_, q, rfl⟩ := h; exact belowN (Below.refl _ _)⟩) (by omega) (by omega) (by omega)
end Go.Proofs.Ythhimielelpcoaa
