/-
  What is proved here: the rotations of a stable sort, as walks. Conditions: at most 65536 of them.
-/
import Derived.Test.YtnhcmloaanamnaaSf2
namespace Go.Proofs.Ytnhcmloaanamnaa
open Flt Go.RowKit
attribute [local go_sem] run_store_fS
set_option linter.unusedVariables false
set_option linter.unusedSimpArgs false

set_option maxHeartbeats 8000000 in
theorem sFRot (v : Nat → Nat) (g n c a m b : Nat) (f : Nat → Nat) (w : World) (hr : sFRw v w g n f) (am : a < m) (mb : m < b) (hb : b ≤ n) (hn : n ≤ 65536) :
    Calls Try.prog 126 #[.slice (some ⟨g, 0, none⟩) n c, .int .i64 (a : Nat), .int .i64 (m : Nat), .int .i64 (b : Nat), .func (.func 37) #[] #[]] w fun e w' => e = .returned (.tuple #[]) ∧ Hid (sFRw v w' g n (sRt f a m b)) ∧ Hid (sBut g w w') := by
  have HR := Lib.hid hr
  have HSW : Hid (∀ (x y k : Nat) (ix iy ik : Int) (h : Nat → Nat) (W : World), ix = (x : Int) → iy = (y : Int) → ik = (k : Int) → sFRw v W g n h → x + k ≤ y → y + k ≤ n → Calls Try.prog 131 #[.slice (some ⟨g, 0, none⟩) n c, .int .i64 ix, .int .i64 iy, .int .i64 ik, .func (.func 37) #[] #[]] W fun e w' => e = .returned (.tuple #[]) ∧ Hid (sFRw v w' g n (sSr h x y k)) ∧ Hid (sBut g W w')) := fun x y k ix iy ik h W h1 h2 h3 hR h4 h5 => by
    subst h1 h2 h3
    exact sFSwR v g n c x y k h W hR h4 h5 hn
  have d1 : IntKind.i64.wrap ((m : Int) - (a : Int)) = ((m - a : Nat) : Int) := by rw [show (m : Int) - (a : Int) = ((m - a : Nat) : Int) by omega]; exact IntWalk.i64_in _ (by omega)
  have d2 : IntKind.i64.wrap ((b : Int) - (m : Int)) = ((b - m : Nat) : Int) := by rw [show (b : Int) - (m : Int) = ((b - m : Nat) : Int) by omega]; exact IntWalk.i64_in _ (by omega)
  have S0 : Hid (sRt f (m - (m - a)) m (m + (b - m)) = sRt f a m b) := by show _ = _; rw [show m - (m - a) = a by omega, show m + (b - m) = b by omega]
  clear hr
  go_enter Try.func126, Try.ntmps126
  go_wp2_with fail
  clear d1 d2
  go_loopw [10, 11] (fun i j wr => ∃ (p q : Nat) (h : Nat → Nat), i = .int .i64 ((p : Nat) : Int) ∧ j = .int .i64 ((q : Nat) : Int) ∧ 0 < p ∧ 0 < q ∧ p + a ≤ m ∧ q + m ≤ b ∧ Hid (sRt h (m - p) m (m + q) = sRt f a m b) ∧ Hid (sFRw v wr g n h) ∧ Hid (sBut g w wr)) (fun i j _ => (intOf i).toNat + (intOf j).toNat)
  case atStart => exact ⟨m - a, b - m, f, by first | rfl | (congr 1; omega) | go_num, by first | rfl | (congr 1; omega) | go_num, by omega, by omega, by omega, by omega, S0, HR, sBut.refl _ _⟩
  case round =>
    clear HR S0
    obtain ⟨p, q, h, rfl, rfl, hp, hq, hpa, hqb, hS, hR, hB⟩ := hrel
    have e1 : IntKind.i64.wrap ((m : Int) - (p : Int)) = ((m - p : Nat) : Int) := by rw [show (m : Int) - (p : Int) = ((m - p : Nat) : Int) by omega]; exact IntWalk.i64_in _ (by omega)
    by_cases hpq : p = q
    · subst hpq
      have hE : Hid (sSr h (m - p) m p = sRt f a m b) := by show _ = _; rw [sRt_end (by omega)]; exact hS.out
      go_wp2_with (go_at_call 131; refine (HSW.out (m - p) m p _ _ _ h _ (by omega) rfl rfl hR.out (by omega) (by omega)).mono ?_; rintro e w2 ⟨rfl, r2, b2⟩)
      go_end0
      exact ⟨rfl, by rw [← hE.out]; exact r2, hB.out.trans b2.out⟩
    · have hne : ((p : Int) == (q : Int)) = false := beq_eq_false_iff_ne.2 (by omega)
      by_cases hgt : q < p
      · have hS2 : Hid (sRt (sSr h (m - p) m q) (m - (p - q)) m (m + q) = sRt f a m b) := by show _ = _; rw [sRt_left (by omega) hgt]; exact hS.out
        have hgt2 : (q : Int) < (p : Int) := by omega
        have e2 : IntKind.i64.wrap ((p : Int) - (q : Int)) = ((p - q : Nat) : Int) := by rw [show (p : Int) - (q : Int) = ((p - q : Nat) : Int) by omega]; exact IntWalk.i64_in _ (by omega)
        go_wp2_with (go_at_call 131; refine (HSW.out (m - p) m q _ _ _ h _ (by omega) rfl rfl hR.out (by omega) (by omega)).mono ?_; rintro e w2 ⟨rfl, r2, b2⟩)
        have B2 := Lib.hid (hB.out.trans b2.out)
        go_roundw
        case rel => exact ⟨p - q, q, _, by first | rfl | (congr 1; omega) | go_num, rfl, by omega, hq, by omega, hqb, hS2, r2, B2⟩
        case measure => simp [intOf]; omega
      · have hlt2 : ¬ (q : Int) < (p : Int) := by omega
        have hS2 : Hid (sRt (sSr h (m - p) (m + q - p) p) (m - p) m (m + (q - p)) = sRt f a m b) := by show _ = _; rw [sRt_right (by omega) (by omega)]; exact hS.out
        have e2 : IntKind.i64.wrap ((q : Int) - (p : Int)) = ((q - p : Nat) : Int) := by rw [show (q : Int) - (p : Int) = ((q - p : Nat) : Int) by omega]; exact IntWalk.i64_in _ (by omega)
        go_wp2_with (go_at_call 131; refine (HSW.out (m - p) (m + q - p) p _ _ _ h _ (by omega) (by omega) rfl hR.out (by omega) (by omega)).mono ?_; rintro e w2 ⟨rfl, r2, b2⟩)
        have B2 := Lib.hid (hB.out.trans b2.out)
        go_roundw
        case rel => exact ⟨p, q - p, _, rfl, by first | rfl | (congr 1; omega) | go_num, hp, by omega, hpa, by omega, hS2, r2, B2⟩
        case measure => simp [intOf]; omega
end Go.Proofs.Ytnhcmloaanamnaa
