/-
  What is proved here: RankOf of the reference; of no list, and of an empty one; both packages give the same. Conditions: at most 1048576 numbers.
-/
import Derived.Test.YtnhcmloaanamnaaRk1
import Derived.Test.YtnhcmloaanamnaaRk2
namespace Go.Proofs.Ytnhcmloaanamnaa
open Flt Go.RowKit
set_option linter.unusedVariables false
set_option linter.unusedSimpArgs false

theorem specRko (A : Option Addr) (c : Nat) (zs : List Nat) (H : Nat → Nat) (w : World) (hr : RowF w w.heap.size A zs) (hb : lisB zs = true) (hH : sEnd (rK zs) zs.length H) :
    Calls Try.prog 9 #[.slice A zs.length c] w (LPI (tgL H zs.length) zs.length true w) := by
  obtain ⟨h3, hfa⟩ := lisB_yes hb
  have HL := Lib.hid (specList A c zs w _ hr (by omega))
  rw [hb] at HL
  have HR := Lib.hid (fun k => specRnk A c zs H (w.drewN k) hr hb hH)
  clear hr hb hH hfa
  go_enter Try.func9, Try.ntmps9
  go_wp2_with (first | (go_at_call 32; refine HL.out.mono ?_; rintro e w' ⟨rfl, k, rfl⟩) | (go_at_call 33; refine (HR.out _).mono ?_; rintro e w2 ⟨A2, c2, rfl, r2, b2⟩))
  go_ret2
  exact ⟨A2, c2, _, rfl, ⟨tgL_len _ _, rfl⟩, r2, (belowN (Below.refl _ _)).trans b2.out⟩
theorem specRkn (A : Option Addr) (c : Nat) (zs : List Nat) (w : World) (hr : RowF w w.heap.size A zs) (hn : zs.length ≤ 1048576) (hb : lisB zs = false) :
    Calls Try.prog 9 #[.slice A zs.length c] w (LPI [] 0 false w) := by
  have HL := Lib.hid (specList A c zs w _ hr hn)
  rw [hb] at HL
  clear hr hb
  go_enter Try.func9, Try.ntmps9
  go_wp2_with (go_at_call 32; refine HL.out.mono ?_; rintro e w' ⟨rfl, n, rfl⟩)
  go_ret2
  exact lpi_no (belowN (Below.refl _ _))
theorem implRkn (A : Option Addr) (c : Nat) (zs : List Nat) (w : World) (hr : RowF w w.heap.size A zs) (hn : zs.length ≤ 1048576) (hb : lisB zs = false) :
    Calls Try.prog 11 #[.slice A zs.length c] w (LPI [] 0 false w) := by
  have HL : Hid (∀ W, Below w.heap.size w W → Calls Try.prog 34 #[.slice A zs.length c] W fun e w' => e = .returned (.bool false) ∧ ∃ k, w' = W.drewN k) := fun W hB => by
    have := implList A c zs W _ (hr.below hB) hn
    rw [hb] at this
    exact this
  have b1 : Below w.heap.size w (w.alloc (.cells #[.slice A zs.length c] 22)) := (Below.refl _ _).alloc (Nat.le_refl _) _
  have HB1 := Lib.hid b1
  have HC1 : Hid ((w.alloc (.cells #[.slice A zs.length c] 22)).cell? ⟨w.heap.size, 0, none⟩ = some (.slice A zs.length c)) := cell1_new w _ _
  clear b1 hr hb
  go_enter Try.func11, Try.ntmps11
  go_upto_region 1 with fail
  generalize hw1 : w.alloc (.cells #[.slice A zs.length c] 22) = w1 at *
  clear hw1
  have cw := HC1.out
  go_wp2_with (go_at_call 34; refine (HL.out _ HB1.out).mono ?_; rintro e w' ⟨rfl, k, rfl⟩)
  go_ret2
  exact lpi_no (belowN HB1.out)
theorem sNoneI (bx : Nat) (w : World) : Calls Try.prog 35 #[.slice none 0 0, .func (.func 36) #[] #[.pointer (some ⟨bx, 0, none⟩)]] w fun e w' => e = .returned (.tuple #[]) ∧ w = w' := by
  have HI : Hid (∀ W, Calls Try.prog 107 #[.slice none 0 0, .int .i64 0, .int .i64 0, .func (.func 36) #[] #[.pointer (some ⟨bx, 0, none⟩)]] W fun e w' => e = .returned (.tuple #[]) ∧ W = w') := fun W => by
    go_enter Try.func107, Try.ntmps107
    go_wp2_with fail
    go_loopw [8] (fun i wr => i = .int .i64 1 ∧ wr = W) (fun _ _ => 0)
    case atStart => exact ⟨rfl, rfl⟩
    case round =>
      obtain ⟨rfl, rfl⟩ := hrel
      go_wp2_with fail
      go_end0
      exact ⟨rfl, rfl⟩
  have HS : Hid (∀ W, Calls Try.prog 78 #[.slice none 0 0, .int .i64 0, .func (.func 36) #[] #[.pointer (some ⟨bx, 0, none⟩)]] W fun e w' => e = .returned (.tuple #[]) ∧ W = w') := fun W => by
    go_enter Try.func78, Try.ntmps78
    go_wp2_with fail
    go_loopw [7, 8] (fun a b wr => a = .int .i64 0 ∧ b = .int .i64 20 ∧ wr = W) (fun _ _ _ => 0)
    case atStart => exact ⟨rfl, rfl, rfl⟩
    case round =>
      obtain ⟨rfl, rfl, rfl⟩ := hrel
      go_wp2_with (go_at_call 107; refine (HI.out _).mono ?_; rintro e w' ⟨rfl, rfl⟩)
      go_loopw [6] (fun s wr2 => s = .int .i64 20 ∧ wr2 = wr) (fun _ _ => 0)
      case atStart => exact ⟨rfl, rfl⟩
      case round =>
        obtain ⟨rfl, rfl⟩ := hrel
        go_wp2_with fail
        go_end0
        exact ⟨rfl, rfl⟩
  clear HI
  go_enter Try.func35, Try.ntmps35
  go_wp2_with (go_at_call 78; refine (HS.out _).mono ?_; rintro e w' ⟨rfl, rfl⟩)
  go_end0
  exact ⟨rfl, rfl⟩
theorem implRk0 (A : Option Addr) (c : Nat) (w : World) : Calls Try.prog 11 #[.slice A 0 c] w (LPI [] 0 true w) := by
  have HL := Lib.hid (fun W => implList A c [] W W.heap.size (fun h => absurd h (by decide)) (by decide))
  have b1 : Below w.heap.size w (w.alloc (.cells #[.slice A 0 c] 22)) := (Below.refl _ _).alloc (Nat.le_refl _) _
  have HB1 := Lib.hid b1
  have HC1 : Hid ((w.alloc (.cells #[.slice A 0 c] 22)).cell? ⟨w.heap.size, 0, none⟩ = some (.slice A 0 c)) := cell1_new w _ _
  clear b1
  go_enter Try.func11, Try.ntmps11
  go_upto_region 1 with fail
  generalize hw1 : w.alloc (.cells #[.slice A 0 c] 22) = w1 at *
  clear hw1
  have cw := HC1.out
  go_wp2_with (go_at_call 34; refine (HL.out _).mono ?_; rintro e w' ⟨rfl, k, rfl⟩)
  go_loopw [4, 11] (fun s i wr => s = .slice none 0 0 ∧ i = .int .i64 0 ∧ wr = w1.drewN k) (fun _ _ _ => 0)
  case atStart => exact ⟨rfl, rfl, rfl⟩
  case round =>
    obtain ⟨rfl, rfl, rfl⟩ := hrel
    go_wp2_with (go_at_call 35; refine (sNoneI _ _).mono ?_; rintro e w' ⟨rfl, rfl⟩)
    go_ret2
    exact lpi_no (belowN HB1.out)
theorem rankBoth (zs : List Nat) (hn : zs.length ≤ 1048576) : ∃ f n b, n ≤ 1048576 ∧
    (∀ W A c, RowF W W.heap.size A zs → Calls Try.prog 9 #[.slice A zs.length c] W (LPI f n b W)) ∧
    (∀ W A c, RowF W W.heap.size A zs → Calls Try.prog 11 #[.slice A zs.length c] W (LPI f n b W)) := by
  cases hb : lisB zs with
  | false => exact ⟨[], 0, false, by omega, fun W A c h => specRkn A c zs W h hn hb, fun W A c h => implRkn A c zs W h hn hb⟩
  | true =>
    obtain ⟨H, hH⟩ := sEnd_ex (rK zs) zs.length
    by_cases h0 : zs.length = 0
    · obtain rfl := List.eq_nil_of_length_eq_zero h0
      exact ⟨[], 0, true, by omega, fun W A c h => specRko A c [] H W h hb hH, fun W A c h => implRk0 A c W⟩
    · exact ⟨_, _, _, hn, fun W A c h => specRko A c zs H W h hb hH, fun W A c h => implRnk A c zs H W h hb (by omega) hH⟩
end Go.Proofs.Ytnhcmloaanamnaa
