/-
  What is proved here: the lowest side of a place, as the program tells it, and what it asks of a drop, of both packages, as walks. Conditions: a valid sheet's sides, a place of it.
-/
import Derived.Test.YtckhdbnoihieeaaDrp
namespace Go.Proofs.Ytckhdbnoihieeaa
open Flt Go.RowKit
attribute [local go_sem] run_store_float
set_option linter.unusedVariables false

set_option maxHeartbeats 4000000 in
theorem implLow (x y : Int) (A : Option Addr) (c : Nat) (ws : List Nat) (a : Nat) (f : Nat → Option Nat) (w : World) (hr : RowF w w.heap.size A ws) (hv : sidesB x y = true) (hx : 1 ≤ x) (hn : (ws.length : Int) = x * y) (ha : a < ws.length) (hT : Told f ws.length ws.length ws) :
    Calls Try.prog 63 #[.agg #[.int .i64 x, .int .i64 y, .slice A ws.length c], .int .i64 (a : Nat)] w fun e w' => e = .returned (.tuple #[.int .i64 (lowB f x y a : Nat), .bool (((lowB f x y a : Nat) : Int) != ((a : Nat) : Int))]) ∧ Hid (Below w.heap.size w w') := by
  have B0 : Below w.heap.size w (w.alloc (.cells #[.int .i64 x, .int .i64 y, .slice A ws.length c] 27)) := (Below.refl _ _).alloc (Nat.le_refl _) _
  have V0 := Lib.hid (varT_new w x y A ws.length c 27)
  have R0 := Lib.hid (hr.below B0)
  have HB := Lib.hid B0
  have HSI := Lib.hid (Fk.implSid x y (a : Int) hv (by omega) (by omega) (w.alloc (.cells #[.int .i64 x, .int .i64 y, .slice A ws.length c] 27)))
  have HT := Lib.hid hT
  have HS : Hid (∀ m, m < (Fk.sidL x y (a : Int)).length → ∃ j : Nat, atI (Fk.sidL x y (a : Int)) m = j ∧ j < ws.length ∧ (j : Int) ≠ (a : Int)) := fun m hm => side_at hx (by omega) (by omega) hn hm
  have HLW : Hid (∀ k, k ≤ (Fk.sidL x y (a : Int)).length → lowF f (Fk.sidL x y (a : Int)) a k < ws.length) := lowF_lt ha (fun m hm => by obtain ⟨j, h1, h2, _⟩ := HS.out m hm; exact ⟨j, h1, h2⟩)
  have HD : Hid (lowB f x y a = lowF f (Fk.sidL x y (a : Int)) a (Fk.sidL x y (a : Int)).length) := rfl
  have hll : (Fk.sidL x y (a : Int)).length ≤ 4 := Fk.sidL_len _ _ _
  have hsz : w.heap.size < (w.alloc (.cells #[.int .i64 x, .int .i64 y, .slice A ws.length c] 27)).heap.size := V0.out.lt
  clear hr B0 hT hv hx hn
  go_enter Try.func63, Try.ntmps63
  go_wp2_with fail
  generalize w.alloc (.cells #[.int .i64 x, .int .i64 y, .slice A ws.length c] 27) = a0 at *
  generalize hX : w.heap.size = X at *
  have HX := Lib.hid hX
  clear hX
  refine HSI.out.mono ?_
  rintro e wq ⟨B, d, rfl, hO, hbq⟩
  have LQ : Hid (LstR wq a0.heap.size B (Fk.sidL x y (a : Int))) := Lib.hid ((LstR.of hO.out).lower (Nat.le_succ _))
  have HBQ := Lib.hid (HB.out.trans (hbq.out.mono (Nat.le_of_lt hsz)))
  have VQ := Lib.hid (V0.out.below hbq.out)
  have RQ := Lib.hid (R0.out.below (hbq.out.mono (Nat.le_of_lt hsz)))
  clear hO hbq HSI HB V0 R0
  generalize Fk.sidL x y (a : Int) = L at *
  go_wp2_with fail
  go_loopw [6, 17] (fun l i wr => ∃ m : Nat, m ≤ L.length ∧ i = .int .i64 m ∧ l = .int .i64 (lowF f L a m : Nat) ∧ Hid (Below wq.heap.size wq wr)) (fun _ i _ => L.length - (intOf i).toNat)
  case atStart => exact ⟨0, Nat.zero_le _, rfl, rfl, Below.refl _ _⟩
  case round =>
    obtain ⟨m, hm, rfl, rfl, hB⟩ := hrel
    have hlw := HLW.out m hm
    by_cases hlm : m < L.length
    · obtain ⟨j, hj1, hj2, _⟩ := HS.out m hlm
      obtain ⟨bl, ob, rfl, hl1, hl2, hcl⟩ := (LQ.out.but (ButIn.of hB.out) (Nat.zero_le _)) (by omega)
      have hc := hcl m hlm
      rw [hj1] at hc
      have VX := VQ.out.below hB.out
      have x2' := VX.c2
      have xl := VX.lt
      have RX := RQ.out.below (hB.out.mono (Nat.le_of_lt VQ.out.lt))
      obtain ⟨b0, off, rfl, hb0, hcell⟩ := RX (by omega)
      have he := hcell j hj2
      have hf := hcell (lowF f L a m) hlw
      have HST : Hid (lowF f L a (m + 1) = if (FloatKind.f32.format.order (at0 ws j) (at0 ws (lowF f L a m)) == some .lt) = true then j else lowF f L a m) := by
        show (if ltO (f (atI L m).toNat) (f (lowF f L a m)) = true then (atI L m).toNat else lowF f L a m) = _
        rw [hj1, Int.toNat_natCast, ltO_eq (HT.out.2 j hj2) (HT.out.2 _ hlw)]
      have hB' := Lib.hid (fun n => belowN (n := n) hB.out)
      generalize lowF f L a m = q at *
      clear hcl hj1 VX RX hcell hl1
      cases hg : (FloatKind.f32.format.order (at0 ws j) (at0 ws q) == some .lt)
      · rw [hg] at HST
        go_wp2_with fail
        go_quiet (fail)
        go_wp2_with fail
        go_roundw
        case rel => exact ⟨m + 1, by omega, by go_num, by rw [HST.out]; rfl, hB'.out _⟩
        case measure => simp [intOf]; omega
      · rw [hg] at HST
        go_wp2_with fail
        go_quiet (fail)
        go_wp2_with fail
        go_roundw
        case rel => exact ⟨m + 1, by omega, by go_num, by rw [HST.out]; rfl, hB'.out _⟩
        case measure => simp [intOf]; omega
    · have HE : Hid (m = L.length) := by show m = L.length; omega
      have HQ : Hid (lowF f L a m = lowB f x y a) := by show _ = _; rw [HD.out, HE.out]
      have HBE := Lib.hid (HBQ.out.trans (hB.out.mono (Nat.le_of_lt VQ.out.lt)))
      rw [HQ.out]
      go_wp2_with fail
      go_ret2
      exact ⟨rfl, by rw [HX.out]; exact HBE⟩

theorem isFrom_half (x : Nat) (w : World) : Calls Try.prog 56 #[.float .f32 x, .float .f32 0, .float .f32 1056964608] w fun e w' => e = .returned (.bool (fromB x 0 1056964608)) ∧ w = w' := from_any x 0 1056964608 w
theorem isFrom_one (x : Nat) (w : World) : Calls Try.prog 56 #[.float .f32 x, .float .f32 0, .float .f32 1065353216] w fun e w' => e = .returned (.bool (fromB x 0 1065353216)) ∧ w = w' := from_any x 0 1065353216 w
theorem implDrp (s : Int) (tk lv : Nat) (w : World) : Calls Try.prog 62 #[.int .i64 s, .float .f32 tk, .float .f32 lv] w fun e w' => e = .returned (.bool (inB s 0 128 && ruleB tk lv)) ∧ w = w' := by
  have N : Hid ((inB s 0 128 && ruleB tk lv) = (inB s 0 128 && (fromB tk 0 1056964608 && fromB lv 0 1065353216))) := rfl
  cases h1 : inB s 0 128 <;> cases h2 : fromB tk 0 1056964608
  all_goals
    have H1 := Lib.hid h1
    have H2 := Lib.hid h2
    have N2 := N.out
    rw [h1, h2] at N2
    have N3 := Lib.hid N2
    clear h1 h2 N N2
    go_enter Try.func62, Try.ntmps62
    go_wp2_with (first | (go_at_call 61; refine (within_any _ _ _ _).mono ?_; rintro e w' ⟨rfl, rfl⟩; rw [H1.out]) | (go_at_call 56; with_reducible refine (isFrom_half _ _).mono ?_; rintro e w' ⟨rfl, rfl⟩; rw [H2.out]) | (go_at_call 56; with_reducible refine (isFrom_one _ _).mono ?_; rintro e w' ⟨rfl, rfl⟩))
    go_ret
    exact ⟨by rw [N3.out]; rfl, rfl⟩
theorem specShare (x : Nat) (w : World) : Calls Try.prog 90 #[.float .f32 x] w fun e w' => e = .returned (.bool (fromB x 0 1065353216)) ∧ w = w' := by
  have EF : Hid (fromB x 0 1065353216 = ((FloatKind.f32.format.order x 0 == some .gt || FloatKind.f32.format.order x 0 == some .eq) && (FloatKind.f32.format.order x 1065353216 == some .lt || FloatKind.f32.format.order x 1065353216 == some .eq))) := by show _ = _; unfold fromB; rw [geO_eq, leO_eq]
  cases g1 : (FloatKind.f32.format.order x 0 == some .gt || FloatKind.f32.format.order x 0 == some .eq)
  all_goals
    rw [g1] at EF
    go_enter Try.func90, Try.ntmps90
    go_wp2_with fail
    go_ret
    exact ⟨by rw [EF.out]; rfl, rfl⟩
theorem specRul (tk lv : Nat) (w : World) : Calls Try.prog 59 #[.float .f32 tk, .float .f32 lv] w fun e w' => e = .returned (.bool (ruleB tk lv)) ∧ w = w' := by
  have EF : Hid (ruleB tk lv = (((FloatKind.f32.format.order tk 0 == some .gt || FloatKind.f32.format.order tk 0 == some .eq) && (FloatKind.f32.format.order tk 1056964608 == some .lt || FloatKind.f32.format.order tk 1056964608 == some .eq)) && fromB lv 0 1065353216)) := by show _ = _; unfold ruleB; rw [show fromB tk 0 1056964608 = _ from by unfold fromB; rw [geO_eq, leO_eq]]
  cases g1 : (FloatKind.f32.format.order tk 0 == some .gt || FloatKind.f32.format.order tk 0 == some .eq) <;> cases g2 : (FloatKind.f32.format.order tk 1056964608 == some .lt || FloatKind.f32.format.order tk 1056964608 == some .eq)
  all_goals
    rw [g1, g2] at EF
    go_enter Try.func59, Try.ntmps59
    go_wp2_with (go_at_call 90; refine (specShare _ _).mono ?_; rintro e w' ⟨rfl, rfl⟩)
    go_ret
    exact ⟨by rw [EF.out]; rfl, rfl⟩

end Go.Proofs.Ytckhdbnoihieeaa
