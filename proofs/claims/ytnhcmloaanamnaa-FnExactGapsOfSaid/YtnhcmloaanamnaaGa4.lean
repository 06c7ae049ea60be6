/-
  What is proved here: GapsOf of lists of none, or of one; both packages give the same. Conditions: at most 1048576 numbers.
-/
import Derived.Test.YtnhcmloaanamnaaGa3
namespace Go.Proofs.Ytnhcmloaanamnaa
open Flt Go.RowKit
attribute [local go_sem] run_store_float run_store_fS
set_option linter.unusedVariables false
set_option linter.unusedSimpArgs false

theorem sNone (A : Option Addr) (c : Nat) (w : World) : Calls Try.prog 40 #[.slice A 0 c, .func (.func 37) #[] #[]] w fun e w' => e = .returned (.tuple #[]) ∧ w = w' := by
  have HI : Hid (∀ W, Calls Try.prog 109 #[.slice A 0 c, .int .i64 0, .int .i64 0, .func (.func 37) #[] #[]] W fun e w' => e = .returned (.tuple #[]) ∧ W = w') := fun W => by
    go_enter Try.func109, Try.ntmps109
    go_wp2_with fail
    go_loopw [8] (fun i wr => i = .int .i64 1 ∧ wr = W) (fun _ _ => 0)
    case atStart => exact ⟨rfl, rfl⟩
    case round =>
      obtain ⟨rfl, rfl⟩ := hrel
      go_wp2_with fail
      go_end0
      exact ⟨rfl, rfl⟩
  have HS : Hid (∀ W, Calls Try.prog 80 #[.slice A 0 c, .int .i64 0, .func (.func 37) #[] #[]] W fun e w' => e = .returned (.tuple #[]) ∧ W = w') := fun W => by
    go_enter Try.func80, Try.ntmps80
    go_wp2_with fail
    go_loopw [7, 8] (fun a b wr => a = .int .i64 0 ∧ b = .int .i64 20 ∧ wr = W) (fun _ _ _ => 0)
    case atStart => exact ⟨rfl, rfl, rfl⟩
    case round =>
      obtain ⟨rfl, rfl, rfl⟩ := hrel
      go_wp2_with (go_at_call 109; refine (HI.out _).mono ?_; rintro e w' ⟨rfl, rfl⟩)
      go_loopw [6] (fun s wr2 => s = .int .i64 20 ∧ wr2 = wr) (fun _ _ => 0)
      case atStart => exact ⟨rfl, rfl⟩
      case round =>
        obtain ⟨rfl, rfl⟩ := hrel
        go_wp2_with fail
        go_end0
        exact ⟨rfl, rfl⟩
  clear HI
  go_enter Try.func40, Try.ntmps40
  go_wp2_with (go_at_call 80; refine (HS.out _).mono ?_; rintro e w' ⟨rfl, rfl⟩)
  go_end0
  exact ⟨rfl, rfl⟩
theorem stepsNone (A : Option Addr) (c n : Nat) (hn : n ≤ 1) (w : World) : Calls Try.prog 41 #[.slice A n c, .int .i64 1] w fun e w' => e = .returned (.slice none 0 0) ∧ w = w' := by
  have h : ¬ (1 : Int) < (n : Int) := by omega
  go_enter Try.func41, Try.ntmps41
  go_wp2_with fail
  go_loopw [5, 6] (fun o i wr => o = .slice none 0 0 ∧ i = .int .i64 1 ∧ wr = w) (fun _ _ _ => 0)
  case atStart => exact ⟨rfl, rfl, rfl⟩
  case round =>
    obtain ⟨rfl, rfl, rfl⟩ := hrel
    go_wp2_with fail
    go_ret
    exact ⟨rfl, rfl⟩
set_option maxRecDepth 100000 in
theorem cloneNone (A : Option Addr) (c : Nat) (w : World) : Calls Try.prog 39 #[.slice A 0 c] w fun e w' => ∃ A' c', e = .returned (.slice A' 0 c') ∧ Hid (Below w.heap.size w w') := by
  have B0 : Hid (Below w.heap.size w (w.alloc (.cells #[] 34))) := (Below.refl _ _).alloc (Nat.le_refl _) _
  cases A with
  | none =>
    have hnil : ∀ W, (binOp .eql 22 (.slice none 0 c) (.slice none 0 0)).run Try.prog W = .ok (.bool true) W := fun W => Lib.run_eql_slice_nil (P := Try.prog) W 22 34 none 0 c 0 0 Try.underlying22
    go_enter Try.func39, Try.ntmps39
    go_wp2_with fail
    go_ret
    exact ⟨none, 0, rfl, Below.refl _ _⟩
  | some a =>
    have hnil : ∀ W, (binOp .eql 22 (.slice (some a) 0 c) (.slice none 0 0)).run Try.prog W = .ok (.bool false) W := fun W => Lib.run_eql_slice_nil (P := Try.prog) W 22 34 (some a) 0 c 0 0 Try.underlying22
    go_enter Try.func39, Try.ntmps39
    go_wp2_with fail
    go_ret
    exact ⟨some ⟨w.heap.size, 0, none⟩, 0, rfl, B0⟩
theorem implGap0 (A : Option Addr) (c : Nat) (w : World) : Calls Try.prog 18 #[.slice A 0 c] w (LP (fun _ => none) 0 true w) := by
  have HL := Lib.hid (implList A c [] w w.heap.size (fun h => absurd h (by decide)) (by decide))
  have HF := Lib.hid (fun W => implFins none 0 [] W 0 (fun h => absurd h (by decide)) (by decide))
  have HCL := Lib.hid (fun W => cloneNone A c W)
  go_enter Try.func18, Try.ntmps18
  go_wp2_with (first | (go_at_call 34; refine HL.out.mono ?_; rintro e w' ⟨rfl, n, rfl⟩) | (go_at_call 39; refine (HCL.out _).mono ?_; rintro e w2 ⟨A2, c2, rfl, b2⟩) | (go_at_call 40; refine (sNone _ _ _).mono ?_; rintro e w' ⟨rfl, rfl⟩) | (go_at_call 41; refine (stepsNone _ _ 0 (by decide) _).mono ?_; rintro e w' ⟨rfl, rfl⟩) | (go_at_call 42; refine (HF.out _).mono ?_; rintro e w' ⟨rfl, n2, rfl⟩))
  go_ret2
  exact ⟨none, 0, [], rfl, Tl.nil _, RowIn.empty (Nat.le_refl _), belowN ((belowN (Below.refl _ _)).trans b2.out)⟩
theorem implGap1 (A : Option Addr) (c : Nat) (zs : List Nat) (w : World) (hr : RowF w w.heap.size A zs) (hb : lisB zs = true) (h1 : zs.length = 1) : Calls Try.prog 18 #[.slice A zs.length c] w (LP (fun _ => none) 0 true w) := by
  obtain ⟨h3, hfa⟩ := lisB_yes hb
  have HL := Lib.hid (implList A c zs w _ hr (by omega))
  rw [hb] at HL
  have HF := Lib.hid (fun W => implFins none 0 [] W 0 (fun h => absurd h (by decide)) (by decide))
  have HCL := Lib.hid (fun n => clone_any A c zs (w.drewN n) hr (by omega) (by omega))
  have HSR := Lib.hid (fun (g c : Nat) (W : World) (hR : sFRw (at0 zs) W g zs.length (fun j => j)) => sFSrt (at0 zs) g zs.length c (gK zs) (fun x y => cmpW (at0 zs x) (at0 zs y)) (fun _ => True) W (sFEnv_gap zs g hfa) trivial hR (by omega) (by omega))
  have HST := Lib.hid (fun A c W => stepsNone A c zs.length (by omega) W)
  have H1 := Lib.hid h1
  clear hr hb hfa h1
  go_enter Try.func18, Try.ntmps18
  go_wp2_with (first | (go_at_call 34; refine HL.out.mono ?_; rintro e w' ⟨rfl, n, rfl⟩) | (go_at_call 39; refine (HCL.out _).mono ?_; rintro e w2 ⟨g, c2, rfl, r2, b2⟩) | (go_at_call 40; refine (HSR.out g c2 _ (r2.out.sRow (by rw [H1.out]; decide))).mono ?_; rintro e w3 ⟨rfl, h, p3, r3, b3⟩) | (go_at_call 41; refine (HST.out _ _ _).mono ?_; rintro e w' ⟨rfl, rfl⟩) | (go_at_call 42; refine (HF.out _).mono ?_; rintro e w' ⟨rfl, n2, rfl⟩))
  go_ret2
  exact ⟨none, 0, [], rfl, Tl.nil _, RowIn.empty (Nat.le_refl _), belowN (((belowN (Below.refl _ _)).trans b2.out).trans (b3.out.below (r2.out.inn _ rfl).1))⟩
theorem specGap0 (A : Option Addr) (c : Nat) (w : World) : Calls Try.prog 17 #[.slice A 0 c] w (LP (fun _ => none) 0 true w) := by
  have HL := Lib.hid (specList A c [] w w.heap.size (fun h => absurd h (by decide)) (by decide))
  have HLS := Lib.hid (fun A W => specLst A 0 [] W 0 (fun h => absurd h (by decide)) (by decide))
  have B0 : Hid (∀ n, Below w.heap.size w (((w.drewN n).alloc (.cells #[] 34)).alloc (.cells #[] 34))) := fun n => ((belowN (Below.refl _ _)).alloc (Nat.le_refl _) _).alloc (by simp) _
  cases A with
  | none =>
    go_enter Try.func17, Try.ntmps17
    go_wp2_with (go_at_call 32; refine HL.out.mono ?_; rintro e w' ⟨rfl, n, rfl⟩)
    go_loopw [5] (fun i wr => i = .int .i64 1 ∧ wr = (w.drewN n).alloc (.cells #[] 34)) (fun _ _ => 0)
    case atStart => exact ⟨rfl, rfl⟩
    case round =>
      obtain ⟨rfl, rfl⟩ := hrel
      go_wp2_with fail
      go_loopw [8, 9] (fun o i wr => o = .slice (some ⟨w.heap.size + 1, 0, none⟩) 0 0 ∧ i = .int .i64 1 ∧ wr = ((w.drewN n).alloc (.cells #[] 34)).alloc (.cells #[] 34)) (fun _ _ _ => 0)
      case atStart => exact ⟨by simp, rfl, rfl⟩
      case round =>
        obtain ⟨rfl, rfl, rfl⟩ := hrel
        go_wp2_with (go_at_call 38; refine (HLS.out _ _).mono ?_; rintro e w' ⟨he, -, n3, rfl⟩; obtain rfl := he rfl)
        go_ret2
        exact ⟨_, 0, [], rfl, Tl.nil _, ⟨Nat.le_refl _, fun a ha => by injection ha with ha; subst ha; simp [World.drewN], fun h => absurd h (by decide)⟩, belowN (B0.out _)⟩
  | some a =>
    go_enter Try.func17, Try.ntmps17
    go_wp2_with (go_at_call 32; refine HL.out.mono ?_; rintro e w' ⟨rfl, n, rfl⟩)
    go_loopw [5] (fun i wr => i = .int .i64 1 ∧ wr = (w.drewN n).alloc (.cells #[] 34)) (fun _ _ => 0)
    case atStart => exact ⟨rfl, rfl⟩
    case round =>
      obtain ⟨rfl, rfl⟩ := hrel
      go_wp2_with fail
      go_loopw [8, 9] (fun o i wr => o = .slice (some ⟨w.heap.size + 1, 0, none⟩) 0 0 ∧ i = .int .i64 1 ∧ wr = ((w.drewN n).alloc (.cells #[] 34)).alloc (.cells #[] 34)) (fun _ _ _ => 0)
      case atStart => exact ⟨by simp, rfl, rfl⟩
      case round =>
        obtain ⟨rfl, rfl, rfl⟩ := hrel
        go_wp2_with (go_at_call 38; refine (HLS.out _ _).mono ?_; rintro e w' ⟨he, -, n3, rfl⟩; obtain rfl := he rfl)
        go_ret2
        exact ⟨_, 0, [], rfl, Tl.nil _, ⟨Nat.le_refl _, fun a ha => by injection ha with ha; subst ha; simp [World.drewN], fun h => absurd h (by decide)⟩, belowN (B0.out _)⟩
theorem specGap1 (A : Option Addr) (c : Nat) (zs : List Nat) (w : World) (hr : RowF w w.heap.size A zs) (hb : lisB zs = true) (h1 : zs.length = 1) : Calls Try.prog 17 #[.slice A zs.length c] w (LP (fun _ => none) 0 true w) := by
  have HL := Lib.hid (specList A c zs w _ hr (by omega))
  rw [hb] at HL
  obtain ⟨b, off, rfl, hbw, hcell⟩ := hr (by omega)
  have HC := Lib.hid hcell
  have h0 : 0 < zs.length := by omega
  have hn9 : zs.length ≤ 1048576 := by omega
  have hn1 : ¬ (1 : Int) < (zs.length : Int) := by omega
  have HLS := Lib.hid (fun A W => specLst A 0 [] W 0 (fun h => absurd h (by decide)) (by decide))
  clear hr hb hcell h1
  go_enter Try.func17, Try.ntmps17
  go_wp2_with (first | (go_at_call 32; refine HL.out.mono ?_; rintro e w' ⟨rfl, n, rfl⟩) | (at_builtin; refine wpCopy rfl _ _ rfl (n := 0) (w0 := w.drewN _) (zs := zs) rfl (by exact hbw) (by exact HC.out) rfl rfl h0 hn9 ?_; intro g c2 w2 O2 B2; have HB2 : Hid (Below w.heap.size w w2) := (belowN (Below.refl _ _)).trans B2; clear O2 B2))
  go_loopw [5] (fun i wr => i = .int .i64 1 ∧ wr = w2) (fun _ _ => 0)
  case atStart => exact ⟨rfl, rfl⟩
  case round =>
    obtain ⟨rfl, rfl⟩ := hrel
    have B3 : Hid (Below w.heap.size w (wr.alloc (.cells #[] 34))) := HB2.out.alloc HB2.out.size _
    have hsz : Hid (w.heap.size ≤ wr.heap.size) := HB2.out.size
    go_wp2_with fail
    generalize wr = wo at *
    go_loopw [8, 9] (fun o i wr => o = .slice (some ⟨wo.heap.size, 0, none⟩) 0 0 ∧ i = .int .i64 1 ∧ wr = wo.alloc (.cells #[] 34)) (fun _ _ _ => 0)
    case atStart => exact ⟨rfl, rfl, rfl⟩
    case round =>
      obtain ⟨rfl, rfl, rfl⟩ := hrel
      go_wp2_with (go_at_call 38; refine (HLS.out _ _).mono ?_; rintro e w' ⟨he, -, n3, rfl⟩; obtain rfl := he rfl)
      go_ret2
      exact ⟨_, 0, [], rfl, Tl.nil _, ⟨Nat.le_refl _, fun a ha => by injection ha with ha; subst ha; exact ⟨hsz.out, by simp [World.drewN]⟩, fun h => absurd h (by decide)⟩, belowN B3.out⟩
theorem specGapNo (A : Option Addr) (c : Nat) (zs : List Nat) (w : World) (hr : RowF w w.heap.size A zs) (hn : zs.length ≤ 1048576) (hb : lisB zs = false) :
    Calls Try.prog 17 #[.slice A zs.length c] w (LP (fun _ => none) 0 false w) := by
  have HL := Lib.hid (specList A c zs w _ hr hn)
  rw [hb] at HL
  clear hr hb
  go_enter Try.func17, Try.ntmps17
  go_wp2_with (go_at_call 32; refine HL.out.mono ?_; rintro e w' ⟨rfl, n, rfl⟩)
  go_ret2
  exact lp_no (belowN (Below.refl _ _))
theorem implGapNo (A : Option Addr) (c : Nat) (zs : List Nat) (w : World) (hr : RowF w w.heap.size A zs) (hn : zs.length ≤ 1048576) (hb : lisB zs = false) :
    Calls Try.prog 18 #[.slice A zs.length c] w (LP (fun _ => none) 0 false w) := by
  have HL := Lib.hid (implList A c zs w _ hr hn)
  rw [hb] at HL
  clear hr hb
  go_enter Try.func18, Try.ntmps18
  go_wp2_with (go_at_call 34; refine HL.out.mono ?_; rintro e w' ⟨rfl, n, rfl⟩)
  go_ret2
  exact lp_no (belowN (Below.refl _ _))
theorem gapBoth (zs : List Nat) (hn : zs.length ≤ 1048576) : ∃ f n b, n ≤ 1048576 ∧
    (∀ W A c, RowF W W.heap.size A zs → Calls Try.prog 17 #[.slice A zs.length c] W (LP f n b W)) ∧
    (∀ W A c, RowF W W.heap.size A zs → Calls Try.prog 18 #[.slice A zs.length c] W (LP f n b W)) := by
  cases hb : lisB zs with
  | false => exact ⟨fun _ => none, 0, false, by omega, fun W A c h => specGapNo A c zs W h hn hb, fun W A c h => implGapNo A c zs W h hn hb⟩
  | true =>
    by_cases h0 : zs.length = 0
    · obtain rfl := List.eq_nil_of_length_eq_zero h0
      exact ⟨fun _ => none, 0, true, by omega, fun W A c h => specGap0 A c W, fun W A c h => implGap0 A c W⟩
    · by_cases h1 : zs.length = 1
      · exact ⟨fun _ => none, 0, true, by omega, fun W A c h => specGap1 A c zs W h hb h1, fun W A c h => implGap1 A c zs W h hb h1⟩
      · obtain ⟨H, hH⟩ := sEnd_ex (gK zs) zs.length
        exact ⟨_, _, _, by unfold cntG; split <;> omega, fun W A c h => specGap A c zs H W h hb (by omega) hH, fun W A c h => implGap A c zs H W h hb (by omega) hH⟩
end Go.Proofs.Ytnhcmloaanamnaa
