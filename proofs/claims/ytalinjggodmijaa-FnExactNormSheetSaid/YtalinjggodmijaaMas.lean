/-
  What is proved here: MassOfSheet and RangeOfSheet, of both packages, as walks. Conditions: at most 1048576 heights.
-/
import Derived.Test.YtalinjggodmijaaShv
namespace Go.Proofs.Ytalinjggodmijaa
open Flt Go.RowKit

/-- a number is finite -/
def finO (a : Option Nat) : Bool := match a with | some x => finB .f32 x | none => false
theorem finO_can (g : Nat) : finO (can .f32 g) = finB .f32 g := by
  cases hn : nanW .f32 g with
  | true => rw [can_nan hn, finB_nan hn]; rfl
  | false => rw [can_num hn]; rfl
def numC (c : Option Nat) : Option Nat := if finO c = true then c else some 0

theorem specNumber (g : Nat) (c : Option Nat) (hc : can .f32 g = c) (hw : WF .f32 g) (w : World) : Calls Try.prog 73 #[.float .f32 g] w (VPost (numC c) (finO c) w) := by
  cases h : finO c
  · have HF : Hid (finB .f32 g = false) := by show _ = _; rw [← finO_can, hc]; exact h
    have N : Hid (numC c = some 0) := by show _ = _; unfold numC; rw [h, if_neg (by decide)]
    clear h hc
    rw [N.out]
    go_enter Try.func73, Try.ntmps73
    go_wp2_with (go_at_call 77; refine (specFin _ _).mono ?_; rintro e w' ⟨rfl, n, rfl⟩; rw [HF.out])
    go_ret2
    exact vpost_no
  · have HF : Hid (finB .f32 g = true) := by show _ = _; rw [← finO_can, hc]; exact h
    have N : Hid (numC c = c) := by show _ = _; unfold numC; rw [h, if_pos rfl]
    have HC := Lib.hid hc
    clear h hc
    rw [N.out]
    go_enter Try.func73, Try.ntmps73
    go_wp2_with (go_at_call 77; refine (specFin _ _).mono ?_; rintro e w' ⟨rfl, n, rfl⟩; rw [HF.out])
    go_ret2
    exact vpost HC.out hw
theorem implNumber (g : Nat) (c : Option Nat) (hc : can .f32 g = c) (hw : WF .f32 g) (w : World) : Calls Try.prog 74 #[.float .f32 g] w (VPost (numC c) (finO c) w) := by
  cases h : finO c
  · have HF : Hid (finB .f32 g = false) := by show _ = _; rw [← finO_can, hc]; exact h
    have N : Hid (numC c = some 0) := by show _ = _; unfold numC; rw [h, if_neg (by decide)]
    clear h hc
    rw [N.out]
    go_enter Try.func74, Try.ntmps74
    go_wp2_with (go_at_call 79; refine (implFin _ _).mono ?_; rintro e w' ⟨rfl, n, rfl⟩; rw [HF.out])
    go_ret2
    exact vpost_no
  · have HF : Hid (finB .f32 g = true) := by show _ = _; rw [← finO_can, hc]; exact h
    have N : Hid (numC c = c) := by show _ = _; unfold numC; rw [h, if_pos rfl]
    have HC := Lib.hid hc
    clear h hc
    rw [N.out]
    go_enter Try.func74, Try.ntmps74
    go_wp2_with (go_at_call 79; refine (implFin _ _).mono ?_; rintro e w' ⟨rfl, n, rfl⟩; rw [HF.out])
    go_ret2
    exact vpost HC.out hw

/-- what a function of sheets gives: a word, and whether it has one -/
def MPost (c : Option Nat) (b : Bool) (w : World) (e : Ending) (w' : World) : Prop := ∃ g, e = .returned (.tuple #[.float .f32 g, .bool b]) ∧ Hid (can .f32 g = c) ∧ WF .f32 g ∧ Hid (Below w.heap.size w w')
def massB (x y : Int) (zs : List Nat) : Bool := shB x y zs && finO (sumF zs)
def massC (x y : Int) (zs : List Nat) : Option Nat := if shB x y zs = true then numC (sumF zs) else some 0

set_option maxHeartbeats 600000 in
theorem specMass (x y : Int) (A : Option Addr) (c : Nat) (zs : List Nat) (w : World) (hr : RowF w w.heap.size A zs) (hn : zs.length ≤ 1048576) :
    Calls Try.prog 33 #[.agg #[.int .i64 x, .int .i64 y, .slice A zs.length c]] w (MPost (massC x y zs) (massB x y zs) w) := by
  have B0 : Below w.heap.size w (w.alloc (.cells #[.int .i64 x, .int .i64 y, .slice A zs.length c] 27)) := (Below.refl _ _).alloc (Nat.le_refl _) _
  have HV := Lib.hid (varT_new w x y A zs.length c 27)
  have HC := Lib.hid (specIs w.heap.size x y A c zs _ HV.out (hr.carry B0) hn)
  have HB := Lib.hid B0
  have HR := Lib.hid (hr.carry B0)
  clear hr B0
  cases h : shB x y zs
  · have N1 : Hid (massC x y zs = some 0) := by show _ = _; unfold massC; rw [h, if_neg (by decide)]
    have N2 : Hid (massB x y zs = false) := by show _ = _; unfold massB; rw [h]; rfl
    have H1 := Lib.hid h
    clear h
    rw [N1.out, N2.out]
    go_enter Try.func33, Try.ntmps33
    go_wp2_with fail
    refine HC.out.mono ?_
    rintro e w' ⟨rfl, n, rfl⟩
    rw [H1.out]
    clear HC
    go_wp2_with fail
    go_ret2
    exact ⟨0, rfl, by show can .f32 0 = some 0; decide, ⟨by decide⟩, belowN HB.out⟩
  · have N1 : Hid (massC x y zs = numC (sumF zs)) := by show _ = _; unfold massC; rw [h, if_pos rfl]
    have N2 : Hid (massB x y zs = finO (sumF zs)) := by show _ = _; unfold massB; rw [h]; rfl
    have H1 := Lib.hid h
    clear h
    rw [N1.out, N2.out]
    go_enter Try.func33, Try.ntmps33
    go_wp2_with fail
    refine HC.out.mono ?_
    rintro e w' ⟨rfl, n0, rfl⟩
    rw [H1.out]
    clear HC
    have c2 := HV.out.c2
    clear HV
    go_wp2_with fail
    generalize w.alloc (.cells #[.int .i64 x, .int .i64 y, .slice A zs.length c] 27) = a0 at *
    generalize hX : w.heap.size = X at *
    have HX := Lib.hid hX
    clear hX
    go_loopw [4, 11] (fun s i wr => ∃ k : Nat, k ≤ zs.length ∧ i = .int .i64 k ∧ ∃ n sw, wr = a0.drewN n ∧ s = .float .f32 sw ∧ WF .f32 sw ∧ Hid (can .f32 sw = sumF (zs.take k))) (fun _ i _ => zs.length - (intOf i).toNat)
    case atStart => exact ⟨0, Nat.zero_le _, rfl, _, _, rfl, rfl, ⟨by decide⟩, by show can .f32 0 = _; simp [sumF]⟩
    case round =>
      obtain ⟨k, hk, rfl, n, sw, rfl, rfl, hw, hs⟩ := hrel
      by_cases hlt : k < zs.length
      · obtain ⟨b, off, rfl, hb, hcell⟩ := HR.out (by omega)
        have hc := hcell k hlt
        have S := Lib.hid (sum_step zs k hlt)
        clear hcell
        go_wp2_with ((with_reducible refine upon_bin rfl ?_); intro _ _ _ _)
        rename_i r n2 wr er
        go_roundw
        case rel => exact ⟨k + 1, by omega, by go_num, _, _, rfl, rfl, wr, by show can .f32 r = _; rw [er.out, hs.out, S.out]⟩
        case measure => simp [intOf]; omega
      · have e : Hid (zs.take k = zs) := List.take_of_length_le (by omega)
        have hcs : can .f32 sw = sumF zs := by rw [hs.out, e.out]
        have HN := Lib.hid (fun W => specNumber sw (sumF zs) hcs hw W)
        clear hcs
        go_wp2_with fail
        refine (HN.out _).mono ?_
        rintro e w' ⟨g, n3, rfl, rfl, hg, hgw⟩
        clear HN
        go_wp2_with fail
        go_ret2
        exact ⟨g, rfl, hg, hgw, by rw [HX.out]; exact belowN HB.out⟩

theorem self_any (g : Nat) (w : World) : Calls Try.prog 76 #[.float .f32 g] w fun e w' => e = .returned (.float .f32 g) ∧ w = w' := by
  go_enter Try.func76, Try.ntmps76
  go_wp2
  go_ret
  exact ⟨rfl, rfl⟩

theorem implSumOver (A : Option Addr) (c : Nat) (zs : List Nat) (w : World) (Z : Nat) (hr : RowF w Z A zs) (hn : zs.length ≤ 1048576) :
    Calls Try.prog 75 #[.slice A zs.length c, .func (.func 76) #[] #[]] w (FPost .f32 (sumF zs) w) := by
  have HR := Lib.hid hr
  clear hr
  go_enter Try.func75, Try.ntmps75
  go_wp2
  go_loopw [5, 10] (fun s i wr => ∃ k : Nat, k ≤ zs.length ∧ i = .int .i64 k ∧ ∃ n sw, wr = w.drewN n ∧ s = .float .f32 sw ∧ WF .f32 sw ∧ Hid (can .f32 sw = sumF (zs.take k))) (fun _ i _ => zs.length - (intOf i).toNat)
  case atStart => exact ⟨0, Nat.zero_le _, rfl, 0, _, rfl, rfl, ⟨by decide⟩, by show can .f32 0 = _; simp [sumF]⟩
  case round =>
    obtain ⟨k, hk, rfl, n, sw, rfl, rfl, hw, hs⟩ := hrel
    by_cases hlt : k < zs.length
    · obtain ⟨b, off, rfl, hb, hcell⟩ := HR.out (by omega)
      have hc := hcell k hlt
      have S := Lib.hid (sum_step zs k hlt)
      clear hcell
      go_wp2_with (first | (go_at_call 76; refine (self_any _ _).mono ?_; rintro e w' ⟨rfl, rfl⟩) | ((with_reducible refine upon_bin rfl ?_); intro _ _ _ _))
      rename_i r n2 wr er
      go_roundw
      case rel => exact ⟨k + 1, by omega, by go_num, _, _, rfl, rfl, wr, by show can .f32 r = _; rw [er.out, hs.out, S.out]⟩
      case measure => simp [intOf]; omega
    · have e : Hid (zs.take k = zs) := List.take_of_length_le (by omega)
      go_wp2
      go_ret
      exact fpost (by rw [hs.out, e.out]) hw

set_option maxHeartbeats 600000 in
theorem implMass (x y : Int) (A : Option Addr) (c : Nat) (zs : List Nat) (w : World) (hr : RowF w w.heap.size A zs) (hn : zs.length ≤ 1048576) :
    Calls Try.prog 34 #[.agg #[.int .i64 x, .int .i64 y, .slice A zs.length c]] w (MPost (massC x y zs) (massB x y zs) w) := by
  have B0 : Below w.heap.size w (w.alloc (.cells #[.int .i64 x, .int .i64 y, .slice A zs.length c] 27)) := (Below.refl _ _).alloc (Nat.le_refl _) _
  have HV := Lib.hid (varT_new w x y A zs.length c 27)
  have HC := Lib.hid (implValid x y A c zs _ (hr.carry B0) hn)
  have HB := Lib.hid B0
  have HR := Lib.hid (hr.carry B0)
  clear hr B0
  cases h : shB x y zs
  · have N1 : Hid (massC x y zs = some 0) := by show _ = _; unfold massC; rw [h, if_neg (by decide)]
    have N2 : Hid (massB x y zs = false) := by show _ = _; unfold massB; rw [h]; rfl
    have H1 := Lib.hid h
    clear h
    rw [N1.out, N2.out]
    go_enter Try.func34, Try.ntmps34
    go_wp2_with fail
    refine HC.out.mono ?_
    rintro e w1 ⟨rfl, hb⟩
    rw [H1.out]
    have HE : Hid (Below w.heap.size w w1) := HB.out.trans (hb.out.mono HB.out.size)
    clear HC hb
    go_wp2_with fail
    go_ret2
    exact ⟨0, rfl, by show can .f32 0 = some 0; decide, ⟨by decide⟩, HE⟩
  · have N1 : Hid (massC x y zs = numC (sumF zs)) := by show _ = _; unfold massC; rw [h, if_pos rfl]
    have N2 : Hid (massB x y zs = finO (sumF zs)) := by show _ = _; unfold massB; rw [h]; rfl
    have H1 := Lib.hid h
    clear h
    rw [N1.out, N2.out]
    go_enter Try.func34, Try.ntmps34
    go_wp2_with fail
    refine HC.out.mono ?_
    rintro e w1 ⟨rfl, hb⟩
    rw [H1.out]
    have HE : Hid (Below w.heap.size w w1) := HB.out.trans (hb.out.mono HB.out.size)
    have c2 := (HV.out.below hb.out).c2
    have HS := Lib.hid (implSumOver A c zs w1 _ (HR.out.carry hb.out) hn)
    clear HC hb HV HR
    go_wp2_with fail
    refine HS.out.mono ?_
    rintro e w' ⟨g, n, rfl, rfl, hg, hgw⟩
    have HN := Lib.hid (fun W => implNumber g (sumF zs) hg.out hgw W)
    clear HS
    go_wp2_with fail
    refine (HN.out _).mono ?_
    rintro e w' ⟨g3, n3, rfl, rfl, hg3, hgw3⟩
    clear HN
    go_wp2_with fail
    go_ret2
    exact ⟨g3, rfl, hg3, hgw3, belowN HE.out⟩

end Go.Proofs.Ytalinjggodmijaa
