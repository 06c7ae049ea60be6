/-
  What is proved here: RangeOfSheet, of both packages, as walks. Conditions: at most 1048576 heights.
-/
import Derived.Test.YtalinjggodmijaaMas
namespace Go.Proofs.Ytalinjggodmijaa
open Flt Go.RowKit

/-- the lesser one, the first of equal ones -/
def lessW (x y : Nat) : Nat := if FloatKind.f32.format.order y x = some .lt then y else x
def greatW (x y : Nat) : Nat := if FloatKind.f32.format.order y x = some .gt then y else x
def loW (zs : List Nat) : Nat → Nat
  | 0 => at0 zs 0
  | k + 1 => lessW (loW zs k) (at0 zs k)
def hiW (zs : List Nat) : Nat → Nat
  | 0 => at0 zs 0
  | k + 1 => greatW (hiW zs k) (at0 zs k)
theorem beq_of_not {a : Option Ordering} {b : Ordering} (h : ¬ a = some b) : (a == some b) = false := beq_eq_false_iff_ne.2 h

theorem lesser_any (x y : Nat) (w : World) : Calls Try.prog 71 #[.float .f32 x, .float .f32 y] w fun e w' => e = .returned (.float .f32 (lessW x y)) ∧ w = w' := by
  by_cases h : FloatKind.f32.format.order y x = some .lt
  · have N : Hid (lessW x y = y) := if_pos h
    go_enter Try.func71, Try.ntmps71
    go_wp2
    go_ret
    exact ⟨by rw [N.out]; rfl, rfl⟩
  · have N : Hid (lessW x y = x) := if_neg h
    have h2 := beq_of_not h
    clear h
    go_enter Try.func71, Try.ntmps71
    go_wp2
    go_ret
    exact ⟨by rw [N.out]; rfl, rfl⟩
theorem greater_any (x y : Nat) (w : World) : Calls Try.prog 72 #[.float .f32 x, .float .f32 y] w fun e w' => e = .returned (.float .f32 (greatW x y)) ∧ w = w' := by
  by_cases h : FloatKind.f32.format.order y x = some .gt
  · have N : Hid (greatW x y = y) := if_pos h
    go_enter Try.func72, Try.ntmps72
    go_wp2
    go_ret
    exact ⟨by rw [N.out]; rfl, rfl⟩
  · have N : Hid (greatW x y = x) := if_neg h
    have h2 := beq_of_not h
    clear h
    go_enter Try.func72, Try.ntmps72
    go_wp2
    go_ret
    exact ⟨by rw [N.out]; rfl, rfl⟩

theorem shB_pos {x y : Int} {zs : List Nat} (h : shB x y zs = true) : 0 < zs.length := by
  unfold shB at h
  simp only [Bool.and_eq_true] at h
  obtain ⟨h1, h2, h3, _⟩ := h
  have := prod_bd h1 h2
  have := eq_of_beq h3
  omega

theorem specRange5 (v : Nat) (x y : Int) (A : Option Addr) (c : Nat) (zs : List Nat) (w : World) (V : VarT w v x y A zs.length c) (hr : RowF w w.heap.size A zs) (hn : zs.length ≤ 1048576) (h0 : 0 < zs.length) :
    Calls Try.prog 70 #[.pointer (some ⟨v, 0, none⟩)] w fun e w' => e = .returned (.tuple #[.float .f32 (loW zs zs.length), .float .f32 (hiW zs zs.length)]) ∧ w = w' := by
  obtain ⟨_, _, _, c2⟩ := V
  obtain ⟨b, off, rfl, hb, hcell⟩ := hr h0
  have hc0 : w.cell? ⟨b, off, none⟩ = some (.float .f32 (at0 zs 0)) := hcell 0 h0
  have HC := Lib.hid hcell
  clear hr hcell hb
  go_enter Try.func70, Try.ntmps70
  go_wp2
  clear hc0
  go_loop [4, 5, 24] (fun l h i => ∃ k : Nat, k ≤ zs.length ∧ i = .int .i64 k ∧ l = .float .f32 (loW zs k) ∧ h = .float .f32 (hiW zs k)) (fun _ _ i => zs.length - (intOf i).toNat)
  case atStart => exact ⟨0, Nat.zero_le _, rfl, rfl, rfl⟩
  case round =>
    obtain ⟨k, hk, rfl, rfl, rfl⟩ := hrel
    by_cases hlt : k < zs.length
    · have hc := HC.out k hlt
      by_cases g1 : FloatKind.f32.format.order (at0 zs k) (loW zs k) = some .lt
      · have N1 : Hid (loW zs (k + 1) = at0 zs k) := if_pos g1
        by_cases g2 : FloatKind.f32.format.order (at0 zs k) (hiW zs k) = some .gt
        · have N2 : Hid (hiW zs (k + 1) = at0 zs k) := if_pos g2
          go_wp2
          go_round
          case rel => exact ⟨k + 1, by omega, by go_num, by rw [N1.out], by rw [N2.out]⟩
          case measure => simp [intOf]; omega
        · have N2 : Hid (hiW zs (k + 1) = hiW zs k) := if_neg g2
          have g3 := beq_of_not g2
          clear g2
          go_wp2
          go_round
          case rel => exact ⟨k + 1, by omega, by go_num, by rw [N1.out], by rw [N2.out]⟩
          case measure => simp [intOf]; omega
      · have N1 : Hid (loW zs (k + 1) = loW zs k) := if_neg g1
        have g4 := beq_of_not g1
        clear g1
        by_cases g2 : FloatKind.f32.format.order (at0 zs k) (hiW zs k) = some .gt
        · have N2 : Hid (hiW zs (k + 1) = at0 zs k) := if_pos g2
          go_wp2
          go_round
          case rel => exact ⟨k + 1, by omega, by go_num, by rw [N1.out], by rw [N2.out]⟩
          case measure => simp [intOf]; omega
        · have N2 : Hid (hiW zs (k + 1) = hiW zs k) := if_neg g2
          have g3 := beq_of_not g2
          clear g2
          go_wp2
          go_round
          case rel => exact ⟨k + 1, by omega, by go_num, by rw [N1.out], by rw [N2.out]⟩
          case measure => simp [intOf]; omega
    · have HK : Hid (k = zs.length) := by show k = zs.length; omega
      go_wp2
      go_ret2
      exact ⟨by rw [HK.out]; rfl, rfl⟩

/-- what the range of a sheet is -/
def RPost (x y : Int) (zs : List Nat) (w : World) (e : Ending) (w' : World) : Prop := ∃ l h b, e = .returned (.tuple #[.float .f32 l, .float .f32 h, .bool b]) ∧ Hid (l = (if shB x y zs = true then loW zs zs.length else 0) ∧ h = (if shB x y zs = true then hiW zs zs.length else 0) ∧ b = shB x y zs) ∧ Hid (Below w.heap.size w w')

set_option maxHeartbeats 600000 in
theorem specRange (x y : Int) (A : Option Addr) (c : Nat) (zs : List Nat) (w : World) (hr : RowF w w.heap.size A zs) (hn : zs.length ≤ 1048576) :
    Calls Try.prog 31 #[.agg #[.int .i64 x, .int .i64 y, .slice A zs.length c]] w (RPost x y zs w) := by
  have B0 : Below w.heap.size w (w.alloc (.cells #[.int .i64 x, .int .i64 y, .slice A zs.length c] 27)) := (Below.refl _ _).alloc (Nat.le_refl _) _
  have HV := Lib.hid (varT_new w x y A zs.length c 27)
  have HC := Lib.hid (specIs w.heap.size x y A c zs _ HV.out (hr.carry B0) hn)
  have HB := Lib.hid B0
  have HR := Lib.hid (hr.carry B0)
  clear hr B0
  cases h : shB x y zs
  · have H1 := Lib.hid h
    clear h
    go_enter Try.func31, Try.ntmps31
    go_wp2_with fail
    refine HC.out.mono ?_
    rintro e w' ⟨rfl, n, rfl⟩
    rw [H1.out]
    clear HC
    go_wp2_with fail
    go_ret3
    exact ⟨0, 0, false, rfl, by rw [H1.out]; exact ⟨rfl, rfl, rfl⟩, belowN HB.out⟩
  · have H1 := Lib.hid h
    have h0 := shB_pos h
    clear h
    go_enter Try.func31, Try.ntmps31
    go_wp2_with fail
    refine HC.out.mono ?_
    rintro e w' ⟨rfl, n0, rfl⟩
    rw [H1.out]
    have HS := Lib.hid (specRange5 w.heap.size x y A c zs _ (HV.out.below (belowN (n := n0) (Below.refl _ _))) (HR.out.carry (belowN (n := n0) (Below.refl _ _))) hn h0)
    clear HC
    go_wp2_with fail
    refine HS.out.mono ?_
    rintro e w' ⟨rfl, rfl⟩
    clear HS
    go_wp2_with fail
    go_ret3
    exact ⟨_, _, true, rfl, by rw [H1.out]; exact ⟨rfl, rfl, rfl⟩, belowN HB.out⟩

set_option maxHeartbeats 600000 in
theorem implRange (x y : Int) (A : Option Addr) (c : Nat) (zs : List Nat) (w : World) (hr : RowF w w.heap.size A zs) (hn : zs.length ≤ 1048576) :
    Calls Try.prog 32 #[.agg #[.int .i64 x, .int .i64 y, .slice A zs.length c]] w (RPost x y zs w) := by
  have B0 : Below w.heap.size w (w.alloc (.cells #[.int .i64 x, .int .i64 y, .slice A zs.length c] 27)) := (Below.refl _ _).alloc (Nat.le_refl _) _
  have HV := Lib.hid (varT_new w x y A zs.length c 27)
  have HC := Lib.hid (implValid x y A c zs _ (hr.carry B0) hn)
  have HB := Lib.hid B0
  have HR := Lib.hid (hr.carry B0)
  clear hr B0
  cases h : shB x y zs
  · have H1 := Lib.hid h
    clear h
    go_enter Try.func32, Try.ntmps32
    go_wp2_with fail
    refine HC.out.mono ?_
    rintro e w1 ⟨rfl, hb⟩
    rw [H1.out]
    have HE : Hid (Below w.heap.size w w1) := HB.out.trans (hb.out.mono HB.out.size)
    clear HC hb
    go_wp2_with fail
    go_ret3
    exact ⟨0, 0, false, rfl, by rw [H1.out]; exact ⟨rfl, rfl, rfl⟩, HE⟩
  · have H1 := Lib.hid h
    have h0 := shB_pos h
    clear h
    go_enter Try.func32, Try.ntmps32
    go_wp2_with fail
    refine HC.out.mono ?_
    rintro e w1 ⟨rfl, hb⟩
    rw [H1.out]
    have HE : Hid (Below w.heap.size w w1) := HB.out.trans (hb.out.mono HB.out.size)
    have c2 := (HV.out.below hb.out).c2
    obtain ⟨b, off, rfl, hbb, hcell⟩ := (HR.out.carry hb.out) h0
    have hc0 := hcell 0 h0
    have hc0' : w1.cell? ⟨b, off, none⟩ = some (.float .f32 (at0 zs 0)) := hc0
    have HCL := Lib.hid hcell
    have i0 : (0 : Int) < (zs.length : Int) := by omega
    clear HC hb HV HR hcell
    go_wp2_with fail
    go_quiet (fail)
    clear hc0 hc0' i0
    go_wp2_with fail
    have HE2 : Hid (Below w.heap.size w (w1.drewN nq)) := belowN HE.out
    have HC2 : Hid (∀ j, j < zs.length → (w1.drewN nq).cell? ⟨b, off + j, none⟩ = some (.float .f32 (at0 zs j))) := HCL.out
    clear HE HCL c2
    generalize w1.drewN nq = w2 at *
    go_loop [5, 6, 23] (fun l h i => ∃ k : Nat, k ≤ zs.length ∧ i = .int .i64 k ∧ l = .float .f32 (loW zs k) ∧ h = .float .f32 (hiW zs k)) (fun _ _ i => zs.length - (intOf i).toNat)
    case atStart => exact ⟨0, Nat.zero_le _, rfl, rfl, rfl⟩
    case round =>
      obtain ⟨k, hk, rfl, rfl, rfl⟩ := hrel
      by_cases hlt : k < zs.length
      · have hc := HC2.out k hlt
        have N1 : Hid (loW zs (k + 1) = lessW (loW zs k) (at0 zs k)) := rfl
        have N2 : Hid (hiW zs (k + 1) = greatW (hiW zs k) (at0 zs k)) := rfl
        go_wp2_with (first | (go_at_call 71; refine (lesser_any _ _ _).mono ?_; rintro e w' ⟨rfl, rfl⟩) | (go_at_call 72; refine (greater_any _ _ _).mono ?_; rintro e w' ⟨rfl, rfl⟩))
        go_round
        case rel => exact ⟨k + 1, by omega, by go_num, by rw [N1.out], by rw [N2.out]⟩
        case measure => simp [intOf]; omega
      · have HK : Hid (k = zs.length) := by show k = zs.length; omega
        go_wp2
        go_ret3
        exact ⟨_, _, true, rfl, by rw [H1.out, HK.out]; exact ⟨rfl, rfl, rfl⟩, HE2⟩

end Go.Proofs.Ytalinjggodmijaa
