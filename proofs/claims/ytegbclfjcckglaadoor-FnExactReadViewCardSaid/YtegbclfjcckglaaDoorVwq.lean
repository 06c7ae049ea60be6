/-
  What is proved here: whether views are valid, of both packages, as walks. Conditions: none.
-/
import Derived.Test.YtegbclfjcckglaaDoorSmq
namespace Go.Proofs.YtegbclfjcckglaaDoor
open Flt Go.RowKit

def gtQ (o : Option Ordering) : Bool := match o with | some .gt => true | _ => false
def wideB (z : Nat) : Bool := gtQ (FloatKind.f32.format.order z 0) && leQ (FloatKind.f32.format.order z 1148846080)
def viewB (p q z : Nat) (k l : Int) : Bool := smC p q && (wideB z && (inQ k 1 16 && inQ l 1 16))

theorem wide_ways (z : Nat) : (gtQ (FloatKind.f32.format.order z 0) = false ∧ wideB z = false ∧ (FloatKind.f32.format.order z 0 = none ∨ FloatKind.f32.format.order z 0 = some .lt ∨ FloatKind.f32.format.order z 0 = some .eq)) ∨
    (FloatKind.f32.format.order z 0 = some .gt ∧ ((wideB z = false ∧ (FloatKind.f32.format.order z 1148846080 = none ∨ FloatKind.f32.format.order z 1148846080 = some .gt)) ∨ (wideB z = true ∧ (FloatKind.f32.format.order z 1148846080 = some .lt ∨ FloatKind.f32.format.order z 1148846080 = some .eq)))) := by
  unfold wideB
  rcases ordQ (FloatKind.f32.format.order z 0) with h | h | h | h
  · left; rw [h]; exact ⟨rfl, rfl, .inl rfl⟩
  · left; rw [h]; exact ⟨rfl, rfl, .inr (.inl rfl)⟩
  · left; rw [h]; exact ⟨rfl, rfl, .inr (.inr rfl)⟩
  · right
    refine ⟨h, ?_⟩
    rw [h]
    rcases ordQ (FloatKind.f32.format.order z 1148846080) with g | g | g | g
    · left; rw [g]; exact ⟨rfl, .inl rfl⟩
    · right; rw [g]; exact ⟨rfl, .inl rfl⟩
    · right; rw [g]; exact ⟨rfl, .inr rfl⟩
    · left; rw [g]; exact ⟨rfl, .inr rfl⟩

set_option maxHeartbeats 4000000 in
theorem specView (p q z : Nat) (k l : Int) (x : Nat) (a : World) (c0 : a.cell? ⟨x, 0, none⟩ = some (.complex .f32 p q)) (c1 : a.cell? ⟨x, 1, none⟩ = some (.float .f32 z)) (c2 : a.cell? ⟨x, 2, none⟩ = some (.int .i64 k)) (c3 : a.cell? ⟨x, 3, none⟩ = some (.int .i64 l)) :
    Calls Tryd.prog 106 #[.pointer (some ⟨x, 0, none⟩)] a fun e w' => e = .returned (.bool (viewB p q z k l)) ∧ a = w' := by
  have N : Hid (viewB p q z k l = (smC p q && (wideB z && (inQ k 1 16 && inQ l 1 16)))) := rfl
  have HC := fun W => small_spec p q W
  have HK := fun W => within_spec k 1 16 W
  have HL := fun W => within_spec l 1 16 W
  cases hc : smC p q
  · rw [hc] at N HC
    have H1 := Lib.hid HC
    clear HC HK HL hc
    go_enter Tryd.func106, Tryd.ntmps106
    go_wp2_with (go_at_call 130; refine (H1.out _).mono ?_; rintro e w' ⟨rfl, rfl⟩)
    go_ret
    exact ⟨by rw [N.out]; rfl, rfl⟩
  rw [hc] at N HC
  have H1 := Lib.hid HC
  clear HC hc
  rcases wide_ways z with ⟨_, hw, g | g | g⟩ | ⟨h, ⟨hw, g | g⟩ | ⟨hw, g⟩⟩
  any_goals
    (rw [hw] at N
     clear HK HL hw
     go_enter Tryd.func106, Tryd.ntmps106
     go_wp2_with (go_at_call 130; refine (H1.out _).mono ?_; rintro e w' ⟨rfl, rfl⟩)
     go_ret
     exact ⟨by rw [N.out]; rfl, rfl⟩)
  rw [hw] at N
  clear hw
  cases hk : inQ k 1 16
  · rw [hk] at N HK
    have H2 := Lib.hid HK
    clear HK HL hk
    rcases g with g | g
    all_goals
      go_enter Tryd.func106, Tryd.ntmps106
      go_wp2_with (first | (go_at_call 130; refine (H1.out _).mono ?_; rintro e w' ⟨rfl, rfl⟩) | (go_at_call 119; refine (H2.out _).mono ?_; rintro e w' ⟨rfl, rfl⟩))
      go_ret
      exact ⟨by rw [N.out]; rfl, rfl⟩
  · cases hl : inQ l 1 16
    all_goals
      rw [hk, hl] at N
      rw [hk] at HK
      rw [hl] at HL
      have H2 := Lib.hid HK
      have H3 := Lib.hid HL
      clear HK HL hk hl
      rcases g with g | g
      all_goals
        go_enter Tryd.func106, Tryd.ntmps106
        go_wp2_with fail
        refine (H1.out _).mono ?_
        rintro e w' ⟨rfl, rfl⟩
        go_wp2_with fail
        refine (H2.out _).mono ?_
        rintro e w' ⟨rfl, rfl⟩
        go_wp2_with fail
        refine (H3.out _).mono ?_
        rintro e w' ⟨rfl, rfl⟩
        go_wp2_with fail
        go_ret
        exact ⟨by rw [N.out]; rfl, rfl⟩

set_option maxHeartbeats 4000000 in
theorem implView (p q z : Nat) (k l : Int) (w : World) :
    Calls Tryd.prog 61 #[.agg #[.complex .f32 p q, .float .f32 z, .int .i64 k, .int .i64 l]] w fun e w' => e = .returned (.bool (viewB p q z k l)) ∧ Below w.heap.size w w' := by
  have N : Hid (viewB p q z k l = (smC p q && (wideB z && (inQ k 1 16 && inQ l 1 16)))) := rfl
  have HC := fun W => small_impl p q W
  have HK := fun W => within_impl k 1 16 W
  have HL := fun W => within_impl l 1 16 W
  cases hc : smC p q
  · rw [hc] at N HC
    have H1 := Lib.hid HC
    clear HC HK HL hc
    go_enter Tryd.func61, Tryd.ntmps61
    go_wp2_with (go_at_call 104; refine (H1.out _).mono ?_; rintro e w' ⟨rfl, rfl⟩)
    go_ret
    exact ⟨by rw [N.out]; rfl, (Below.refl _ _).alloc (Nat.le_refl _) _⟩
  rw [hc] at N HC
  have H1 := Lib.hid HC
  clear HC hc
  rcases wide_ways z with ⟨_, hw, g | g | g⟩ | ⟨h, ⟨hw, g | g⟩ | ⟨hw, g⟩⟩
  any_goals
    (rw [hw] at N
     clear HK HL hw
     go_enter Tryd.func61, Tryd.ntmps61
     go_wp2_with (go_at_call 104; refine (H1.out _).mono ?_; rintro e w' ⟨rfl, rfl⟩)
     go_ret
     exact ⟨by rw [N.out]; rfl, (Below.refl _ _).alloc (Nat.le_refl _) _⟩)
  rw [hw] at N
  clear hw
  cases hk : inQ k 1 16
  · rw [hk] at N HK
    have H2 := Lib.hid HK
    clear HK HL hk
    rcases g with g | g
    all_goals
      go_enter Tryd.func61, Tryd.ntmps61
      go_wp2_with (first | (go_at_call 104; refine (H1.out _).mono ?_; rintro e w' ⟨rfl, rfl⟩) | (go_at_call 103; refine (H2.out _).mono ?_; rintro e w' ⟨rfl, rfl⟩))
      go_ret
      exact ⟨by rw [N.out]; rfl, (Below.refl _ _).alloc (Nat.le_refl _) _⟩
  · cases hl : inQ l 1 16
    all_goals
      rw [hk, hl] at N
      rw [hk] at HK
      rw [hl] at HL
      have H2 := Lib.hid HK
      have H3 := Lib.hid HL
      clear HK HL hk hl
      rcases g with g | g
      all_goals
        go_enter Tryd.func61, Tryd.ntmps61
        go_wp2_with fail
        refine (H1.out _).mono ?_
        rintro e w' ⟨rfl, rfl⟩
        go_wp2_with fail
        refine (H2.out _).mono ?_
        rintro e w' ⟨rfl, rfl⟩
        go_wp2_with fail
        refine (H3.out _).mono ?_
        rintro e w' ⟨rfl, rfl⟩
        go_wp2_with fail
        go_ret
        exact ⟨by rw [N.out]; rfl, (Below.refl _ _).alloc (Nat.le_refl _) _⟩

end Go.Proofs.YtegbclfjcckglaaDoor
