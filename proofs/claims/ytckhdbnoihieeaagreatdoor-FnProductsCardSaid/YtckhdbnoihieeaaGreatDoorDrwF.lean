/-
  What is proved here: the law's drawn 32-bit numbers, and lists of them, as walks: some words, whichever. Conditions: the bytes are ones that a machine can hold.
-/
import Derived.Test.YtckhdbnoihieeaaGreatDoorDrw
import Derived.Test.YtckhdbnoihieeaaGreatDoorNrl
namespace Go.Proofs.YtckhdbnoihieeaaGreatDoor
open Flt Go.RowKit

theorem lit_cells (w : World) (t : TypeId) (l : List Int) (i : Nat) (hi : i < l.length) : (w.alloc (.cells (l.map (Value.int .i64)).toArray t)).cell? ⟨w.heap.size, i, none⟩ = some (.int .i64 (l.getD i 0)) := by
  have h : ((l.map (Value.int .i64)).toArray)[i]? = some (.int .i64 (l.getD i 0)) := by
    rw [List.getElem?_toArray, List.getElem?_map, List.getElem?_eq_getElem hi]
    simp [List.getD, hi]
  simp [World.cell?, World.alloc, -World.alloc_eq, h]

theorem wrap32_bd (z : Int) : 0 ≤ IntKind.u32.wrap z ∧ IntKind.u32.wrap z < 4294967296 := by
  have : IntKind.u32.wrap z = z % 4294967296 := by simp [IntKind.wrap, IntKind.signed, IntKind.bits]
  rw [this]
  exact ⟨Int.emod_nonneg _ (by decide), Int.emod_lt_of_pos _ (by decide)⟩

/-- some 32-bit number, whichever -/
def SomeF (w : World) (e : Ending) (w' : World) : Prop := ∃ x : Nat, e = .returned (.float .f32 x) ∧ WF .f32 x ∧ w = w'
theorem fromAny (z : Int) (w : World) : Calls Tryz.prog 41 #[.int .i64 z] w (SomeF w) := by
  have hb := f32frombits
  obtain ⟨b0, b1⟩ := wrap32_bd z
  have B := Lib.hid (And.intro b0 b1)
  clear b0 b1
  go_enter Tryz.func41, Tryz.ntmps41
  go_wp2
  go_ret
  exact ⟨(IntKind.u32.wrap z).toNat, rfl, ⟨by show _ < 2 ^ 32; have := B.out; omega⟩, rfl⟩

def DrewF (N : Nat) (p : Nat) (A : Option Addr) (c : Nat) (zs : List Int) (w : World) (e : Ending) (w' : World) : Prop :=
  ∃ x : Nat, e = .returned (.float .f32 x) ∧ WF .f32 x ∧ Hid (Rdy w' p A c zs N) ∧ Hid (Chg p w w')

theorem plain_any (w : World) (p : Nat) (A : Option Addr) (c : Nat) (zs : List Int) (N : Nat) (h : Rdy w p A c zs N) (hN : N ≤ 2000000000000) :
    Calls Tryz.prog 61 #[.pointer (some ⟨p, 0, none⟩)] w (DrewF (N + 4) p A c zs w) := by
  have H := Lib.hid h
  clear h
  go_enter Tryz.func61, Tryz.ntmps61
  go_wp2_with fail
  refine (pick_any 129 (by omega) (by omega) _ p A c zs N H.out (by omega)).mono ?_
  rintro e w1 ⟨i, hi, rfl, R1, C1⟩
  have hi' : (i : Int) ≤ 128 := by omega
  go_wp2_with fail
  refine (one_any 4 (by omega) (by omega) _ p A c zs (N + 2) R1.out (by omega)).mono ?_
  rintro e w2 ⟨b, rfl, R2, C2⟩
  cases b
  all_goals
    go_wp2_with ((with_reducible refine upon_bin rfl ?_); intro _ _ _ _)
    rename_i r n hr _
    go_ret
    exact ⟨r, rfl, hr, R2.out.drewN, (C1.out.trans C2.out).drewN⟩

set_option maxHeartbeats 4000000 in
theorem float_any (w : World) (p : Nat) (A : Option Addr) (c : Nat) (zs : List Int) (N : Nat) (h : Rdy w p A c zs N) (hN : N ≤ 1000000000000) :
    Calls Tryz.prog 42 #[.pointer (some ⟨p, 0, none⟩)] w (DrewF (N + 20) p A c zs w) := by
  have H := Lib.hid h
  clear h
  go_enter Tryz.func42, Tryz.ntmps42
  go_wp2_with fail
  refine (one_any 12 (by omega) (by omega) _ p A c zs N H.out (by omega)).mono ?_
  rintro e w1 ⟨b, rfl, R1, C1⟩
  cases b
  · go_wp2_with fail
    refine (plain_any _ p A c zs (N + 2) R1.out (by omega)).mono ?_
    rintro e w2 ⟨x, rfl, hx, R2, C2⟩
    go_wp2_with fail
    go_ret
    exact ⟨x, rfl, hx, R2.out.mono (by omega), C1.out.trans C2.out⟩
  · go_wp2_with fail
    refine (pick_any 4 (by omega) (by omega) _ p A c zs (N + 2) R1.out (by omega)).mono ?_
    rintro e w2 ⟨i, hi, rfl, R2, C2⟩
    rcases (show i = 0 ∨ i = 1 ∨ i = 2 ∨ i = 3 by omega) with rfl | rfl | rfl | rfl
    · go_wp2_with fail
      refine (among_any 10 _ 10 (fun i => ([0, 2147483648, 2139095040, 4286578688, 2143289344, 1, 2139095039, 8388608, 8388607, 2147483649] : List Int).getD i 0) _ p A c zs (N + 4) (R2.out.below ((Below.refl _ _).alloc (Nat.le_refl _) _)) (by omega) (by omega) (by omega) (by simp) (by have := R2.out.lt; omega) (fun i hi => lit_cells _ _ [0, 2147483648, 2139095040, 4286578688, 2143289344, 1, 2139095039, 8388608, 8388607, 2147483649] i hi)).mono ?_
      rintro e w3 ⟨z, rfl, R3, C3⟩
      go_wp2_with fail
      refine (fromAny z _).mono ?_
      rintro e w' ⟨x, rfl, hx, rfl⟩
      go_wp2_with fail
      go_ret
      exact ⟨x, rfl, hx, R3.out.mono (by omega), (C1.out.trans C2.out).trans ((Chg.ofBelow ((Below.refl _ _).alloc (Nat.le_refl _) _)).trans C3.out)⟩
    · go_wp2_with fail
      refine (pick_any 65536 (by omega) (by omega) _ p A c zs (N + 4) R2.out (by omega)).mono ?_
      rintro e w3 ⟨i3, hi3, rfl, R3, C3⟩
      have hb3 : (i3 : Int) ≤ 65535 := by omega
      go_wp2_with fail
      refine (pick_any 65536 (by omega) (by omega) _ p A c zs (N + 6) R3.out (by omega)).mono ?_
      rintro e w4 ⟨i4, hi4, rfl, R4, C4⟩
      have hb4 : (i4 : Int) ≤ 65535 := by omega
      go_wp2_with fail
      refine (fromAny _ _).mono ?_
      rintro e w' ⟨x, rfl, hx, rfl⟩
      go_wp2_with fail
      go_ret
      exact ⟨x, rfl, hx, R4.out.mono (by omega), (C1.out.trans C2.out).trans (C3.out.trans C4.out)⟩
    · go_wp2_with fail
      refine (pick_any 65536 (by omega) (by omega) _ p A c zs (N + 4) R2.out (by omega)).mono ?_
      rintro e w3 ⟨i3, hi3, rfl, R3, C3⟩
      have hb3 : (i3 : Int) ≤ 65535 := by omega
      go_wp2_with fail
      refine (fromAny _ _).mono ?_
      rintro e w' ⟨x, rfl, hx, rfl⟩
      go_wp2_with fail
      go_ret
      exact ⟨x, rfl, hx, R3.out.mono (by omega), (C1.out.trans C2.out).trans C3.out⟩
    · go_wp2_with fail
      refine (plain_any _ p A c zs (N + 4) R2.out (by omega)).mono ?_
      rintro e w3 ⟨y, rfl, hy, R3, C3⟩
      go_wp2_with fail
      refine (among_any 4 _ 4 (fun i => ([8388608, 2130706432, 1610612736, 536870912] : List Int).getD i 0) _ p A c zs (N + 8) (R3.out.below ((Below.refl _ _).alloc (Nat.le_refl _) _)) (by omega) (by omega) (by omega) (by simp) (by have := R3.out.lt; omega) (fun i hi => lit_cells _ _ [8388608, 2130706432, 1610612736, 536870912] i hi)).mono ?_
      rintro e w4 ⟨z, rfl, R4, C4⟩
      go_wp2_with fail
      refine (fromAny z _).mono ?_
      rintro e w' ⟨x, rfl, hx, rfl⟩
      go_wp2_with ((with_reducible refine upon_bin rfl ?_); intro _ _ _ _)
      rename_i r n hr _
      go_ret
      exact ⟨r, rfl, hr, (R4.out.mono (by omega)).drewN, ((C1.out.trans C2.out).trans (C3.out.trans ((Chg.ofBelow ((Below.refl _ _).alloc (Nat.le_refl _) _)).trans C4.out))).drewN⟩

/-- some 32-bit number, whichever; nothing that was there has changed -/
def NewF (w : World) (e : Ending) (w' : World) : Prop := ∃ x : Nat, e = .returned (.float .f32 x) ∧ WF .f32 x ∧ Hid (Below w.heap.size w w')
theorem number_any (A : Option Addr) (c : Nat) (zs : List Int) (w : World) (hr : RowB w w.heap.size A zs) (ha : AllB zs) (hl : zs.length ≤ 1048576) :
    Calls Tryz.prog 18 #[.slice A zs.length c] w (NewF w) := by
  have HF := Lib.hid (from_any A c zs w hr ha hl)
  clear hr ha
  go_enter Tryz.func18, Tryz.ntmps18
  go_wp2_with fail
  refine HF.out.mono ?_
  rintro e w1 ⟨p, rfl, hp, R1, B1⟩
  go_wp2_with fail
  refine (one_any 2 (by omega) (by omega) _ p A c zs 0 R1.out (by omega)).mono ?_
  rintro e w2 ⟨b, rfl, R2, C2⟩
  cases b
  · go_wp2_with fail
    refine (float_any _ p A c zs 2 R2.out (by omega)).mono ?_
    rintro e w3 ⟨x, rfl, hx, R3, C3⟩
    go_wp2_with fail
    go_ret
    exact ⟨x, rfl, hx, B1.out.trans ((C2.out.trans C3.out).below B1.out.size hp.out)⟩
  · go_wp2_with fail
    refine (pick_any 65536 (by omega) (by omega) _ p A c zs 2 R2.out (by omega)).mono ?_
    rintro e w3 ⟨i3, hi3, rfl, R3, C3⟩
    have hb3 : (i3 : Int) ≤ 65535 := by omega
    go_wp2_with fail
    refine (pick_any 65536 (by omega) (by omega) _ p A c zs 4 R3.out (by omega)).mono ?_
    rintro e w4 ⟨i4, hi4, rfl, R4, C4⟩
    have hb4 : (i4 : Int) ≤ 65535 := by omega
    go_wp2_with fail
    refine (fromAny _ _).mono ?_
    rintro e w' ⟨x, rfl, hx, rfl⟩
    go_wp2_with fail
    go_ret
    exact ⟨x, rfl, hx, B1.out.trans ((C2.out.trans (C3.out.trans C4.out)).below B1.out.size hp.out)⟩

end Go.Proofs.YtckhdbnoihieeaaGreatDoor
