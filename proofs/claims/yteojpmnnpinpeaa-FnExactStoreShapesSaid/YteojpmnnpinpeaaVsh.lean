/-
  What is proved here: whether shapes are valid, of both packages, as walks. Conditions: at most 1048576 bytes and cells.
-/
import Derived.Test.YteojpmnnpinpeaaShk
import Derived.Test.YteojpmnnpinpeaaShn
import Derived.Test.YteojpmnnpinpeaaFva
namespace Go.Proofs.Yteojpmnnpinpeaa
open Go.RowKit
set_option linter.unusedVariables false

set_option maxRecDepth 100000 in
theorem specIs1 (v : Nat) (x y : Int) (A : Option Addr) (n c : Nat) (w : World) (c0 : w.cell? ⟨v, 1, none⟩ = some (.int .i64 x)) (c1 : w.cell? ⟨v, 2, none⟩ = some (.int .i64 y)) (c2 : w.cell? ⟨v, 3, none⟩ = some (.slice A n c)) (hn : n ≤ 1048576) :
    Calls Try.prog 76 #[.pointer (some ⟨v, 1, none⟩)] w fun e w' => e = .returned (.bool (fvB x y n)) ∧ ∃ k, w' = w.drewN k := by
  have HS := Lib.hid (fun W => specSides x y W)
  cases h1 : sidB x y
  · have N := Lib.hid (fvB_1 (n := n) h1)
    rw [h1] at HS
    clear h1
    go_enter Try.func76, Try.ntmps76
    go_wp2_with fail
    go_quiet ((go_at_call 171; refine (HS.out _).mono ?_; rintro e w' ⟨rfl, rfl⟩; exact ⟨rfl, _, rfl⟩))
    go_wp2_with fail
    go_ret
    exact ⟨by rw [N.out]; rfl, _, rfl⟩
  · have N := Lib.hid (fvB_2 (n := n) h1)
    have hw := sid_in h1
    rw [h1] at HS
    clear h1
    go_enter Try.func76, Try.ntmps76
    go_wp2_with fail
    go_quiet ((go_at_call 171; refine (HS.out _).mono ?_; rintro e w' ⟨rfl, rfl⟩; exact ⟨rfl, _, rfl⟩))
    go_wp2_with fail
    go_ret
    exact ⟨by rw [N.out]; rfl, _, rfl⟩

/-- a shape is valid -/
def vsB (s : ByteArray) (x y : Int) (n : Nat) : Bool := nameB s && fvB x y n

set_option maxRecDepth 100000 in
theorem specSh (v : Nat) (s : ByteArray) (x y : Int) (A : Option Addr) (n c : Nat) (w : World) (V : VarS w v s x y A n c) (hs : s.size ≤ 1048576) (hn : n ≤ 1048576) :
    Calls Try.prog 109 #[.pointer (some ⟨v, 0, none⟩)] w fun e w' => e = .returned (.bool (vsB s x y n)) ∧ ∃ k, w' = w.drewN k := by
  obtain ⟨hx, c0, c1, c2, c3⟩ := V
  have HN := Lib.hid (specName s hs)
  have HI := Lib.hid (specIs1 v x y A n c w c1 c2 c3 hn)
  cases h1 : nameB s
  · have N : Hid (vsB s x y n = false) := by show _ = _; unfold vsB; rw [h1]; rfl
    rw [h1] at HN
    clear h1
    go_enter Try.func109, Try.ntmps109
    go_wp2_with (go_at_call 182; refine (HN.out _).mono ?_; rintro e w' ⟨rfl, rfl⟩)
    go_ret
    exact ⟨by rw [N.out]; rfl, 0, rfl⟩
  · have N : Hid (vsB s x y n = fvB x y n) := by show _ = _; unfold vsB; rw [h1]; rfl
    rw [h1] at HN
    clear h1
    go_enter Try.func109, Try.ntmps109
    go_wp2_with (first | (go_at_call 182; refine (HN.out _).mono ?_; rintro e w' ⟨rfl, rfl⟩) | (go_at_call 76; refine HI.out.mono ?_; rintro e w' ⟨rfl, k, rfl⟩))
    go_ret
    exact ⟨by rw [N.out]; rfl, _, rfl⟩


set_option maxRecDepth 100000 in
theorem implVs (s : ByteArray) (x y : Int) (A : Option Addr) (n c : Nat) (w : World) (hs : s.size ≤ 1048576) (hn : n ≤ 1048576) :
    Calls Try.prog 185 #[.agg #[.string s, .int .i64 x, .int .i64 y, .slice A n c]] w fun e w' => e = .returned (.bool (vsB s x y n)) ∧ Hid (Below w.heap.size w w') := by
  have B0 := below_varS w s x y A n c 103
  have V0 := varS_new w s x y A n c 103
  have HB := Lib.hid B0
  have HV := Lib.hid V0
  have HN := Lib.hid (fun W => implName s hs W)
  have HI := Lib.hid (fun W => implValid x y A n c W hn)
  clear B0 V0
  cases h1 : nameB s
  · have N : Hid (vsB s x y n = false) := by show _ = _; unfold vsB; rw [h1]; rfl
    rw [h1] at HN
    clear h1
    go_enter Try.func185, Try.ntmps185
    go_wp2_with fail
    generalize w.alloc (.cells #[.string s, .int .i64 x, .int .i64 y, .slice A n c] 103) = b at *
    refine (HN.out b).mono ?_
    rintro e w1 ⟨rfl, hb⟩
    have HB1 := Lib.hid (HB.out.trans (hb.mono HB.out.size))
    clear hb HN HV
    go_wp2_with fail
    go_ret
    exact ⟨by rw [N.out]; rfl, HB1⟩
  · have N : Hid (vsB s x y n = fvB x y n) := by show _ = _; unfold vsB; rw [h1]; rfl
    rw [h1] at HN
    clear h1
    go_enter Try.func185, Try.ntmps185
    go_wp2_with fail
    generalize w.alloc (.cells #[.string s, .int .i64 x, .int .i64 y, .slice A n c] 103) = b at *
    refine (HN.out b).mono ?_
    rintro e w1 ⟨rfl, hb⟩
    have HB1 := Lib.hid (HB.out.trans (hb.mono HB.out.size))
    have V1 := HV.out.below hb
    have c0 := V1.c0
    have c1 := V1.c1
    have c2 := V1.c2
    have c3 := V1.c3
    clear hb HN HV V1
    go_wp2_with fail
    refine (HI.out w1).mono ?_
    rintro e w2 ⟨rfl, hb⟩
    have HB2 := Lib.hid (HB1.out.trans (hb.out.mono HB1.out.size))
    clear hb HI c0 c1 c2 c3
    go_wp2_with fail
    go_ret
    exact ⟨by rw [N.out]; rfl, HB2⟩


end Go.Proofs.Yteojpmnnpinpeaa
