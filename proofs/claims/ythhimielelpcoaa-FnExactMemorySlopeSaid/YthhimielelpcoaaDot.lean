/-
  What is proved here: the two functions DotNumbers as walks, whatever is drawn. Conditions: the lists are ones that the law lets through.
-/
import Derived.Test.YthhimielelpcoaaSum
namespace Go.Proofs.Ythhimielelpcoaa
open Flt Go.RowKit

/-- the sum of the first k products -/
def dotF (xs ys : List Nat) : Nat → Option Nat
  | 0 => can .f32 0
  | k + 1 => fop .add .f32 (dotF xs ys k) (fop .mul .f32 (can .f32 (at0 xs k)) (can .f32 (at0 ys k)))

theorem dot_step (xs ys : List Nat) (k : Nat) : dotF xs ys (k + 1) = fop .add .f32 (dotF xs ys k) (fop .mul .f32 (can .f32 (at0 xs k)) (can .f32 (at0 ys k))) := rfl

/-- the two lists go together -/
def Fit (xs ys : List Nat) : Prop := xs.length ≤ 256 ∧ xs.length = ys.length
instance (xs ys : List Nat) : Decidable (Fit xs ys) := by unfold Fit; infer_instance



set_option maxHeartbeats 8000000 in
theorem implDotN (A B : Option Addr) (c d : Nat) (xs ys : List Nat) (w : World) (Z : Nat) (hr : RowF w Z A xs) (hq : RowF w Z B ys) (hn : xs.length ≤ 1048576) :
    Calls Try.prog 182 #[.slice A xs.length c, .slice B ys.length d] w (SPost (if Fit xs ys then dotF xs ys xs.length else some 0) (decide (Fit xs ys)) w) := by
  have HR := Lib.hid hr
  have HQ := Lib.hid hq
  clear hr hq
  by_cases h : xs.length ≤ 256
  · have h9 : decide ((256 : Int) < (xs.length : Int)) = false := decide_eq_false (by omega)
    by_cases hl : xs.length = ys.length
    · have HL := Lib.hid hl
      have HF : Hid (Fit xs ys) := ⟨h, hl⟩
      rw [← hl]
      go_enter Try.func182, Try.ntmps182
      clear hl
      go_wp2
      clear h9 h
      go_loopw [6, 7, 20] (fun s _ i wr => ∃ k : Nat, k ≤ xs.length ∧ i = .int .i64 k ∧ ∃ n sw, wr = w.drewN n ∧ s = .float .f32 sw ∧ WF .f32 sw ∧ Hid (can .f32 sw = dotF xs ys k)) (fun _ _ i _ => xs.length - (intOf i).toNat)
      case atStart => exact ⟨0, Nat.zero_le _, rfl, 0, _, rfl, rfl, ⟨by decide⟩, by show can .f32 0 = _; rfl⟩
      case round =>
        obtain ⟨k, hk, rfl, n, sw, rfl, rfl, hw, hs⟩ := hrel
        by_cases hlt : k < xs.length
        · obtain ⟨b, off, rfl, hb, hcell⟩ := HR.out (by omega)
          obtain ⟨b2, off2, rfl, hb2, hcell2⟩ := HQ.out (by have := HL.out; omega)
          have hc := hcell k hlt
          have hd := hcell2 k (by have := HL.out; omega)
          have S := Lib.hid (dot_step xs ys k)
          clear hcell hcell2
          go_wp2_with fail
          go_region_with ((with_reducible refine upon_bin rfl ?_); intro _ _ _ _)
          all_goals
            rename_i r1 n1 wr1 er1 r n2 wr er
            go_wp2
            go_roundw
            case rel => exact ⟨k + 1, by omega, by go_num, _, _, rfl, rfl, wr, by show can .f32 r = _; rw [er.out, er1.out, hs.out, S.out]⟩
            case measure => simp [intOf]; omega
        · have e : Hid (k = xs.length) := by show k = xs.length; omega
          go_wp2
          go_ret2
          refine ⟨sw, _, by first | rfl | (rw [decide_eq_true HF.out]; rfl), rfl, ?_⟩
          have hh : can .f32 sw = dotF xs ys xs.length := by rw [hs.out, e.out]
          first | exact hh | (rw [if_pos HF.out]; exact hh)
    · have HF : Hid (¬ Fit xs ys) := fun h => hl h.2
      have hl' : ¬ (xs.length : Int) = ys.length := by omega
      go_enter Try.func182, Try.ntmps182
      go_wp2
      go_ret2
      refine ⟨0, 0, by first | rfl | (rw [decide_eq_false HF.out]; rfl), rfl, ?_⟩
      first | (show can .f32 0 = some 0; decide) | (rw [if_neg HF.out]; show can .f32 0 = some 0; decide)
  · have h' : 256 < xs.length := by omega
    have HF : Hid (¬ Fit xs ys) := fun hh => h hh.1
    clear h
    go_enter Try.func182, Try.ntmps182
    go_wp2
    go_ret2
    refine ⟨0, 0, by first | rfl | (rw [decide_eq_false HF.out]; rfl), rfl, ?_⟩
    first | (show can .f32 0 = some 0; decide) | (rw [if_neg HF.out]; show can .f32 0 = some 0; decide)

end Go.Proofs.Ythhimielelpcoaa
