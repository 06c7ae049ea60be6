/-
  What is proved here: the law SumNumbers as a walk, whatever is drawn. Conditions: the list is one that a machine can hold.
-/
import Derived.Test.YthhimielelpcoaaRow
namespace Go.Proofs.Ythhimielelpcoaa
open Flt Go.RowKit

/-- the sum from left to right -/
def sumF (l : List Nat) : Option Nat := l.foldl (fun a z => fop .add .f32 a (can .f32 z)) (can .f32 0)

theorem sum_step (zs : List Nat) (k : Nat) (h : k < zs.length) : sumF (zs.take (k + 1)) = fop .add .f32 (sumF (zs.take k)) (can .f32 (at0 zs k)) := by
  unfold sumF at0
  rw [List.take_succ_eq_append_getElem h, List.foldl_append]
  simp [List.getD, h]



/-- what a function of lists gives: a word, and whether it has one -/
def SPost (c : Option Nat) (b : Bool) (w : World) (e : Ending) (w' : World) : Prop := ∃ g n, e = .returned (.tuple #[.float .f32 g, .bool b]) ∧ w' = w.drewN n ∧ Hid (can .f32 g = c)


theorem implSumN (A : Option Addr) (c : Nat) (zs : List Nat) (w : World) (Z : Nat) (hr : RowF w Z A zs) (hn : zs.length ≤ 1048576) :
    Calls Try.prog 157 #[.slice A zs.length c] w (SPost (if zs.length ≤ 256 then sumF zs else some 0) (decide (zs.length ≤ 256)) w) := by
  have HR := Lib.hid hr
  clear hr
  by_cases h : zs.length ≤ 256
  · have hd : decide (zs.length ≤ 256) = true := by simp [h]
    have HD := Lib.hid h
    have h9 : decide ((256 : Int) < (zs.length : Int)) = false := decide_eq_false (by omega)
    go_enter Try.func157, Try.ntmps157
    go_wp2
    clear h9 h hd
    go_loopw [4, 6, 12] (fun s _ i wr => ∃ k : Nat, k ≤ zs.length ∧ i = .int .i64 k ∧ ∃ n sw, wr = w.drewN n ∧ s = .float .f32 sw ∧ WF .f32 sw ∧ Hid (can .f32 sw = sumF (zs.take k))) (fun _ _ i _ => zs.length - (intOf i).toNat)
    case atStart => exact ⟨0, Nat.zero_le _, rfl, 0, _, rfl, rfl, ⟨by decide⟩, by show can .f32 0 = _; simp [sumF]⟩
    case round =>
      obtain ⟨k, hk, rfl, n, sw, rfl, rfl, hw, hs⟩ := hrel
      by_cases hlt : k < zs.length
      · obtain ⟨b, off, rfl, hb, hcell⟩ := HR.out (by omega)
        have hc := hcell k hlt
        have S := Lib.hid (sum_step zs k hlt)
        clear hcell
        go_wp2_with ((with_reducible refine upon_bin rfl ?_); intro _ _ _ _)
        rename_i r n2 wr er
        go_roundw
        case rel => exact ⟨k + 1, by omega, by go_num, _, _, rfl, rfl, wr, by show can .f32 r = _; rw [er.out, hs.out, S.out]⟩
        case measure => simp [intOf]; omega
      · have e : Hid (zs.take k = zs) := List.take_of_length_le (by omega)
        go_wp2
        go_ret2
        refine ⟨sw, _, by first | rfl | (rw [decide_eq_true HD.out]; rfl), rfl, ?_⟩
        have hh : can .f32 sw = sumF zs := by rw [hs.out, e.out]
        first | exact hh | (rw [if_pos HD.out]; exact hh)
  · have HD := Lib.hid h
    have h' : 256 < zs.length := by omega
    clear h
    go_enter Try.func157, Try.ntmps157
    go_wp2
    go_ret2
    refine ⟨0, 0, by first | rfl | (rw [decide_eq_false HD.out]; rfl), rfl, ?_⟩
    first | (show can .f32 0 = some 0; decide) | (rw [if_neg HD.out]; show can .f32 0 = some 0; decide)

end Go.Proofs.Ythhimielelpcoaa
