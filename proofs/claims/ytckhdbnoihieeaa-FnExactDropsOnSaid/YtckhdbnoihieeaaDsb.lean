/-
  What is proved here: DropsOn, of both packages: one answer. Conditions: at most 1048576 heights.
-/
import Derived.Test.YtckhdbnoihieeaaDsq
import Derived.Test.YtckhdbnoihieeaaDss
namespace Go.Proofs.Ytckhdbnoihieeaa
open Flt Go.RowKit

theorem dsoBoth (x y cnt steps sd : Int) (zs : List Nat) (tk lv : Nat) (hn : zs.length ≤ 1048576) : ∃ p q ys s b, ys.length ≤ 1048576 ∧ (∀ W A c, RowF W W.heap.size A zs → Calls Try.prog 23 #[.agg #[.int .i64 x, .int .i64 y, .slice A zs.length c], .int .i64 cnt, .int .i64 steps, .float .f32 tk, .float .f32 lv, .int .i64 sd] W (TPostN p q ys s b W)) ∧ (∀ W A c, RowF W W.heap.size A zs → Calls Try.prog 24 #[.agg #[.int .i64 x, .int .i64 y, .slice A zs.length c], .int .i64 cnt, .int .i64 steps, .float .f32 tk, .float .f32 lv, .int .i64 sd] W (TPostN p q ys s b W)) := by
  refine ⟨_, _, _, _, _, ?_, fun W A c hr => specDso x y cnt steps sd A c zs tk lv W hr hn, fun W A c hr => implDso x y cnt steps sd A c zs tk lv W hr hn⟩
  unfold gY
  split
  · rename_i h
    unfold dsR
    unfold dsB at h
    rw [Bool.and_eq_true] at h
    obtain ⟨h1, h2⟩ := h
    have hs : shB x y zs = true := by
      unfold dsA0 at h1
      rw [Bool.and_eq_true] at h1
      exact h1.1
    cases hd : dsI x y zs steps.toNat tk lv sd cnt.toNat with
    | none => exact Nat.zero_le _
    | some ws =>
      have := (dsI_sh hs _ _ hd).2
      show ws.length ≤ _
      omega
  · exact Nat.zero_le _

end Go.Proofs.Ytckhdbnoihieeaa
