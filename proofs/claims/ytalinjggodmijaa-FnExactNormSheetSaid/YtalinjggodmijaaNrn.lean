/-
  What is proved here: NormSheet of the model where it gives nothing, as walks. Conditions: at most 1048576 heights.
-/
import Derived.Test.YtalinjggodmijaaNrm
namespace Go.Proofs.Ytalinjggodmijaa
open Flt Go.RowKit

set_option maxHeartbeats 1000000 in
theorem specNormNo (x y : Int) (A : Option Addr) (c : Nat) (zs : List Nat) (w : World) (hr : RowF w w.heap.size A zs) (hn : zs.length ≤ 1048576) (hs : shB x y zs = false) :
    Calls Try.prog 37 #[.agg #[.int .i64 x, .int .i64 y, .slice A zs.length c]] w (TPost 0 0 [] false w) := by
  have T0 := Lib.hid (two_new w x y A zs.length c 27 27)
  have B0 : Hid (Below w.heap.size w ((w.alloc (.cells #[.int .i64 x, .int .i64 y, .slice A zs.length c] 27)).alloc (.cells #[.int .i64 0, .int .i64 0, .slice none 0 0] 27))) := ((Below.refl _ _).alloc (Nat.le_refl _) _).alloc (by simp) _
  have HC := Lib.hid (specIs w.heap.size x y A c zs _ T0.out.var (hr.carry B0.out) hn)
  have HS := Lib.hid hs
  clear hr hs T0
  go_enter Try.func37, Try.ntmps37
  go_wp2_with fail
  refine HC.out.mono ?_
  rintro e w' ⟨rfl, n1, rfl⟩
  rw [HS.out]
  clear HC
  go_wp2_with fail
  exact bodyPost_ret (v := .tuple #[.agg #[.int .i64 0, .int .i64 0, .slice none 0 0], .bool false]) (by simp [results, Try.results37, go_sem]) rfl ⟨none, 0, rfl, RowIn.empty (Nat.le_refl _), (belowN B0.out).trans (store3 (Nat.le_succ _) _ _ _)⟩

set_option maxHeartbeats 1000000 in
theorem specNormLow (x y : Int) (A : Option Addr) (c : Nat) (zs : List Nat) (w : World) (hr : RowF w w.heap.size A zs) (hn : zs.length ≤ 1048576) (hs : shB x y zs = true) (d : Nat) (hd : floatBits .sub .f32 (hiW zs zs.length) (loW zs zs.length) = some d) (hg : (FloatKind.f32.format.order d 0 == some .gt) = false) :
    Calls Try.prog 37 #[.agg #[.int .i64 x, .int .i64 y, .slice A zs.length c]] w (TPost 0 0 [] false w) := by
  have h0 := shB_pos hs
  have T0 := Lib.hid (two_new w x y A zs.length c 27 27)
  have B0 : Hid (Below w.heap.size w ((w.alloc (.cells #[.int .i64 x, .int .i64 y, .slice A zs.length c] 27)).alloc (.cells #[.int .i64 0, .int .i64 0, .slice none 0 0] 27))) := ((Below.refl _ _).alloc (Nat.le_refl _) _).alloc (by simp) _
  have R0 := Lib.hid (hr.carry B0.out)
  have HC := Lib.hid (specIs w.heap.size x y A c zs _ T0.out.var R0.out hn)
  have HS := Lib.hid hs
  have hrun := run_f32 hd
  clear hr hs hd
  go_enter Try.func37, Try.ntmps37
  go_wp2_with fail
  refine HC.out.mono ?_
  rintro e w' ⟨rfl, n1, rfl⟩
  rw [HS.out]
  have HR5 := Lib.hid (specRange5 w.heap.size x y A c zs _ (T0.out.below (belowN (n := n1) (Below.refl _ _))).var (R0.out.carry (belowN (n := n1) (Below.refl _ _))) hn h0)
  clear HC T0 R0
  go_wp2_with fail
  refine HR5.out.mono ?_
  rintro e w' ⟨rfl, rfl⟩
  clear HR5
  go_wp2_with fail
  exact bodyPost_ret (v := .tuple #[.agg #[.int .i64 0, .int .i64 0, .slice none 0 0], .bool false]) (by simp [results, Try.results37, go_sem]) rfl ⟨none, 0, rfl, RowIn.empty (Nat.le_refl _), (belowN B0.out).trans (store3 (Nat.le_succ _) _ _ _)⟩

end Go.Proofs.Ytalinjggodmijaa
