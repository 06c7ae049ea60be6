/-
  What is proved here: NormSheet, of both packages: one answer. Conditions: at most 1048576 heights.
-/
import Derived.Test.YtalinjggodmijaaNrn
import Derived.Test.YtalinjggodmijaaNri
import Derived.Test.YtalinjggodmijaaOct
namespace Go.Proofs.Ytalinjggodmijaa
open Flt Go.RowKit

set_option maxHeartbeats 1000000 in
theorem implNormNo (x y : Int) (A : Option Addr) (c : Nat) (zs : List Nat) (w : World) (hr : RowF w w.heap.size A zs) (hn : zs.length ≤ 1048576) (hs : shB x y zs = false) :
    Calls Try.prog 38 #[.agg #[.int .i64 x, .int .i64 y, .slice A zs.length c]] w (TPost 0 0 [] false w) := by
  have T0 := Lib.hid (two_new w x y A zs.length c 27 27)
  have B0 : Hid (Below w.heap.size w ((w.alloc (.cells #[.int .i64 x, .int .i64 y, .slice A zs.length c] 27)).alloc (.cells #[.int .i64 0, .int .i64 0, .slice none 0 0] 27))) := ((Below.refl _ _).alloc (Nat.le_refl _) _).alloc (by simp) _
  have HC := Lib.hid (implRange x y A c zs _ (hr.carry B0.out) hn)
  have HS := Lib.hid hs
  clear hr hs
  go_enter Try.func38, Try.ntmps38
  go_wp2_with fail
  refine HC.out.mono ?_
  rintro e b1 ⟨l1, h1, ok1, rfl, hv, hb1⟩
  obtain ⟨rfl, rfl, rfl⟩ := hv.out
  rw [HS.out]
  obtain ⟨p0, p1, p2, q0, q1, q2, r0, r1, r2, _⟩ := (T0.out.below hb1.out).s
  have HE := Lib.hid (B0.out.trans (hb1.out.mono B0.out.size))
  clear HC T0 B0 hb1 hv
  go_wp2_with fail
  exact bodyPost_ret (v := .tuple #[.agg #[.int .i64 0, .int .i64 0, .slice none 0 0], .bool false]) (by simp [results, Try.results38, go_sem, q0, q1, q2]) rfl ⟨none, 0, rfl, RowIn.empty (Nat.le_refl _), HE.out.trans (store3 (Nat.le_succ _) _ _ _)⟩

set_option maxHeartbeats 1000000 in
theorem implNormLow (x y : Int) (A : Option Addr) (c : Nat) (zs : List Nat) (w : World) (hr : RowF w w.heap.size A zs) (hn : zs.length ≤ 1048576) (hs : shB x y zs = true) (hg : FloatKind.f32.format.order (hiW zs zs.length) (loW zs zs.length) = some .lt ∨ FloatKind.f32.format.order (hiW zs zs.length) (loW zs zs.length) = some .eq) :
    Calls Try.prog 38 #[.agg #[.int .i64 x, .int .i64 y, .slice A zs.length c]] w (TPost 0 0 [] false w) := by
  have T0 := Lib.hid (two_new w x y A zs.length c 27 27)
  have B0 : Hid (Below w.heap.size w ((w.alloc (.cells #[.int .i64 x, .int .i64 y, .slice A zs.length c] 27)).alloc (.cells #[.int .i64 0, .int .i64 0, .slice none 0 0] 27))) := ((Below.refl _ _).alloc (Nat.le_refl _) _).alloc (by simp) _
  have HC := Lib.hid (implRange x y A c zs _ (hr.carry B0.out) hn)
  have HS := Lib.hid hs
  clear hr hs
  rcases hg with hg | hg
  all_goals
    go_enter Try.func38, Try.ntmps38
    go_wp2_with fail
    refine HC.out.mono ?_
    rintro e b1 ⟨l1, h1, ok1, rfl, hv, hb1⟩
    obtain ⟨rfl, rfl, rfl⟩ := hv.out
    rw [HS.out, if_pos rfl, if_pos rfl]
    obtain ⟨p0, p1, p2, q0, q1, q2, r0, r1, r2, _⟩ := (T0.out.below hb1.out).s
    have HE := Lib.hid (B0.out.trans (hb1.out.mono B0.out.size))
    clear HC T0 B0 hb1 hv
    go_wp2_with fail
    exact bodyPost_ret (v := .tuple #[.agg #[.int .i64 0, .int .i64 0, .slice none 0 0], .bool false]) (by simp [results, Try.results38, go_sem, q0, q1, q2]) rfl ⟨none, 0, rfl, RowIn.empty (Nat.le_refl _), HE.out.trans (store3 (Nat.le_succ _) _ _ _)⟩

theorem normBoth (x y : Int) (zs : List Nat) (hn : zs.length ≤ 1048576) : ∃ p q ys b, ys.length ≤ 1048576 ∧ (∀ W A c, RowF W W.heap.size A zs → Calls Try.prog 37 #[.agg #[.int .i64 x, .int .i64 y, .slice A zs.length c]] W (TPost p q ys b W)) ∧ (∀ W A c, RowF W W.heap.size A zs → Calls Try.prog 38 #[.agg #[.int .i64 x, .int .i64 y, .slice A zs.length c]] W (TPost p q ys b W)) := by
  cases hs : shB x y zs with
  | false => exact ⟨0, 0, [], false, by simp, fun W A c hr => specNormNo x y A c zs W hr hn hs, fun W A c hr => implNormNo x y A c zs W hr hn hs⟩
  | true =>
    have h0 := shB_pos hs
    obtain ⟨f1, f2⟩ := lo_fin (shB_fin hs) h0 zs.length (Nat.le_refl _)
    obtain ⟨d, hd, _, ho⟩ := dif_gt f2 f1
    rcases ord4 (FloatKind.f32.format.order (hiW zs zs.length) (loW zs zs.length)) with g | g | g | g
    · rw [order_sV (of_decide_eq_true f2) (of_decide_eq_true f1)] at g; cases g
    · exact ⟨0, 0, [], false, by simp, fun W A c hr => specNormLow x y A c zs W hr hn hs d hd (by rw [ho, g]; rfl), fun W A c hr => implNormLow x y A c zs W hr hn hs (.inl g)⟩
    · exact ⟨0, 0, [], false, by simp, fun W A c hr => specNormLow x y A c zs W hr hn hs d hd (by rw [ho, g]; rfl), fun W A c hr => implNormLow x y A c zs W hr hn hs (.inr g)⟩
    · refine ⟨_, _, _, _, ?_, fun W A c hr => specNorm x y A c zs W hr hn hs d hd (by rw [ho, g]), fun W A c hr => implNorm x y A c zs W hr hn hs d hd g⟩
      unfold gY
      split
      · rw [toldY_length]; exact hn
      · exact Nat.zero_le _

end Go.Proofs.Ytalinjggodmijaa
