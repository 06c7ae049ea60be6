/-
  What is proved here: copies of fields and shapes with room for their cells, as walks. Conditions: at most 1048576 cells.
-/
import Derived.Test.YteojpmnnpinpeaaShk
import Derived.Test.YteojpmnnpinpeaaLvb
namespace Go.Proofs.Yteojpmnnpinpeaa
open Go.RowKit
set_option linter.unusedVariables false

set_option maxHeartbeats 2000000 in
theorem toFieC (x y : Int) (A : Option Addr) (n c : Nat) (p : Nat → Bool) (w : World) (hr : RowV w w.heap.size A n (bo p)) (hn : n ≤ 1048576) :
    Calls Try.prog 22 #[.agg #[.int .i64 x, .int .i64 y, .slice A n c]] w fun e w' => ∃ A' c', e = .returned (.agg #[.int .i64 x, .int .i64 y, .slice A' n c']) ∧ n ≤ c' ∧ Hid (RowW w' w.heap.size w'.heap.size A' n (bo p)) ∧ Hid (Below w.heap.size w w') := by
  have HC := fun (w' : World) (hb : Below w.heap.size w w') => toBc A n c p w' (hr.carry hb) hn
  have H := Lib.hid HC
  clear HC hr
  go_enter Try.func22, Try.ntmps22
  have B0 : Hid (Below w.heap.size w (((w.alloc (.cells #[.int .i64 x, .int .i64 y, .slice A n c] 30)).alloc (.cells #[.int .i64 0, .int .i64 0, .slice none 0 0] 35)).alloc (.cells #[.int .i64 x, .int .i64 y, .slice none 0 0] 35))) := (((Below.refl _ _).alloc (Nat.le_refl _) _).alloc (by simp) _).alloc (by simp; omega) _
  go_wp2_with fail
  refine (H.out _ B0.out).mono ?_
  rintro e w2 ⟨A', c', rfl, hd, hR, hb⟩
  have HD := Lib.hid hd
  clear hd
  have e3 : (((w.alloc (.cells #[.int .i64 x, .int .i64 y, .slice A n c] 30)).alloc (.cells #[.int .i64 0, .int .i64 0, .slice none 0 0] 35)).alloc (.cells #[.int .i64 x, .int .i64 y, .slice none 0 0] 35)).heap.size = w.heap.size + 3 := by simp
  have HR : Hid (RowW w2 (w.heap.size + 3) w2.heap.size A' n (bo p)) := by rw [← e3]; exact hR
  have HB : Hid (Below w.heap.size w w2) := B0.out.trans (hb.out.mono B0.out.size)
  obtain ⟨hc, hf⟩ := bcell hb.out
  have hz : w.heap.size + 2 < w2.heap.size := by have := hb.out.size; rw [e3] at this; omega
  clear hb hR H B0 e3
  go_wp2_with fail
  refine bodyPost_ret (v := .agg #[.int .i64 x, .int .i64 y, .slice A' n c']) (by simp [results, Try.results22, go_sem, hc]) rfl ⟨A', c', rfl, HD.out, ?_, ?_⟩
  · exact ((((((HR.out.other (by show w.heap.size + 1 + 1 < _; omega) _).other (by show w.heap.size + 1 < _; omega) _).other (by show w.heap.size + 1 < _; omega) _).other (by show w.heap.size + 1 < _; omega) _).top (by simp [World.setCell])).lower (by omega))
  · exact (((HB.out.setCell (by show w.heap.size ≤ w.heap.size + 1 + 1; omega) _).setCell (by show w.heap.size ≤ w.heap.size + 1; omega) _).setCell (by show w.heap.size ≤ w.heap.size + 1; omega) _).setCell (by show w.heap.size ≤ w.heap.size + 1; omega) _


set_option maxHeartbeats 4000000 in
theorem toShaC (s : ByteArray) (x y : Int) (A : Option Addr) (n c : Nat) (p : Nat → Bool) (w : World) (hr : RowV w w.heap.size A n (bo p)) (hn : n ≤ 1048576) :
    Calls Try.prog 71 #[.agg #[.string s, .int .i64 x, .int .i64 y, .slice A n c]] w fun e w' => ∃ A' c', e = .returned (.agg #[.string s, .int .i64 x, .int .i64 y, .slice A' n c']) ∧ n ≤ c' ∧ Hid (RowW w' w.heap.size w'.heap.size A' n (bo p)) ∧ Hid (Below w.heap.size w w') := by
  have HC := fun (w' : World) (hb : Below w.heap.size w w') => toFieC x y A n c p w' (hr.carry hb) hn
  have H := Lib.hid HC
  clear HC hr
  go_enter Try.func71, Try.ntmps71
  have B0 : Hid (Below w.heap.size w (((w.alloc (.cells #[.string s, .int .i64 x, .int .i64 y, .slice A n c] 101)).alloc (.cells #[.string ByteArray.empty, .int .i64 0, .int .i64 0, .slice none 0 0] 103)).alloc (.cells #[.string s, .int .i64 0, .int .i64 0, .slice none 0 0] 103))) := (((Below.refl _ _).alloc (Nat.le_refl _) _).alloc (by simp) _).alloc (by simp; omega) _
  go_wp2_with fail
  refine (H.out _ B0.out).mono ?_
  rintro e w2 ⟨A', c', rfl, hd, hR, hb⟩
  have HD := Lib.hid hd
  clear hd
  have e3 : (((w.alloc (.cells #[.string s, .int .i64 x, .int .i64 y, .slice A n c] 101)).alloc (.cells #[.string ByteArray.empty, .int .i64 0, .int .i64 0, .slice none 0 0] 103)).alloc (.cells #[.string s, .int .i64 0, .int .i64 0, .slice none 0 0] 103)).heap.size = w.heap.size + 3 := by simp
  have HR : Hid (RowW w2 (w.heap.size + 3) w2.heap.size A' n (bo p)) := by rw [← e3]; exact hR
  have HB : Hid (Below w.heap.size w w2) := B0.out.trans (hb.out.mono B0.out.size)
  obtain ⟨hc, hf⟩ := bcell hb.out
  have hz : w.heap.size + 2 < w2.heap.size := by have := hb.out.size; rw [e3] at this; omega
  clear hb hR H B0 e3
  go_wp2_with fail
  refine bodyPost_ret (v := .agg #[.string s, .int .i64 x, .int .i64 y, .slice A' n c']) (by simp [results, Try.results71, go_sem, hc]) rfl ⟨A', c', rfl, HD.out, ?_, ?_⟩
  · exact (((((((((HR.out.other (by show w.heap.size + 1 + 1 < _; omega) _).other (by show w.heap.size + 1 + 1 < _; omega) _).other (by show w.heap.size + 1 + 1 < _; omega) _).other (by show w.heap.size + 1 < _; omega) _).other (by show w.heap.size + 1 < _; omega) _).other (by show w.heap.size + 1 < _; omega) _).other (by show w.heap.size + 1 < _; omega) _).top (by simp [World.setCell])).lower (by omega))
  · exact (((((((HB.out.setCell (by show w.heap.size ≤ w.heap.size + 1 + 1; omega) _).setCell (by show w.heap.size ≤ w.heap.size + 1 + 1; omega) _).setCell (by show w.heap.size ≤ w.heap.size + 1 + 1; omega) _).setCell (by show w.heap.size ≤ w.heap.size + 1; omega) _).setCell (by show w.heap.size ≤ w.heap.size + 1; omega) _).setCell (by show w.heap.size ≤ w.heap.size + 1; omega) _).setCell (by show w.heap.size ≤ w.heap.size + 1; omega) _)


end Go.Proofs.Yteojpmnnpinpeaa
