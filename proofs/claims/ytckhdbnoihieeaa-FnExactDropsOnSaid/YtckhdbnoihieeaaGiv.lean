/-
  What is proved here: what is given of a sheet if it is valid, of both packages, as walks. Conditions: at most 1048576 heights.
-/
import Derived.Test.YtckhdbnoihieeaaChg
namespace Go.Proofs.Ytckhdbnoihieeaa
open Flt Go.RowKit

/-- cells of a variable that may be written -/
theorem keepR {W wa wb : World} {v : Nat} {a0 a1 a2 : Value} (hb : Below wa.heap.size wa wb) (h0 : wa.cell? ⟨v, 0, none⟩ = some a0) (h1 : wa.cell? ⟨v, 1, none⟩ = some a1) (h2 : wa.cell? ⟨v, 2, none⟩ = some a2) (f0 : wa.frozen? ⟨v, 0, none⟩ = false) (f1 : wa.frozen? ⟨v, 1, none⟩ = false) (f2 : wa.frozen? ⟨v, 2, none⟩ = false) (hB : Hid (Below W.heap.size W wa)) (hx : v < W.heap.size) :
    wb.cell? ⟨v, 0, none⟩ = some a0 ∧ wb.cell? ⟨v, 1, none⟩ = some a1 ∧ wb.cell? ⟨v, 2, none⟩ = some a2 ∧ wb.frozen? ⟨v, 0, none⟩ = false ∧ wb.frozen? ⟨v, 1, none⟩ = false ∧ wb.frozen? ⟨v, 2, none⟩ = false := by
  have := Nat.lt_of_lt_of_le hx hB.out.size
  exact ⟨by rw [hb.cell (p := ⟨v, 0, none⟩) this]; exact h0, by rw [hb.cell (p := ⟨v, 1, none⟩) this]; exact h1, by rw [hb.cell (p := ⟨v, 2, none⟩) this]; exact h2, by rw [hb.frozen (p := ⟨v, 0, none⟩) this]; exact f0, by rw [hb.frozen (p := ⟨v, 1, none⟩) this]; exact f1, by rw [hb.frozen (p := ⟨v, 2, none⟩) this]; exact f2⟩

set_option maxHeartbeats 1000000 in
theorem specGive (p q : Int) (A : Option Addr) (c : Nat) (ws : List Nat) (w : World) (hr : RowF w w.heap.size A ws) (hn : ws.length ≤ 1048576) (b : Bool) (h : shB p q ws = b) :
    Calls Try.prog 44 #[.agg #[.int .i64 p, .int .i64 q, .slice A ws.length c]] w fun e w' => (b = true → e = .returned (.tuple #[.agg #[.int .i64 p, .int .i64 q, .slice A ws.length c], .bool true])) ∧ (b = false → e = .returned (.tuple #[.agg #[.int .i64 0, .int .i64 0, .slice none 0 0], .bool false])) ∧ Hid (Below w.heap.size w w') := by
  have B1 : Below w.heap.size w (w.alloc (.cells #[.int .i64 p, .int .i64 q, .slice A ws.length c] 27)) := (Below.refl _ _).alloc (Nat.le_refl _) _
  have B2 : Below w.heap.size w ((w.alloc (.cells #[.int .i64 p, .int .i64 q, .slice A ws.length c] 27)).alloc (.cells #[.int .i64 0, .int .i64 0, .slice none 0 0] 27)) := B1.alloc (by simp) _
  have V2 := (varT_new w p q A ws.length c 27).below ((Below.refl _ _).alloc (Nat.le_refl _) (.cells #[.int .i64 0, .int .i64 0, .slice none 0 0] 27))
  have HC := Lib.hid (specIs w.heap.size p q A c ws _ V2 (hr.carry B2) hn)
  have HB := Lib.hid B2
  have H1 := Lib.hid h
  clear hr B1 B2 V2 h
  cases b
  · go_enter Try.func44, Try.ntmps44
    go_wp2_with fail
    refine HC.out.mono ?_
    rintro e w' ⟨rfl, n, rfl⟩
    rw [H1.out]
    clear HC
    go_wp2_with fail
    exact bodyPost_ret (v := .tuple #[.agg #[.int .i64 0, .int .i64 0, .slice none 0 0], .bool false]) (by simp [results, Try.results44, go_sem]) rfl ⟨(fun h => by cases h), (fun _ => rfl), (((belowN HB.out).setCell (by show w.heap.size ≤ w.heap.size + 1; omega) _).setCell (by show w.heap.size ≤ w.heap.size + 1; omega) _).setCell (by show w.heap.size ≤ w.heap.size + 1; omega) _⟩
  · go_enter Try.func44, Try.ntmps44
    go_wp2_with fail
    refine HC.out.mono ?_
    rintro e w' ⟨rfl, n, rfl⟩
    rw [H1.out]
    clear HC
    go_wp2_with fail
    exact bodyPost_ret (v := .tuple #[.agg #[.int .i64 p, .int .i64 q, .slice A ws.length c], .bool true]) (by simp [results, Try.results44, go_sem]) rfl ⟨(fun _ => rfl), (fun h => by cases h), (((belowN HB.out).setCell (by show w.heap.size ≤ w.heap.size + 1; omega) _).setCell (by show w.heap.size ≤ w.heap.size + 1; omega) _).setCell (by show w.heap.size ≤ w.heap.size + 1; omega) _⟩

set_option maxHeartbeats 1000000 in
theorem implGive (p q : Int) (A : Option Addr) (c : Nat) (ws : List Nat) (w : World) (hr : RowF w w.heap.size A ws) (hn : ws.length ≤ 1048576) (b : Bool) (h : shB p q ws = b) :
    Calls Try.prog 49 #[.agg #[.int .i64 p, .int .i64 q, .slice A ws.length c]] w fun e w' => (b = true → e = .returned (.tuple #[.agg #[.int .i64 p, .int .i64 q, .slice A ws.length c], .bool true])) ∧ (b = false → e = .returned (.tuple #[.agg #[.int .i64 0, .int .i64 0, .slice none 0 0], .bool false])) ∧ Hid (Below w.heap.size w w') := by
  have B1 : Below w.heap.size w (w.alloc (.cells #[.int .i64 p, .int .i64 q, .slice A ws.length c] 27)) := (Below.refl _ _).alloc (Nat.le_refl _) _
  have B2 : Below w.heap.size w ((w.alloc (.cells #[.int .i64 p, .int .i64 q, .slice A ws.length c] 27)).alloc (.cells #[.int .i64 0, .int .i64 0, .slice none 0 0] 27)) := B1.alloc (by simp) _
  have V2 := (varT_new w p q A ws.length c 27).below ((Below.refl _ _).alloc (Nat.le_refl _) (.cells #[.int .i64 0, .int .i64 0, .slice none 0 0] 27))
  have HC := Lib.hid (implValid p q A c ws _ (hr.carry B2) hn)
  have V3 := Lib.hid V2
  obtain ⟨f0, f1, f2, f3, f4, f5⟩ := fresh3 (w.alloc (.cells #[.int .i64 p, .int .i64 q, .slice A ws.length c] 27)) (.int .i64 0) (.int .i64 0) (.slice none 0 0) 27
  have FR := Lib.hid (And.intro f0 (And.intro f1 (And.intro f2 (And.intro f3 (And.intro f4 f5)))))
  have ES : Hid ((w.alloc (.cells #[.int .i64 p, .int .i64 q, .slice A ws.length c] 27)).heap.size = w.heap.size + 1) := by show _ = _; simp
  have HB := Lib.hid B2
  have H1 := Lib.hid h
  clear hr B1 B2 V2 h f0 f1 f2 f3 f4 f5
  cases b
  · go_enter Try.func49, Try.ntmps49
    go_wp2_with fail
    refine HC.out.mono ?_
    rintro e w1 ⟨rfl, hb⟩
    rw [H1.out]
    have HE : Hid (Below w.heap.size w w1) := HB.out.trans (hb.out.mono HB.out.size)
    have c0 := (V3.out.below hb.out).c0
    have c1 := (V3.out.below hb.out).c1
    have c2 := (V3.out.below hb.out).c2
    obtain ⟨d0, d1, d2, g0, g1, g2⟩ := keepR (W := (w.alloc (.cells #[.int .i64 p, .int .i64 q, .slice A ws.length c] 27)).alloc (.cells #[.int .i64 0, .int .i64 0, .slice none 0 0] 27)) (v := (w.alloc (.cells #[.int .i64 p, .int .i64 q, .slice A ws.length c] 27)).heap.size) hb.out FR.out.1 FR.out.2.1 FR.out.2.2.1 FR.out.2.2.2.1 FR.out.2.2.2.2.1 FR.out.2.2.2.2.2 (show Hid (Below _ _ _) from Below.refl _ _) (by simp)
    rw [ES.out] at d0 d1 d2 g0 g1 g2
    clear HC hb V3 FR HB
    go_wp2_with fail
    exact bodyPost_ret (v := .tuple #[.agg #[.int .i64 0, .int .i64 0, .slice none 0 0], .bool false]) (by simp [results, Try.results49, go_sem, d0, d1, d2]) rfl ⟨(fun h => by cases h), (fun _ => rfl), ((HE.out.setCell (by show w.heap.size ≤ w.heap.size + 1; omega) _).setCell (by show w.heap.size ≤ w.heap.size + 1; omega) _).setCell (by show w.heap.size ≤ w.heap.size + 1; omega) _⟩
  · go_enter Try.func49, Try.ntmps49
    go_wp2_with fail
    refine HC.out.mono ?_
    rintro e w1 ⟨rfl, hb⟩
    rw [H1.out]
    have HE : Hid (Below w.heap.size w w1) := HB.out.trans (hb.out.mono HB.out.size)
    have c0 := (V3.out.below hb.out).c0
    have c1 := (V3.out.below hb.out).c1
    have c2 := (V3.out.below hb.out).c2
    obtain ⟨d0, d1, d2, g0, g1, g2⟩ := keepR (W := (w.alloc (.cells #[.int .i64 p, .int .i64 q, .slice A ws.length c] 27)).alloc (.cells #[.int .i64 0, .int .i64 0, .slice none 0 0] 27)) (v := (w.alloc (.cells #[.int .i64 p, .int .i64 q, .slice A ws.length c] 27)).heap.size) hb.out FR.out.1 FR.out.2.1 FR.out.2.2.1 FR.out.2.2.2.1 FR.out.2.2.2.2.1 FR.out.2.2.2.2.2 (show Hid (Below _ _ _) from Below.refl _ _) (by simp)
    rw [ES.out] at d0 d1 d2 g0 g1 g2
    clear HC hb V3 FR HB
    go_wp2_with fail
    exact bodyPost_ret (v := .tuple #[.agg #[.int .i64 p, .int .i64 q, .slice A ws.length c], .bool true]) (by simp [results, Try.results49, go_sem, d0, d1, d2]) rfl ⟨(fun _ => rfl), (fun h => by cases h), ((HE.out.setCell (by show w.heap.size ≤ w.heap.size + 1; omega) _).setCell (by show w.heap.size ≤ w.heap.size + 1; omega) _).setCell (by show w.heap.size ≤ w.heap.size + 1; omega) _⟩

end Go.Proofs.Ytckhdbnoihieeaa
