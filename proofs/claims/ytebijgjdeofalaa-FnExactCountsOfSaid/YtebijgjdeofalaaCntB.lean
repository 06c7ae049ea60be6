/-
  What is proved here: the law CountsOf as a walk, whatever is drawn; how a list of integers that came in is read. Conditions: the list is one that a machine can hold.
-/
import Derived.Test.YtebijgjdeofalaaCnt
import Derived.ProofKit
namespace Go.Proofs.Ytebijgjdeofalaa
open Go.RowKit Go.ChangeShapes Go.WideShapes

/-- what is known of a list that came in -/
structure ListI (w : World) (A : Option Addr) (len : Nat) (zs : List Int) : Prop where
  size : zs.length = len
  row : RowI w w.heap.size A zs
  small : len ≤ maxLen

theorem open_i64s {H : Type} {enc : TypeId × Value → H} {P : Program} {w : World} {spare : Nat → Bool} {held : Bool} {t e : TypeId} {A : Option Addr} {len cap : Nat} {d : DataW H} {ps : List MemPlace} (ht : P.underlying t = some (.slice e)) (he : P.underlying e = some (.int .i64)) (hc : P.cellsOf e = 1)
    (h : DataW.Trod enc P w 0 spare held t (.slice A len cap) d ps) : ∃ zs, ListI w A len zs := by
  obtain ⟨fuel, hf⟩ := h
  rcases Go.ChangeShapes.open_ints ht he hc hf with ⟨hcs, _⟩ | ⟨a, l, c, zs, hcs, _, hl, hm, hz, _, hx, _⟩
  · simp [Value.cells] at hcs
    obtain ⟨rfl, rfl, rfl⟩ := hcs
    exact ⟨[], rfl, fun h => by simp at h, by unfold maxLen; omega⟩
  · simp [Value.cells] at hcs
    obtain ⟨rfl, rfl, rfl⟩ := hcs
    have hlz : len ≤ zs.length := by rw [hz]; split <;> omega
    refine ⟨zs.take len, by simp [hlz], ?_, by omega⟩
    intro h0
    have hlen : 0 < len := by simp at h0; omega
    obtain ⟨b, off, spot⟩ := a
    have hspot : spot = none := by
      have := hx 0 (by omega)
      simpa [Addr.add] using World.cell?_spot this
    subst hspot
    refine ⟨b, off, rfl, ?_, fun j hj => ?_⟩
    · have h1 := hx 0 (by omega)
      rcases Nat.lt_or_ge b w.heap.size with hb | hb
      · exact hb
      · exfalso
        simp [World.cell?, Addr.add, Array.getElem?_eq_none hb] at h1
    · have hj' : j < len := by simp at hj; omega
      have h1 := hx j (by omega)
      rw [Go.WideShapes.add_plain] at h1
      rw [h1]
      simp [atI, List.getD, hj']

theorem cntL_short (zs : List Int) (most : Int) : (cntL zs most).length ≤ 1048576 := by
  unfold cntL
  split
  · rename_i h
    have : inB most 0 128 = true := by unfold cntB at h; simp at h; exact h.1.2
    have := inB_yes this
    simp; omega
  · simp

theorem implCnt2 (A : Option Addr) (c : Nat) (zs : List Int) (most : Int) {w0 w : World} (hr : RowI w w.heap.size A zs) (hb : Hid (Below w0.heap.size w0 w)) (hn : zs.length ≤ 1048576) :
    Calls Try.prog 8 #[.slice A zs.length c, .int .i64 most] w fun e w' => ∃ A c, e = .returned (.tuple #[.slice A (cntL zs most).length c, .bool (cntB zs most)]) ∧ Hid (OwnI w' w.heap.size A (cntL zs most)) ∧ Hid (Below w.heap.size w w') ∧ Hid (Below w0.heap.size w0 w') :=
  (implCnt A c zs most w hr hn).mono fun _ _ ⟨A, c, h1, h2, h3⟩ => ⟨A, c, h1, h2, h3, hb.out.trans (h3.out.mono hb.out.size)⟩
theorem specCnt2 (A : Option Addr) (c : Nat) (zs : List Int) (most : Int) {w0 w : World} (hr : RowI w w.heap.size A zs) (hb : Hid (Below w0.heap.size w0 w)) (hn : zs.length ≤ 1048576) :
    Calls Try.prog 6 #[.slice A zs.length c, .int .i64 most] w fun e w' => ∃ A c, e = .returned (.tuple #[.slice A (cntL zs most).length c, .bool (cntB zs most)]) ∧ Hid (OwnI w' w.heap.size A (cntL zs most)) ∧ Hid (Below w.heap.size w w') ∧ Hid (Below w0.heap.size w0 w') :=
  (specCnt A c zs most w hr hn).mono fun _ _ ⟨A, c, h1, h2, h3⟩ => ⟨A, c, h1, h2, h3, hb.out.trans (h3.out.mono hb.out.size)⟩

theorem lawCnt (A : Option Addr) (len c : Nat) (zs : List Int) (most : Int) {w : World} (hl : ListI w A len zs) :
    Calls Try.prog 3 #[.slice A len c, .int .i64 most] w fun e w' => e = .returned (.bool true) ∧ Below w.heap.size w w' := by
  obtain ⟨hsz, hrow, hmax⟩ := hl
  subst hsz
  unfold maxLen at hmax
  by_cases hbig : 1048576 < zs.length
  · clear hrow
    go_enter Try.func3, Try.ntmps3
    go_wp2
    go_ret
    exact ⟨rfl, Below.refl _ _⟩
  · have hn : zs.length ≤ 1048576 := by omega
    have R := Lib.hid hrow
    have B0 : Hid (Below w.heap.size w w) := Below.refl _ _
    have hL := cntL_short zs most
    clear hrow hbig hmax
    go_enter Try.func3, Try.ntmps3
    -- what the model answers
    go_wp2_with fail
    refine (toI2 A c zs R B0 hn).mono ?_
    rintro e w1 ⟨g1, _, rfl, T1, _, P1, B1⟩
    go_wp2_with fail
    refine (specCnt2 _ _ zs most T1.out.row B1 hn).mono ?_
    rintro e w2 ⟨AW, cW, rfl, W2, P2, B2⟩
    have V2 := Lib.hid W2.out.row
    clear T1 P1 P2 B1 B0 W2
    -- the copy that the program gets
    go_wp2_with fail
    refine (toI2 A c zs R B2 hn).mono ?_
    rintro e w3 ⟨gX, hgX, rfl, X3, S3, P3, B3⟩
    have LX : Hid (w.heap.size ≤ gX) := by show w.heap.size ≤ gX; rw [hgX.out]; exact B2.out.size
    have V3 := Lib.hid ((hgX.out ▸ V2.out : RowI w2 gX AW (cntL zs most)).below (hgX.out ▸ P3.out))
    clear V2 P3 B2 hgX
    go_wp2_with fail
    refine (implCnt2 _ _ zs most X3.out.row B3 hn).mono ?_
    rintro e w4 ⟨AG, cG, rfl, G4, P4, B4⟩
    have hle : gX ≤ w3.heap.size := by rw [S3.out]; exact Nat.le_succ _
    have V4 := Lib.hid (V3.out.below (P4.out.mono hle))
    have X4 := Lib.hid (X3.out.below P4.out)
    have Z4 : Hid (gX ≤ w4.heap.size) := Nat.le_trans hle P4.out.size
    have Z5 : Hid (gX < w3.heap.size) := by show gX < w3.heap.size; rw [S3.out]; exact Nat.lt_succ_self _
    have Z6 := Lib.hid P4.out.size
    clear V3 X3 P4 B3 hle
    go_wp2_with fail
    -- they are the same
    refine (eqI _ _ _ _ (cntL zs most) w4 w4.heap.size G4.out.row (V4.out.mono Z4.out) hL).mono ?_
    rintro e w' ⟨rfl, n1, rfl⟩
    have G5 : Hid (OwnI (w4.drewN n1) w3.heap.size AG (cntL zs most)) := G4
    have V5 : Hid (RowI (w4.drewN n1) gX AW (cntL zs most)) := V4
    have X5 : Hid (OwnI (w4.drewN n1) gX (some ⟨gX, 0, none⟩) zs) := X4
    have B5 : Hid (Below w.heap.size w (w4.drewN n1)) := belowN B4.out
    have Y4 : Hid (gX ≤ (w4.drewN n1).heap.size) := Z4
    have Y6 : Hid (w3.heap.size ≤ (w4.drewN n1).heap.size) := Z6
    clear G4 V4 X4 B4 Z4 Z6
    generalize w4.drewN n1 = w5 at *
    go_wp2_with fail
    -- the copy is as it was
    refine (toI2 A c zs R B5 hn).mono ?_
    rintro e w6 ⟨g6, hg6, rfl, T6, _, P6, B6⟩
    have G6 := Lib.hid (G5.out.below P6.out)
    have V6 := Lib.hid (V5.out.below (P6.out.mono Y4.out))
    have X6 := Lib.hid (X5.out.below P6.out)
    clear G5 V5 X5 B5
    go_wp2_with fail
    refine (eqI _ _ _ _ zs w6 w6.heap.size X6.out.row T6.out.row hn).mono ?_
    rintro e w' ⟨rfl, n2, rfl⟩
    have G7 : Hid (OwnI (w6.drewN n2) w3.heap.size AG (cntL zs most)) := G6
    have V7 : Hid (RowI (w6.drewN n2) gX AW (cntL zs most)) := V6
    have X7 : Hid (OwnI (w6.drewN n2) gX (some ⟨gX, 0, none⟩) zs) := X6
    have B7 : Hid (Below w.heap.size w (w6.drewN n2)) := belowN B6.out
    have Y7 : Hid (gX ≤ (w6.drewN n2).heap.size) := Nat.le_trans Y4.out P6.out.size
    have Y8 : Hid (w3.heap.size ≤ (w6.drewN n2).heap.size) := Nat.le_trans Y6.out P6.out.size
    clear G6 V6 X6 B6 P6 T6 Y4 Y6
    generalize w6.drewN n2 = w7 at *
    go_wp2_with fail
    -- the copy is written
    refine (mark1 _ _ _ zs w7 X7.out hn).mono ?_
    rintro e w8 ⟨rfl, _, M8⟩
    have V8 := Lib.hid (V7.out.but M8.out (Nat.le_refl _))
    have G8 := Lib.hid (G7.out.but M8.out fun a ha => by obtain rfl := Option.some.inj ha; exact Z5.out)
    have B8 : Hid (Below w.heap.size w w8) := B7.out.trans (M8.out.toBelow.mono LX.out)
    have Y9 : Hid (gX ≤ w8.heap.size) := by show gX ≤ w8.heap.size; rw [M8.out.size]; exact Y7.out
    have Y10 : Hid (w3.heap.size ≤ w8.heap.size) := by show w3.heap.size ≤ w8.heap.size; rw [M8.out.size]; exact Y8.out
    clear V7 G7 X7 B7 Y7 Y8 M8
    go_wp2_with fail
    refine (eqI _ _ _ _ (cntL zs most) w8 w8.heap.size G8.out.row (V8.out.mono Y9.out) hL).mono ?_
    rintro e w' ⟨rfl, n3, rfl⟩
    have G9 : Hid (OwnI (w8.drewN n3) w3.heap.size AG (cntL zs most)) := G8
    have V9 : Hid (RowI (w8.drewN n3) gX AW (cntL zs most)) := V8
    have B9 : Hid (Below w.heap.size w (w8.drewN n3)) := belowN B8.out
    have Y11 : Hid (gX ≤ (w8.drewN n3).heap.size) := Y9
    clear G8 V8 B8 Y9 Y10
    generalize w8.drewN n3 = w9 at *
    go_wp2_with fail
    -- the answer is written, and looked at
    refine (mark1 _ _ _ (cntL zs most) w9 G9.out hL).mono ?_
    rintro e w10 ⟨rfl, G10, M10⟩
    have V10 := Lib.hid (V9.out.but M10.out (Nat.le_of_lt Z5.out))
    have B10 : Hid (Below w.heap.size w w10) := B9.out.trans (M10.out.toBelow.mono (Nat.le_trans LX.out (Nat.le_of_lt Z5.out)))
    have Y12 : Hid (gX ≤ w10.heap.size) := by show gX ≤ w10.heap.size; rw [M10.out.size]; exact Y11.out
    clear G9 V9 B9 Y11 M10
    go_wp2_with fail
    refine (held1 _ _ w10.heap.size (cntL zs most).length w10 G10.out.row hL).mono ?_
    rintro e w' ⟨rfl, rfl⟩
    go_wp2_with fail
    -- once more
    refine (toI2 A c zs R B10 hn).mono ?_
    rintro e w11 ⟨g11, hg11, rfl, T11, _, P11, B11⟩
    have G11 := Lib.hid (G10.out.below P11.out)
    have V11 := Lib.hid (V10.out.below (P11.out.mono Y12.out))
    have Y13 : Hid (gX ≤ w11.heap.size) := Nat.le_trans Y12.out P11.out.size
    clear G10 V10 B10 Y12 P11 hg11
    go_wp2_with fail
    refine (implCnt2 _ _ zs most T11.out.row B11 hn).mono ?_
    rintro e w12 ⟨AH, cH, rfl, H12, P12, B12⟩
    have G12 := Lib.hid (G11.out.below P12.out)
    have V12 := Lib.hid (V11.out.below (P12.out.mono Y13.out))
    have Y14 : Hid (gX ≤ w12.heap.size) := Nat.le_trans Y13.out P12.out.size
    clear G11 V11 B11 Y13 P12 T11
    go_wp2_with fail
    refine (eqI _ _ _ _ (cntL zs most) w12 w12.heap.size H12.out.row (V12.out.mono Y14.out) hL).mono ?_
    rintro e w' ⟨rfl, n4, rfl⟩
    have G13 : Hid (OwnI (w12.drewN n4) w3.heap.size AG (up 1 (cntL zs most).length)) := G12
    have B13 : Hid (Below w.heap.size w (w12.drewN n4)) := belowN B12.out
    clear G12 V12 B12 Y14 H12
    generalize w12.drewN n4 = w13 at *
    go_wp2_with fail
    refine (held1 _ _ w13.heap.size (cntL zs most).length w13 G13.out.row hL).mono ?_
    rintro e w' ⟨rfl, rfl⟩
    go_wp2_with fail
    go_ret
    exact ⟨rfl, B13.out⟩

end Go.Proofs.Ytebijgjdeofalaa
