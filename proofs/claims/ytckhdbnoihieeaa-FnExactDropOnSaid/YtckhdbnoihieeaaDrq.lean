/-
  What is proved here: DropOn, of the reference, as a walk. Conditions: at most 1048576 heights.
-/
import Derived.Test.YtckhdbnoihieeaaDrs
import Derived.Deep.CutRange
namespace Go.Proofs.Ytckhdbnoihieeaa
open Flt Go.RowKit
attribute [local go_sem] run_store_float
set_option linter.unusedVariables false

set_option maxHeartbeats 16000000 in
set_option maxRecDepth 1000000 in
theorem specDro (x y px py steps : Int) (A : Option Addr) (c : Nat) (zs : List Nat) (tk lv : Nat) (w : World) (hr : RowF w w.heap.size A zs) (hn : zs.length ≤ 1048576) :
    Calls Try.prog 21 #[.agg #[.int .i64 x, .int .i64 y, .slice A zs.length c], .int .i64 px, .int .i64 py, .int .i64 steps, .float .f32 tk, .float .f32 lv] w (TPostN (gN (drpB x y zs px py steps tk lv) x) (gN (drpB x y zs px py steps tk lv) y) (gY (drpB x y zs px py steps tk lv) (toldY (drF (drpS x y zs px py steps tk lv)) zs.length)) (gN (drpB x y zs px py steps tk lv) ((drpS x y zs px py steps tk lv).n : Nat)) (drpB x y zs px py steps tk lv) w) := by
  have T0 := Lib.hid (two_new w x y A zs.length c 27 27)
  have B0 : Hid (Below w.heap.size w ((w.alloc (.cells #[.int .i64 x, .int .i64 y, .slice A zs.length c] 27)).alloc (.cells #[.int .i64 0, .int .i64 0, .slice none 0 0] 27))) := ((Below.refl _ _).alloc (Nat.le_refl _) _).alloc (by simp) _
  have R0 : Hid (RowF ((w.alloc (.cells #[.int .i64 x, .int .i64 y, .slice A zs.length c] 27)).alloc (.cells #[.int .i64 0, .int .i64 0, .slice none 0 0] 27)) w.heap.size A zs) := hr.below B0.out
  clear hr
  go_enter Try.func21, Try.ntmps21
  go_wp2_with fail
  generalize ((w.alloc (.cells #[.int .i64 x, .int .i64 y, .slice A zs.length c] 27)).alloc (.cells #[.int .i64 0, .int .i64 0, .slice none 0 0] 27)) = a0 at *
  generalize hX : w.heap.size = X at *
  have HX := Lib.hid hX
  clear hX
  refine (specIs X x y A c zs a0 T0.out.var (R0.out.mono (Nat.le_of_lt T0.out.var.lt)) hn).mono ?_
  rintro e b1 ⟨rfl, n1, hw1⟩
  have hb1 : Hid (Below a0.heap.size a0 b1) := by rw [hw1]; exact belowN (Below.refl _ _)
  clear hw1
  have T1 := Lib.hid (T0.out.below hb1.out)
  have R1 : Hid (RowF b1 X A zs) := R0.out.below (hb1.out.mono (Nat.le_of_lt T0.out.var.lt))
  have B1 := Lib.hid (B0.out.trans (hb1.out.mono (Nat.le_of_lt T0.out.var.lt)))
  clear hb1 T0 R0 B0
  cases h1 : shB x y zs
  · skip
    have N := Lib.hid (show (drpB x y zs px py steps tk lv) = false from drpB_no (drpA_1 h1))
    obtain ⟨p0, p1, p2, q0, q1, q2, r0, r1, r2, _⟩ := T1.out.s
    go_wp2_with fail
    exact bodyPost_ret (v := .tuple #[.agg #[.int .i64 0, .int .i64 0, .slice none 0 0], .int .i64 0, .bool false]) (by simp [results, Try.results21, go_sem, q0, q1, q2]) rfl (tpostN_no N.out (by rw [HX.out]; exact B1.out.trans (store3 (Nat.le_succ X) _ _ _)))
  · have H1 := Lib.hid h1
    clear h1
    have t0 := T1.out.c0
    have t1 := T1.out.c1
    have t2 := T1.out.c2
    have tl := T1.out.yb
    go_wp2_with fail
    clear t0 t1 t2 tl
    refine (inS_any px _ _ _).mono ?_
    rintro e w' ⟨rfl, rfl⟩
    cases g1 : inB px 0 (wrap64 (x - 1))
    · skip
      have N := Lib.hid (show (drpB x y zs px py steps tk lv) = false from drpB_no (drpA_2 H1.out g1))
      obtain ⟨p0, p1, p2, q0, q1, q2, r0, r1, r2, _⟩ := T1.out.s
      go_wp2_with fail
      exact bodyPost_ret (v := .tuple #[.agg #[.int .i64 0, .int .i64 0, .slice none 0 0], .int .i64 0, .bool false]) (by simp [results, Try.results21, go_sem, q0, q1, q2]) rfl (tpostN_no N.out (by rw [HX.out]; exact B1.out.trans (store3 (Nat.le_succ X) _ _ _)))
    · have GG1 := Lib.hid g1
      clear g1
      have t0 := T1.out.c0
      have t1 := T1.out.c1
      have t2 := T1.out.c2
      have tl := T1.out.yb
      go_wp2_with fail
      clear t0 t1 t2 tl
      refine (inS_any py _ _ _).mono ?_
      rintro e w' ⟨rfl, rfl⟩
      cases g2 : inB py 0 (wrap64 (y - 1))
      · skip
        have N := Lib.hid (show (drpB x y zs px py steps tk lv) = false from drpB_no (drpA_3 H1.out g2))
        obtain ⟨p0, p1, p2, q0, q1, q2, r0, r1, r2, _⟩ := T1.out.s
        go_wp2_with fail
        exact bodyPost_ret (v := .tuple #[.agg #[.int .i64 0, .int .i64 0, .slice none 0 0], .int .i64 0, .bool false]) (by simp [results, Try.results21, go_sem, q0, q1, q2]) rfl (tpostN_no N.out (by rw [HX.out]; exact B1.out.trans (store3 (Nat.le_succ X) _ _ _)))
      · have GG2 := Lib.hid g2
        clear g2
        go_wp2_with fail
        refine (inS_any steps _ _ _).mono ?_
        rintro e w' ⟨rfl, rfl⟩
        cases h4 : inB steps 0 128
        · skip
          have N := Lib.hid (show (drpB x y zs px py steps tk lv) = false from drpB_no (drpA_4 h4))
          obtain ⟨p0, p1, p2, q0, q1, q2, r0, r1, r2, _⟩ := T1.out.s
          go_wp2_with fail
          exact bodyPost_ret (v := .tuple #[.agg #[.int .i64 0, .int .i64 0, .slice none 0 0], .int .i64 0, .bool false]) (by simp [results, Try.results21, go_sem, q0, q1, q2]) rfl (tpostN_no N.out (by rw [HX.out]; exact B1.out.trans (store3 (Nat.le_succ X) _ _ _)))
        · have H4 := Lib.hid h4
          clear h4
          go_wp2_with fail
          refine (specRul tk lv _).mono ?_
          rintro e w' ⟨rfl, rfl⟩
          cases h5 : ruleB tk lv
          · skip
            have N := Lib.hid (show (drpB x y zs px py steps tk lv) = false from drpB_no (drpA_5 h5))
            obtain ⟨p0, p1, p2, q0, q1, q2, r0, r1, r2, _⟩ := T1.out.s
            go_wp2_with fail
            exact bodyPost_ret (v := .tuple #[.agg #[.int .i64 0, .int .i64 0, .slice none 0 0], .int .i64 0, .bool false]) (by simp [results, Try.results21, go_sem, q0, q1, q2]) rfl (tpostN_no N.out (by rw [HX.out]; exact B1.out.trans (store3 (Nat.le_succ X) _ _ _)))
          · have H5 := Lib.hid h5
            clear h5
            have HSB := Lib.hid (shB_sides H1.out)
            have HPL := drp_place H1.out GG1.out GG2.out
            obtain ⟨sn, hsn, rfl⟩ : ∃ sn : Nat, sn ≤ 128 ∧ steps = (sn : Int) := ⟨steps.toNat, by have := inB_yes H4.out; omega, by have := inB_yes H4.out; omega⟩
            obtain ⟨a0', t, hal, hpa, hw1, hw2⟩ := HPL
            have HB : Hid (drpB x y zs px py (sn : Int) tk lv = toldB (drF (drI tk lv x y (dr0 zs a0') sn)) zs.length) := by show _ = _; unfold drpB; rw [drpA_yes H1.out GG1.out GG2.out H4.out H5.out, drpS_eq hpa]; rfl
            have HSQ : Hid (drpS x y zs px py (sn : Int) tk lv = drI tk lv x y (dr0 zs a0') sn) := drpS_eq hpa
            have H0 := Lib.hid (shB_pos H1.out)
            obtain ⟨b0, off, rfl, hbb, hcell⟩ := R1.out H0.out
            clear hbb hcell hpa
            have t0 := T1.out.c0
            have t1 := T1.out.c1
            have t2 := T1.out.c2
            have tl := T1.out.yb
            go_wp2_with fail
            clear t0 t1 t2 tl
            refine (own_is X x y (some ⟨b0, off, none⟩) c zs b1 T1.out.var (R1.out.mono (Nat.le_of_lt T1.out.var.lt)) H0.out hn).mono ?_
            rintro e b5 ⟨g, c', rfl, RO, hb5⟩
            have T5 := Lib.hid (T1.out.below hb5.out)
            have R5 : Hid (RowF b5 X (some ⟨b0, off, none⟩) zs) := R1.out.below (hb5.out.mono (Nat.le_of_lt T1.out.var.lt))
            have B5 := Lib.hid (B1.out.trans (hb5.out.mono (Nat.le_of_lt T1.out.var.lt)))
            obtain ⟨G2', gl, gh, _⟩ := RO.out.toG
            have gX : X + 1 < g := by have := T1.out.yb; omega
            have hbO : Below b5.heap.size b5 (b5.alloc (.cells #[.int .i64 x, .int .i64 y, .slice (some ⟨g, 0, none⟩) zs.length c'] 27)) := (Below.refl _ _).alloc (Nat.le_refl _) _
            have VO := Lib.hid (varT_new b5 x y (some ⟨g, 0, none⟩) zs.length c' 27)
            have T6 := Lib.hid (T5.out.below hbO)
            have B6 := Lib.hid (B5.out.trans (hbO.mono (Nat.le_of_lt T5.out.var.lt)))
            have G6 := Lib.hid (G2'.but (ButIn.of hbO) (.inr (Nat.zero_le _)))
            have x0' := T6.out.c0
            have x0l := T6.out.var.lt
            have x0c := T5.out.c0
            have x0k := T5.out.var.lt
            have DI : Hid (∀ j, j < zs.length → (fun j => can .f32 (at0 zs j)) j = (dr0 zs a0').f j) := fun _ _ => rfl
            have HT0 : Hid (Told (dr0 zs a0').f zs.length zs.length zs) := ⟨rfl, fun j hj => rfl⟩
            clear T1 R1 B1 T5 R5 B5 RO hb5 G2' gl hbO DI
            go_wp2_with fail
            generalize (b5.alloc (.cells #[.int .i64 x, .int .i64 y, .slice (some ⟨g, 0, none⟩) zs.length c'] 27)) = b6 at *
            generalize b5.heap.size = O at *
            have ob6 : O < b6.heap.size := VO.out.lt
            have hOg : ¬ O = g := by omega
            have hgO : ¬ g = O := by omega
            clear x0' x0l x0c x0k
            have HDR := specDrop O x y g c' zs.length zs (dr0 zs a0').f a0' sn tk lv b6 VO.out (by omega) G6.out HT0.out HSB.out.1 HSB.out.2.1 HSB.out.2.2 hal hsn
            refine HDR.mono ?_
            rintro e wv ⟨vw, rfl, TV, GV, BV⟩
            have HI : Hid (drI tk lv x y (dr0 zs a0') = drI tk lv x y ⟨(dr0 zs a0').f, can .f32 0, a0', 0⟩) := rfl
            rw [HI.out] at HB HSQ
            clear HI HDR
            generalize drI tk lv x y ⟨(dr0 zs a0').f, can .f32 0, a0', 0⟩ = I at *
            have hl := TV.out.1
            have VW := VO.out.but BV.out (.inr (by omega))
            have o0 := VW.c0
            have o1 := VW.c1
            have o2 := VW.c2
            have ol := VW.lt
            have HV : Hid (shB x y vw = toldB (drF (I sn)) zs.length) := by show _ = _; rw [shB_len H1.out hl, TV.out.fin]
            have T7 := Lib.hid (T6.out.chg (BV.out.toBelow (by omega) (Nat.succ_le_of_lt T6.out.yb)))
            have B7 := Lib.hid (B6.out.trans (BV.out.toBelow (by omega) (Nat.le_of_lt T6.out.var.lt)))
            have R7 : Hid (RowIn wv g (g + 1) (some ⟨g, 0, none⟩) vw) := GV
            have V7 := Lib.hid VW
            have HSV := Lib.hid (specIs O x y (some ⟨g, 0, none⟩) c' vw wv (by rw [hl]; exact VW) GV.out.toRow (by rw [hl]; exact hn))
            go_wp2_with fail
            refine HSV.out.mono ?_
            rintro e b8 ⟨rfl, n8, hw8⟩
            have hb8 : Hid (Below wv.heap.size wv b8) := by rw [hw8]; exact belowN (Below.refl _ _)
            clear hw8
            rw [HV.out]
            have T8 := Lib.hid (T7.out.below hb8.out)
            have B8 := Lib.hid (B7.out.trans (hb8.out.mono (Nat.le_of_lt T7.out.var.lt)))
            have R8 := Lib.hid (R7.out.but (ButIn.of hb8.out) (.inr (Nat.zero_le _)))
            have V8 := Lib.hid (V7.out.below hb8.out)
            clear hb8 T7 B7 R7 V7 o0 o1 o2 ol HSV
            obtain ⟨p0, p1, p2, q0, q1, q2, r0, r1, r2, _⟩ := T8.out.s
            cases hb : toldB (drF (I sn)) zs.length
            · have N := Lib.hid (HB.out.trans hb)
              go_wp2_with fail
              exact bodyPost_ret (v := .tuple #[.agg #[.int .i64 0, .int .i64 0, .slice none 0 0], .int .i64 0, .bool false]) (by simp [results, Try.results21, go_sem, q0, q1, q2]) rfl (tpostN_no N.out (by rw [HX.out]; exact B8.out.trans (store3 (Nat.le_succ X) _ _ _)))
            · have HBF := Lib.hid hb
              have Y := Lib.hid (HB.out.trans hb)
              have EY := Lib.hid (TV.out.eq HBF.out)
              clear hb
              have v0 := V8.out.c0
              have v1 := V8.out.c1
              have v2 := V8.out.c2
              have vl := V8.out.lt
              go_wp2_with fail
              refine bodyPost_ret (v := .tuple #[.agg #[.int .i64 x, .int .i64 y, .slice (some ⟨g, 0, none⟩) zs.length c'], .int .i64 ((I sn).n : Nat), .bool true]) (by simp [results, Try.results21, go_sem, q0, q1, q2]) rfl ?_
              rw [HSQ.out]
              refine tpostN_yes Y.out (toldY_length _ _) rfl ?_ ?_
              · have R10 := (R8.out.wide (lo' := X + 2) (hi' := b8.heap.size) (by omega) (by have := R8.out.le; exact this) (Nat.le_refl _))
                rw [EY.out] at R10
                rw [HX.out]
                exact (R10.store3 (Y := X + 1) (Nat.lt_succ_self _) _ _ _).lower (by omega)
              · rw [HX.out]
                exact B8.out.trans (store3 (Nat.le_succ X) _ _ _)

end Go.Proofs.Ytckhdbnoihieeaa
