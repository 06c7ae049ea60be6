/-
  What is proved here: DropsOn, of the reference, as a walk. Conditions: at most 1048576 heights.
-/
import Derived.Test.YtckhdbnoihieeaaDrs
import Derived.Test.YtckhdbnoihieeaaDsp
namespace Go.Proofs.Ytckhdbnoihieeaa
open Flt Go.RowKit
attribute [local go_sem] run_store_float
set_option linter.unusedVariables false

set_option maxHeartbeats 16000000 in
set_option maxRecDepth 1000000 in
theorem specDso (x y count steps s : Int) (A : Option Addr) (c : Nat) (zs : List Nat) (tk lv : Nat) (w : World) (hr : RowF w w.heap.size A zs) (hn : zs.length ≤ 1048576) :
    Calls Try.prog 23 #[.agg #[.int .i64 x, .int .i64 y, .slice A zs.length c], .int .i64 count, .int .i64 steps, .float .f32 tk, .float .f32 lv, .int .i64 s] w (TPostN (gN (dsB x y zs count steps tk lv s) x) (gN (dsB x y zs count steps tk lv s) y) (gY (dsB x y zs count steps tk lv s) (dsR x y zs count steps tk lv s)) (gN (dsB x y zs count steps tk lv s) (itS s (2 * count.toNat))) (dsB x y zs count steps tk lv s) w) := by
  have T0 := Lib.hid (two_new w x y A zs.length c 27 27)
  have B0 : Hid (Below w.heap.size w ((w.alloc (.cells #[.int .i64 x, .int .i64 y, .slice A zs.length c] 27)).alloc (.cells #[.int .i64 0, .int .i64 0, .slice none 0 0] 27))) := ((Below.refl _ _).alloc (Nat.le_refl _) _).alloc (by simp) _
  have R0 : Hid (RowF ((w.alloc (.cells #[.int .i64 x, .int .i64 y, .slice A zs.length c] 27)).alloc (.cells #[.int .i64 0, .int .i64 0, .slice none 0 0] 27)) w.heap.size A zs) := hr.below B0.out
  clear hr
  go_enter Try.func23, Try.ntmps23
  go_wp2_with fail
  generalize ((w.alloc (.cells #[.int .i64 x, .int .i64 y, .slice A zs.length c] 27)).alloc (.cells #[.int .i64 0, .int .i64 0, .slice none 0 0] 27)) = a0 at *
  generalize hX : w.heap.size = X at *
  have HX := Lib.hid hX
  clear hX
  refine (specIs X x y A c zs a0 T0.out.var (R0.out.mono (Nat.le_of_lt T0.out.var.lt)) hn).mono ?_
  rintro e b1 ⟨rfl, n1, hw1⟩
  have hb1 : Hid (Below a0.heap.size a0 b1) := by rw [hw1]; exact belowN (Below.refl _ _)
  clear hw1
  have T1 := Lib.hid (T0.out.below hb1.out)
  have R1 : Hid (RowF b1 X A zs) := R0.out.below (hb1.out.mono (Nat.le_of_lt T0.out.var.lt))
  have B1 := Lib.hid (B0.out.trans (hb1.out.mono (Nat.le_of_lt T0.out.var.lt)))
  clear hb1 T0 R0 B0
  cases h1 : shB x y zs
  · skip
    have N := Lib.hid (show (dsB x y zs count steps tk lv s) = false from dsB_no (dsA0_1 h1))
    obtain ⟨p0, p1, p2, q0, q1, q2, r0, r1, r2, _⟩ := T1.out.s
    go_wp2_with fail
    exact bodyPost_ret (v := .tuple #[.agg #[.int .i64 0, .int .i64 0, .slice none 0 0], .int .i64 0, .bool false]) (by simp [results, Try.results23, go_sem, q0, q1, q2]) rfl (tpostN_no N.out (by rw [HX.out]; exact B1.out.trans (store3 (Nat.le_succ X) _ _ _)))
  · have H1 := Lib.hid h1
    clear h1
    go_wp2_with fail
    refine (inS_any count _ _ _).mono ?_
    rintro e w' ⟨rfl, rfl⟩
    cases h2 : inB count 0 128
    · skip
      have N := Lib.hid (show (dsB x y zs count steps tk lv s) = false from dsB_no (dsA0_2 h2))
      obtain ⟨p0, p1, p2, q0, q1, q2, r0, r1, r2, _⟩ := T1.out.s
      go_wp2_with fail
      exact bodyPost_ret (v := .tuple #[.agg #[.int .i64 0, .int .i64 0, .slice none 0 0], .int .i64 0, .bool false]) (by simp [results, Try.results23, go_sem, q0, q1, q2]) rfl (tpostN_no N.out (by rw [HX.out]; exact B1.out.trans (store3 (Nat.le_succ X) _ _ _)))
    · have H2 := Lib.hid h2
      clear h2
      go_wp2_with fail
      refine (inS_any steps _ _ _).mono ?_
      rintro e w' ⟨rfl, rfl⟩
      cases h3 : inB steps 0 128
      · skip
        have N := Lib.hid (show (dsB x y zs count steps tk lv s) = false from dsB_no (dsA0_3 h3))
        obtain ⟨p0, p1, p2, q0, q1, q2, r0, r1, r2, _⟩ := T1.out.s
        go_wp2_with fail
        exact bodyPost_ret (v := .tuple #[.agg #[.int .i64 0, .int .i64 0, .slice none 0 0], .int .i64 0, .bool false]) (by simp [results, Try.results23, go_sem, q0, q1, q2]) rfl (tpostN_no N.out (by rw [HX.out]; exact B1.out.trans (store3 (Nat.le_succ X) _ _ _)))
      · have H3 := Lib.hid h3
        clear h3
        go_wp2_with fail
        refine (specRul tk lv _).mono ?_
        rintro e w' ⟨rfl, rfl⟩
        cases h4 : ruleB tk lv
        · skip
          have N := Lib.hid (show (dsB x y zs count steps tk lv s) = false from dsB_no (dsA0_4 h4))
          obtain ⟨p0, p1, p2, q0, q1, q2, r0, r1, r2, _⟩ := T1.out.s
          go_wp2_with fail
          exact bodyPost_ret (v := .tuple #[.agg #[.int .i64 0, .int .i64 0, .slice none 0 0], .int .i64 0, .bool false]) (by simp [results, Try.results23, go_sem, q0, q1, q2]) rfl (tpostN_no N.out (by rw [HX.out]; exact B1.out.trans (store3 (Nat.le_succ X) _ _ _)))
        · have H4 := Lib.hid h4
          clear h4
          go_wp2_with fail
          refine (specSeed s _).mono ?_
          rintro e w' ⟨rfl, rfl⟩
          cases h5 : seedB s
          · skip
            have N := Lib.hid (show (dsB x y zs count steps tk lv s) = false from dsB_no (dsA0_5 h5))
            obtain ⟨p0, p1, p2, q0, q1, q2, r0, r1, r2, _⟩ := T1.out.s
            go_wp2_with fail
            exact bodyPost_ret (v := .tuple #[.agg #[.int .i64 0, .int .i64 0, .slice none 0 0], .int .i64 0, .bool false]) (by simp [results, Try.results23, go_sem, q0, q1, q2]) rfl (tpostN_no N.out (by rw [HX.out]; exact B1.out.trans (store3 (Nat.le_succ X) _ _ _)))
          · have H5 := Lib.hid h5
            clear h5
            have HSB := Lib.hid (shB_sides H1.out)
            have HXY := Lib.hid (shB_xy H1.out)
            have HM := Lib.hid (Fk.sides_bd HSB.out.1).2
            obtain ⟨sn, hsn, rfl⟩ : ∃ sn : Nat, sn ≤ 128 ∧ steps = (sn : Int) := ⟨steps.toNat, by have := inB_yes H3.out; omega, by have := inB_yes H3.out; omega⟩
            obtain ⟨cn, hcn, rfl⟩ : ∃ cn : Nat, cn ≤ 128 ∧ count = (cn : Int) := ⟨count.toNat, by have := inB_yes H2.out; omega, by have := inB_yes H2.out; omega⟩
            have hs0 : 0 ≤ s ∧ s ≤ 2147483647 := inB_yes H5.out
            have HS := Lib.hid (fun k => itS_bd s hs0.1 hs0.2 k)
            have HB : Hid ((dsB x y zs (cn : Int) (sn : Int) tk lv s) = (dsI x y zs sn tk lv s cn).isSome) := by show _ = _; unfold dsB; rw [dsA0_yes H1.out H2.out H3.out H4.out H5.out, Int.toNat_natCast, Int.toNat_natCast]; rfl
            have HR : Hid (dsR x y zs (cn : Int) (sn : Int) tk lv s = (dsI x y zs sn tk lv s cn).getD []) := by show _ = _; unfold dsR; rw [Int.toNat_natCast, Int.toNat_natCast]
            have HSH := Lib.hid (fun k ws => @dsI_sh x y zs sn tk lv s H1.out k ws)
            have I0 : Hid (dsI x y zs sn tk lv s 0 = some zs) := rfl
            have HNO := Lib.hid (fun k ws => @dsI_no x y zs ws sn tk lv s k)
            have HYES := Lib.hid (fun k ws => @dsI_yes x y zs ws sn tk lv s k)
            generalize hI : dsI x y zs sn tk lv s = I at *
            clear hI
            have H0 := Lib.hid (shB_pos H1.out)
            obtain ⟨b0, off, rfl, hbb, hcell⟩ := R1.out H0.out
            clear hbb hcell
            have t0 := T1.out.c0
            have t1 := T1.out.c1
            have t2 := T1.out.c2
            have tl := T1.out.yb
            go_wp2_with fail
            clear t0 t1 t2 tl
            refine (own_is X x y (some ⟨b0, off, none⟩) c zs b1 T1.out.var (R1.out.mono (Nat.le_of_lt T1.out.var.lt)) H0.out hn).mono ?_
            rintro e b5 ⟨g, c', rfl, RO, hb5⟩
            have T5 := Lib.hid (T1.out.below hb5.out)
            have B5 := Lib.hid (B1.out.trans (hb5.out.mono (Nat.le_of_lt T1.out.var.lt)))
            obtain ⟨G2', gl, gh, _⟩ := RO.out.toG
            have gX : X + 1 < g := by have := T1.out.yb; omega
            have hbO : Below b5.heap.size b5 (b5.alloc (.cells #[.int .i64 x, .int .i64 y, .slice (some ⟨g, 0, none⟩) zs.length c'] 27)) := (Below.refl _ _).alloc (Nat.le_refl _) _
            have VO := Lib.hid (varT_new b5 x y (some ⟨g, 0, none⟩) zs.length c' 27)
            have T6 := Lib.hid (T5.out.below hbO)
            have B6 := Lib.hid (B5.out.trans (hbO.mono (Nat.le_of_lt T5.out.var.lt)))
            have G6 := Lib.hid (G2'.but (ButIn.of hbO) (.inr (Nat.zero_le _)))
            clear T1 R1 B1 T5 B5 RO hb5 G2' gl hbO
            go_wp2_with fail
            generalize (b5.alloc (.cells #[.int .i64 x, .int .i64 y, .slice (some ⟨g, 0, none⟩) zs.length c'] 27)) = b6 at *
            generalize b5.heap.size = O at *
            have ob6 : O < b6.heap.size := VO.out.lt
            have hOg : ¬ O = g := by omega
            go_loopw [1, 5] (fun p q wr => ∃ (k j : Nat) (vs : List Nat), k + j = cn ∧ p = .int .i64 (j : Nat) ∧ q = .int .i64 (itS s (2 * k)) ∧ Hid (I k = some vs) ∧ Hid (RowG wr g vs) ∧ Hid (ButIn g (g + 1) b6 wr)) (fun p _ _ => (intOf p).toNat)
            case atStart => exact ⟨0, cn, zs, by omega, rfl, rfl, I0, G6, ButIn.refl _ _ _⟩
            case round =>
              clear I0 G6
              obtain ⟨k, j, vs, hkj, rfl, rfl, hI, hG, hB⟩ := hrel
              obtain ⟨hsv, hlv⟩ := HSH.out k vs hI.out
              have HSV := Lib.hid hsv
              have HLV := Lib.hid hlv
              clear hsv hlv
              have VX := T6.out.var.but hB.out (.inl (by omega))
              have x0' := VX.c0
              have x1' := VX.c1
              have xl := VX.lt
              have VW := VO.out.but hB.out (.inr (by omega))
              have o0 := VW.c0
              have o1 := VW.c1
              have o2 := VW.c2
              have ol := VW.lt
              have HVW := Lib.hid VW
              clear VX VW
              by_cases hlt : 0 < j
              · obtain ⟨hp0, hp1, hq0, hq1, hal, _, t, hw1, hw2⟩ := ds_place (n := zs.length) s k HXY.out.1 HXY.out.2 HSB.out.2.2 HM.out
                obtain ⟨hs1, hs2⟩ := HS.out (2 * k)
                obtain ⟨hs3, hs4⟩ := HS.out (2 * k + 1)
                obtain ⟨hs5, hs6⟩ := HS.out (2 * k + 2)
                have hz : ¬ x = 0 := by have := HXY.out.1; omega
                have hz2 : ¬ y = 0 := by have := HXY.out.2; omega
                have hwj : IntKind.i64.wrap ((j : Int) - 1) = ((j - 1 : Nat) : Int) := by rw [IntWalk.i64_in _ (by omega)]; omega
                have hj2 : 2 * (k + 1) = 2 * k + 2 := by omega
                have HX1 : Hid (dsX s x k = itS s (2 * k + 1) / 65536 % x) := rfl
                have HY1 : Hid (dsY s y k = itS s (2 * k + 2) / 65536 % y) := rfl
                have HDR := Lib.hid (fun wq (h1 : VarT wq O x y (some ⟨g, 0, none⟩) zs.length c') (h2 : RowG wq g vs) => specDrop O x y g c' zs.length vs (fun j => can .f32 (at0 vs j)) (dsA s x y k) sn tk lv wq h1 (by omega) h2 ⟨HLV.out, fun j hj => rfl⟩ HSB.out.1 HSB.out.2.1 HSB.out.2.2 hal hsn)
                go_wp2_with fail
                refine (specNext (itS s (2 * k)) hs1 hs2 wr).mono ?_
                rintro e w' ⟨rfl, rfl⟩
                rw [show nextS (itS s (2 * k)) = itS s (2 * k + 1) from rfl]
                go_wp2_with fail
                refine (specNext (itS s (2 * k + 1)) hs3 hs4 wr).mono ?_
                rintro e w' ⟨rfl, rfl⟩
                rw [show nextS (itS s (2 * k + 1)) = itS s (2 * k + 2) from rfl]
                rw [← HX1.out]
                rw [HY1.out] at hw1
                go_wp2_with fail
                refine (HDR.out wr HVW.out hG.out).mono ?_
                rintro e wv ⟨vw, rfl, TV, GV, BV⟩
                have TV2 : Hid (Told (drF (dsD x y sn tk lv s vs k)) vs.length vs.length vw) := by show _; rw [HLV.out]; exact TV.out
                have hl := TV2.out.1
                have BW := Lib.hid (hB.out.trans BV.out)
                have VW := VO.out.but BW.out (.inr (by omega))
                have HV : Hid (shB x y vw = toldB (drF (dsD x y sn tk lv s vs k)) vs.length) := by show _ = _; rw [shB_len HSV.out hl, TV2.out.fin]
                have HSQ := Lib.hid (specIs O x y (some ⟨g, 0, none⟩) c' vw wv (by rw [hl, HLV.out]; exact VW) GV.out.toRow (by rw [hl, HLV.out]; exact hn))
                have hkc : k + 1 + (cn - (k + 1)) = cn := by omega
                clear TV HDR hG hB BV o0 o1 o2 ol x0' x1' xl HVW VW hw1 hw2 HX1 HY1 hal hp0 hp1 hq0 hq1
                go_wp2_with fail
                refine HSQ.out.mono ?_
                rintro e b8 ⟨rfl, n8, hw8⟩
                have hb8 : Hid (Below wv.heap.size wv b8) := by rw [hw8]; exact belowN (Below.refl _ _)
                clear hw8 HSQ
                rw [HV.out]
                have G8 := Lib.hid (GV.out.but (ButIn.of hb8.out) (.inr (Nat.zero_le _)))
                have B8 := Lib.hid (BW.out.andB hb8.out)
                clear GV BW hb8
                cases hb : toldB (drF (dsD x y sn tk lv s vs k)) vs.length
                · have N := Lib.hid (show (dsB x y zs (cn : Int) (sn : Int) tk lv s) = false by rw [HB.out]; have := HNO.out k vs hI.out hb (cn - (k + 1)); rw [hkc] at this; rw [this]; rfl)
                  have T9 := Lib.hid (T6.out.chg (B8.out.toBelow (by omega) (Nat.succ_le_of_lt T6.out.yb)))
                  have B9 := Lib.hid (B6.out.trans (B8.out.toBelow (by omega) (Nat.le_of_lt T6.out.var.lt)))
                  obtain ⟨p0, p1, p2, q0, q1, q2, r0, r1, r2, _⟩ := T9.out.s
                  clear hb
                  go_wp2_with fail
                  exact bodyPost_ret (v := .tuple #[.agg #[.int .i64 0, .int .i64 0, .slice none 0 0], .int .i64 0, .bool false]) (by simp [results, Try.results23, go_sem, q0, q1, q2]) rfl (tpostN_no N.out (by rw [HX.out]; exact B9.out.trans (store3 (Nat.le_succ X) _ _ _)))
                · have HI2 : Hid (I (k + 1) = some vw) := by show _ = _; rw [TV2.out.eq hb]; exact HYES.out k vs hI.out hb
                  clear hb
                  go_wp2_with fail
                  go_roundw
                  case rel => exact ⟨k + 1, j - 1, vw, by omega, by go_num, by rw [hj2], HI2, G8, B8⟩
                  case measure => simp [intOf]; omega
              · have HJ : Hid (k = cn) := by show k = cn; omega
                have hI2 : Hid (I cn = some vs) := by rw [← HJ.out]; exact hI
                have Y := Lib.hid (show (dsB x y zs (cn : Int) (sn : Int) tk lv s) = true by rw [HB.out, hI2.out]; rfl)
                have HRV : Hid (dsR x y zs (cn : Int) (sn : Int) tk lv s = vs) := by show _ = _; rw [HR.out, hI2.out]; rfl
                have T9 := Lib.hid (T6.out.chg (hB.out.toBelow (by omega) (Nat.succ_le_of_lt T6.out.yb)))
                have B9 := Lib.hid (B6.out.trans (hB.out.toBelow (by omega) (Nat.le_of_lt T6.out.var.lt)))
                have R9 : Hid (RowIn wr g (g + 1) (some ⟨g, 0, none⟩) vs) := hG
                obtain ⟨p0, p1, p2, q0, q1, q2, r0, r1, r2, _⟩ := T9.out.s
                have hj0 : ¬ (0 : Int) < (j : Int) := by omega
                clear hG hB hI
                go_wp2_with fail
                refine bodyPost_ret (v := .tuple #[.agg #[.int .i64 x, .int .i64 y, .slice (some ⟨g, 0, none⟩) zs.length c'], .int .i64 (itS s (2 * k)), .bool true]) (by simp [results, Try.results23, go_sem, q0, q1, q2]) rfl ?_
                rw [HRV.out]
                refine tpostN_yes Y.out HLV.out (by show itS s (2 * cn) = _; rw [HJ.out]) ?_ ?_
                · have R10 := (R9.out.wide (lo' := X + 2) (hi' := wr.heap.size) (by omega) (by have := R9.out.le; exact this) (Nat.le_refl _))
                  rw [HX.out]
                  exact (R10.store3 (Y := X + 1) (Nat.lt_succ_self _) _ _ _).lower (by omega)
                · rw [HX.out]
                  exact B9.out.trans (store3 (Nat.le_succ X) _ _ _)

end Go.Proofs.Ytckhdbnoihieeaa
