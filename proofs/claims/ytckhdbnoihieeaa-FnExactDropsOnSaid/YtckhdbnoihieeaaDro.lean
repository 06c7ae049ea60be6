/-
  What is proved here: DropOn, of the program, as a walk. Conditions: at most 1048576 heights.
-/
import Derived.Test.YtckhdbnoihieeaaDrl
import Derived.Deep.CutRange
namespace Go.Proofs.Ytckhdbnoihieeaa
open Flt Go.RowKit
attribute [local go_sem] run_store_float
set_option linter.unusedVariables false

set_option maxHeartbeats 16000000 in
set_option maxRecDepth 1000000 in
theorem implDro (x y px py steps : Int) (A : Option Addr) (c : Nat) (zs : List Nat) (tk lv : Nat) (w : World) (hr : RowF w w.heap.size A zs) (hn : zs.length ≤ 1048576) :
    Calls Try.prog 22 #[.agg #[.int .i64 x, .int .i64 y, .slice A zs.length c], .int .i64 px, .int .i64 py, .int .i64 steps, .float .f32 tk, .float .f32 lv] w (TPostN (gN (drpB x y zs px py steps tk lv) x) (gN (drpB x y zs px py steps tk lv) y) (gY (drpB x y zs px py steps tk lv) (toldY (drF (drpS x y zs px py steps tk lv)) zs.length)) (gN (drpB x y zs px py steps tk lv) ((drpS x y zs px py steps tk lv).n : Nat)) (drpB x y zs px py steps tk lv) w) := by
  have T0 := Lib.hid (two_new w x y A zs.length c 27 27)
  have B0 : Hid (Below w.heap.size w ((w.alloc (.cells #[.int .i64 x, .int .i64 y, .slice A zs.length c] 27)).alloc (.cells #[.int .i64 0, .int .i64 0, .slice none 0 0] 27))) := ((Below.refl _ _).alloc (Nat.le_refl _) _).alloc (by simp) _
  have R0 : Hid (RowF ((w.alloc (.cells #[.int .i64 x, .int .i64 y, .slice A zs.length c] 27)).alloc (.cells #[.int .i64 0, .int .i64 0, .slice none 0 0] 27)) w.heap.size A zs) := hr.below B0.out
  clear hr
  cases g1 : inB px 0 (wrap64 (x - 1))
  · have G := Lib.hid g1
    go_enter Try.func22, Try.ntmps22
    go_wp2_with (first | (go_at_call 61; with_reducible refine (within_any px _ _ _).mono ?_; rintro e w' ⟨rfl, rfl⟩; rw [g1]) | (go_at_call 61; refine (within_any py _ _ _).mono ?_; rintro e w' ⟨rfl, rfl⟩; rw [g2]))
    generalize ((w.alloc (.cells #[.int .i64 x, .int .i64 y, .slice A zs.length c] 27)).alloc (.cells #[.int .i64 0, .int .i64 0, .slice none 0 0] 27)) = a0 at *
    generalize hX : w.heap.size = X at *
    have HX := Lib.hid hX
    clear hX
    refine (implValid x y A c zs a0 (R0.out.mono (Nat.le_of_lt T0.out.var.lt)) hn).mono ?_
    rintro e b1 ⟨rfl, hb1⟩
    have T1 := Lib.hid (T0.out.below hb1.out)
    have R1 : Hid (RowF b1 X A zs) := R0.out.below (hb1.out.mono (Nat.le_of_lt T0.out.var.lt))
    have B1 := Lib.hid (B0.out.trans (hb1.out.mono (Nat.le_of_lt T0.out.var.lt)))
    clear hb1 T0 R0 B0
    cases h1 : shB x y zs
    · skip
      have N := Lib.hid (show (drpB x y zs px py steps tk lv) = false from drpB_no (drpA_1 h1))
      obtain ⟨p0, p1, p2, q0, q1, q2, r0, r1, r2, _⟩ := T1.out.s
      go_wp2_with fail
      exact bodyPost_ret (v := .tuple #[.agg #[.int .i64 0, .int .i64 0, .slice none 0 0], .int .i64 0, .bool false]) (by simp [results, Try.results22, go_sem, q0, q1, q2]) rfl (tpostN_no N.out (by rw [HX.out]; exact B1.out.trans (store3 (Nat.le_succ X) _ _ _)))
    · skip
      have N := Lib.hid (show (drpB x y zs px py steps tk lv) = false from drpB_no (drpA_2 h1 G.out))
      obtain ⟨p0, p1, p2, q0, q1, q2, r0, r1, r2, _⟩ := T1.out.s
      go_wp2_with fail
      exact bodyPost_ret (v := .tuple #[.agg #[.int .i64 0, .int .i64 0, .slice none 0 0], .int .i64 0, .bool false]) (by simp [results, Try.results22, go_sem, q0, q1, q2]) rfl (tpostN_no N.out (by rw [HX.out]; exact B1.out.trans (store3 (Nat.le_succ X) _ _ _)))
  · have GG1 := Lib.hid g1
    cases g2 : inB py 0 (wrap64 (y - 1))
    · have G := Lib.hid g2
      go_enter Try.func22, Try.ntmps22
      go_wp2_with (first | (go_at_call 61; with_reducible refine (within_any px _ _ _).mono ?_; rintro e w' ⟨rfl, rfl⟩; rw [g1]) | (go_at_call 61; refine (within_any py _ _ _).mono ?_; rintro e w' ⟨rfl, rfl⟩; rw [g2]))
      generalize ((w.alloc (.cells #[.int .i64 x, .int .i64 y, .slice A zs.length c] 27)).alloc (.cells #[.int .i64 0, .int .i64 0, .slice none 0 0] 27)) = a0 at *
      generalize hX : w.heap.size = X at *
      have HX := Lib.hid hX
      clear hX
      refine (implValid x y A c zs a0 (R0.out.mono (Nat.le_of_lt T0.out.var.lt)) hn).mono ?_
      rintro e b1 ⟨rfl, hb1⟩
      have T1 := Lib.hid (T0.out.below hb1.out)
      have R1 : Hid (RowF b1 X A zs) := R0.out.below (hb1.out.mono (Nat.le_of_lt T0.out.var.lt))
      have B1 := Lib.hid (B0.out.trans (hb1.out.mono (Nat.le_of_lt T0.out.var.lt)))
      clear hb1 T0 R0 B0
      cases h1 : shB x y zs
      · skip
        have N := Lib.hid (show (drpB x y zs px py steps tk lv) = false from drpB_no (drpA_1 h1))
        obtain ⟨p0, p1, p2, q0, q1, q2, r0, r1, r2, _⟩ := T1.out.s
        go_wp2_with fail
        exact bodyPost_ret (v := .tuple #[.agg #[.int .i64 0, .int .i64 0, .slice none 0 0], .int .i64 0, .bool false]) (by simp [results, Try.results22, go_sem, q0, q1, q2]) rfl (tpostN_no N.out (by rw [HX.out]; exact B1.out.trans (store3 (Nat.le_succ X) _ _ _)))
      · skip
        have N := Lib.hid (show (drpB x y zs px py steps tk lv) = false from drpB_no (drpA_3 h1 G.out))
        obtain ⟨p0, p1, p2, q0, q1, q2, r0, r1, r2, _⟩ := T1.out.s
        go_wp2_with fail
        exact bodyPost_ret (v := .tuple #[.agg #[.int .i64 0, .int .i64 0, .slice none 0 0], .int .i64 0, .bool false]) (by simp [results, Try.results22, go_sem, q0, q1, q2]) rfl (tpostN_no N.out (by rw [HX.out]; exact B1.out.trans (store3 (Nat.le_succ X) _ _ _)))
    · have GG2 := Lib.hid g2
      go_enter Try.func22, Try.ntmps22
      go_wp2_with (first | (go_at_call 61; with_reducible refine (within_any px _ _ _).mono ?_; rintro e w' ⟨rfl, rfl⟩; rw [g1]) | (go_at_call 61; refine (within_any py _ _ _).mono ?_; rintro e w' ⟨rfl, rfl⟩; rw [g2]))
      generalize ((w.alloc (.cells #[.int .i64 x, .int .i64 y, .slice A zs.length c] 27)).alloc (.cells #[.int .i64 0, .int .i64 0, .slice none 0 0] 27)) = a0 at *
      generalize hX : w.heap.size = X at *
      have HX := Lib.hid hX
      clear hX
      refine (implValid x y A c zs a0 (R0.out.mono (Nat.le_of_lt T0.out.var.lt)) hn).mono ?_
      rintro e b1 ⟨rfl, hb1⟩
      have T1 := Lib.hid (T0.out.below hb1.out)
      have R1 : Hid (RowF b1 X A zs) := R0.out.below (hb1.out.mono (Nat.le_of_lt T0.out.var.lt))
      have B1 := Lib.hid (B0.out.trans (hb1.out.mono (Nat.le_of_lt T0.out.var.lt)))
      clear hb1 T0 R0 B0
      clear g1 g2
      cases h1 : shB x y zs
      · skip
        have N := Lib.hid (show (drpB x y zs px py steps tk lv) = false from drpB_no (drpA_1 h1))
        obtain ⟨p0, p1, p2, q0, q1, q2, r0, r1, r2, _⟩ := T1.out.s
        go_wp2_with fail
        exact bodyPost_ret (v := .tuple #[.agg #[.int .i64 0, .int .i64 0, .slice none 0 0], .int .i64 0, .bool false]) (by simp [results, Try.results22, go_sem, q0, q1, q2]) rfl (tpostN_no N.out (by rw [HX.out]; exact B1.out.trans (store3 (Nat.le_succ X) _ _ _)))
      · have H1 := Lib.hid h1
        clear h1
        go_wp2_with fail
        refine (implDrp steps tk lv b1).mono ?_
        rintro e b2 ⟨rfl, rfl⟩
        cases h4 : inB steps 0 128
        · skip
          have N := Lib.hid (show (drpB x y zs px py steps tk lv) = false from drpB_no (drpA_4 h4))
          obtain ⟨p0, p1, p2, q0, q1, q2, r0, r1, r2, _⟩ := T1.out.s
          go_wp2_with fail
          exact bodyPost_ret (v := .tuple #[.agg #[.int .i64 0, .int .i64 0, .slice none 0 0], .int .i64 0, .bool false]) (by simp [results, Try.results22, go_sem, q0, q1, q2]) rfl (tpostN_no N.out (by rw [HX.out]; exact B1.out.trans (store3 (Nat.le_succ X) _ _ _)))
        · have H4 := Lib.hid h4
          clear h4
          cases h5 : ruleB tk lv
          · skip
            have N := Lib.hid (show (drpB x y zs px py steps tk lv) = false from drpB_no (drpA_5 h5))
            obtain ⟨p0, p1, p2, q0, q1, q2, r0, r1, r2, _⟩ := T1.out.s
            go_wp2_with fail
            exact bodyPost_ret (v := .tuple #[.agg #[.int .i64 0, .int .i64 0, .slice none 0 0], .int .i64 0, .bool false]) (by simp [results, Try.results22, go_sem, q0, q1, q2]) rfl (tpostN_no N.out (by rw [HX.out]; exact B1.out.trans (store3 (Nat.le_succ X) _ _ _)))
          · have H5 := Lib.hid h5
            clear h5
            have HSB := Lib.hid (shB_sides H1.out)
            have HPL := drp_place H1.out GG1.out GG2.out
            obtain ⟨sn, hsn, rfl⟩ : ∃ sn : Nat, sn ≤ 128 ∧ steps = (sn : Int) := ⟨steps.toNat, by have := inB_yes H4.out; omega, by have := inB_yes H4.out; omega⟩
            obtain ⟨a0', t, hal, hpa, hw1, hw2⟩ := HPL
            have HB : Hid (drpB x y zs px py (sn : Int) tk lv = toldB (drF (drI tk lv x y (dr0 zs a0') sn)) zs.length) := by show _ = _; unfold drpB; rw [drpA_yes H1.out GG1.out GG2.out H4.out H5.out, drpS_eq hpa]; rfl
            have HSQ : Hid (drpS x y zs px py (sn : Int) tk lv = drI tk lv x y (dr0 zs a0') sn) := drpS_eq hpa
            have H0 := Lib.hid (shB_pos H1.out)
            obtain ⟨b0, off, rfl, hbb, hcell⟩ := R1.out H0.out
            clear hbb hcell hpa
            have t0 := T1.out.c0
            have t1 := T1.out.c1
            have t2 := T1.out.c2
            have tl := T1.out.yb
            go_wp2_with fail
            clear t0 t1 t2 tl
            refine (copyOf_is x y (some ⟨b0, off, none⟩) c zs b1 (R1.out.mono (Nat.le_of_lt T1.out.var.lt)) H0.out hn).mono ?_
            rintro e b5 ⟨g, c', rfl, RO, hb5⟩
            have T5 := Lib.hid (T1.out.below hb5.out)
            have R5 : Hid (RowF b5 X (some ⟨b0, off, none⟩) zs) := R1.out.below (hb5.out.mono (Nat.le_of_lt T1.out.var.lt))
            have B5 := Lib.hid (B1.out.trans (hb5.out.mono (Nat.le_of_lt T1.out.var.lt)))
            obtain ⟨G2', gl, gh, _⟩ := RO.out.toG
            have gX : X + 1 < g := by have := T1.out.yb; omega
            have hbO : Below b5.heap.size b5 (b5.alloc (.cells #[.int .i64 x, .int .i64 y, .slice (some ⟨g, 0, none⟩) zs.length c'] 27)) := (Below.refl _ _).alloc (Nat.le_refl _) _
            have VO := Lib.hid (varT_new b5 x y (some ⟨g, 0, none⟩) zs.length c' 27)
            have T6 := Lib.hid (T5.out.below hbO)
            have B6 := Lib.hid (B5.out.trans (hbO.mono (Nat.le_of_lt T5.out.var.lt)))
            have G6 := Lib.hid (G2'.but (ButIn.of hbO) (.inr (Nat.zero_le _)))
            have x0' := T6.out.c0
            have x0l := T6.out.var.lt
            have x0c := T5.out.c0
            have x0k := T5.out.var.lt
            have DI : Hid (∀ j, j < zs.length → (fun j => can .f32 (at0 zs j)) j = (dr0 zs a0').f j) := fun _ _ => rfl
            have HT0 : Hid (Told (dr0 zs a0').f zs.length zs.length zs) := ⟨rfl, fun j hj => rfl⟩
            clear T1 R1 B1 T5 R5 B5 RO hb5 G2' gl hbO DI
            go_wp2_with fail
            generalize (b5.alloc (.cells #[.int .i64 x, .int .i64 y, .slice (some ⟨g, 0, none⟩) zs.length c'] 27)) = b6 at *
            generalize b5.heap.size = O at *
            have ob6 : O < b6.heap.size := VO.out.lt
            have hOg : ¬ O = g := by omega
            have hgO : ¬ g = O := by omega
            clear x0' x0l x0c x0k
            have I0 : Hid ((drI tk lv x y (dr0 zs a0') 0).n = 0 ∧ (drI tk lv x y (dr0 zs a0') 0).a = a0' ∧ (drI tk lv x y (dr0 zs a0') 0).f = (dr0 zs a0').f ∧ (drI tk lv x y (dr0 zs a0') 0).c = can .f32 0) := ⟨rfl, rfl, rfl, rfl⟩
            have HSTOP := Lib.hid (fun k => @drI_stop tk lv x y (dr0 zs a0') k)
            have HGO := Lib.hid (fun k => @drI_go tk lv x y (dr0 zs a0') k)
            generalize hI : drI tk lv x y (dr0 zs a0') = I at *
            clear hI
            go_loopw [17, 18, 19] (fun p q r wr => ∃ (k ca : Nat) (vs : List Nat), k ≤ sn ∧ (I k).n = k ∧ (I k).a < zs.length ∧ p = .int .i64 ((I k).a : Nat) ∧ q = .int .i64 (k : Nat) ∧ r = .float .f32 ca ∧ Hid (Told (I k).f zs.length zs.length vs) ∧ Hid (can .f32 ca = (I k).c) ∧ Hid (RowG wr g vs) ∧ Hid (ButIn g (g + 1) b6 wr)) (fun _ q _ _ => sn - (intOf q).toNat)
            case atStart => exact ⟨0, 0, zs, Nat.zero_le _, I0.out.1, by rw [I0.out.2.1]; exact hal, by rw [I0.out.2.1], rfl, rfl, by rw [I0.out.2.2.1]; exact HT0, by rw [I0.out.2.2.2]; rfl, G6, ButIn.refl _ _ _⟩
            case round =>
              clear I0 HT0 G6
              obtain ⟨k, ca, vs, hk, hkn, ha, rfl, rfl, rfl, hT, hA, hG, hB⟩ := hrel
              have HKN := Lib.hid hkn
              clear hkn
              obtain ⟨a, hae⟩ : ∃ a, a = (I k).a := ⟨_, rfl⟩
              have HAE := Lib.hid hae
              rw [← hae] at ha ⊢
              clear hae
              have VW := VO.out.but hB.out (.inr (by omega))
              have o0 := VW.c0
              have o1 := VW.c1
              have o2 := VW.c2
              have ol := VW.lt
              clear VW
              by_cases hlt : k < sn
              · have HLO := implLow x y (some ⟨g, 0, none⟩) c' vs a (I k).f wr hG.out.toRow HSB.out.1 HSB.out.2.1 (by rw [hT.out.1]; exact HSB.out.2.2) (by rw [hT.out.1]; exact ha) (by rw [hT.out.1]; exact hT.out)
                rw [hT.out.1] at HLO
                have HLW := Lib.hid HLO
                have hbn : lowB (I k).f x y a < zs.length := lowF_lt ha (fun m hm => by obtain ⟨j, h1, h2, _⟩ := side_at HSB.out.2.1 (by omega) (by have := HSB.out.2.2; omega) HSB.out.2.2 hm; exact ⟨j, h1, h2⟩) _ (Nat.le_refl _)
                clear HLO
                go_wp2_with fail
                refine HLW.out.mono ?_
                rintro e wz ⟨rfl, hbz⟩
                obtain ⟨b, hbe⟩ : ∃ b, b = lowB (I k).f x y a := ⟨_, rfl⟩
                have HBE := Lib.hid hbe
                rw [← hbe] at hbn ⊢
                have hGr := Lib.hid (hG.out.but (ButIn.of hbz.out) (.inr (Nat.zero_le _)))
                have hBr := Lib.hid (hB.out.andB hbz.out)
                have VW := VO.out.but hBr.out (.inr (by omega))
                have o0 := VW.c0
                have o1 := VW.c1
                have o2 := VW.c2
                have ol := VW.lt
                obtain ⟨hg1, hg2⟩ := hGr.out.cell (k := a) (by rw [hT.out.1]; exact ha)
                obtain ⟨hg3, hg4⟩ := hGr.out.cell (k := b) (by rw [hT.out.1]; exact hbn)
                clear hbe hbz hG hB HLW VW
                by_cases hba : b = a
                · have HST : Hid (I sn = I k) := by
                    show _ = _
                    have := HSTOP.out k HKN.out (by rw [← HAE.out, ← HBE.out]; exact hba) (sn - k)
                    rwa [show k + (sn - k) = sn by omega] at this
                  have hbb : (((b : Nat) : Int) != ((a : Nat) : Int)) = false := by rw [hba]; simp
                  rw [hbb]
                  clear hbb hg3 hg4
                  go_wp2_with ((with_reducible refine upon_bin rfl ?_); intro r7 n7 w7 e7)
                  have TV : Hid (Told (drF (I sn)) zs.length zs.length (vs.set a r7)) := by
                    show Told _ _ _ _
                    rw [HST.out]
                    show Told (updO (I k).f (I k).a _) _ _ _
                    rw [← HAE.out]
                    exact hT.out.upd ha (by rw [e7.out, hA.out, hT.out.2 a ha])
                  have HN : Hid (((I sn).n : Nat) = k) := by show _ = _; rw [HST.out, HKN.out]
                  generalize hwv : World.setCell _ _ _ = wv
                  have GV : Hid (RowG wv g (vs.set a r7)) := by show RowG _ _ _; rw [← hwv]; exact (hGr.out.but (ButIn.of (belowN (Below.refl _ _))) (.inr (Nat.zero_le _))).set (by rw [hT.out.1]; exact ha)
                  have BV : Hid (ButIn g (g + 1) b6 wv) := by show ButIn _ _ _ _; rw [← hwv]; exact (hBr.out.drewN).set (q := ⟨g, a, none⟩) (Nat.le_refl _) (Nat.lt_succ_self _) _
                  clear hwv e7 w7 hg1 hg2 o0 o1 o2 ol hT hA hGr hBr HAE HST
                  generalize vs.set a r7 = vw at *
                  have hl := TV.out.1
                  have VW := VO.out.but BV.out (.inr (by omega))
                  have o0 := VW.c0
                  have o1 := VW.c1
                  have o2 := VW.c2
                  have ol := VW.lt
                  have HV : Hid (shB x y vw = toldB (drF (I sn)) zs.length) := by show _ = _; rw [shB_len H1.out hl, TV.out.fin]
                  have T7 := Lib.hid (T6.out.chg (BV.out.toBelow (by omega) (Nat.succ_le_of_lt T6.out.yb)))
                  have B7 := Lib.hid (B6.out.trans (BV.out.toBelow (by omega) (Nat.le_of_lt T6.out.var.lt)))
                  have R7 : Hid (RowIn wv g (g + 1) (some ⟨g, 0, none⟩) vw) := GV
                  have V7 := Lib.hid VW
                  have HSV := implValid x y (some ⟨g, 0, none⟩) c' vw wv GV.out.toRow (by rw [hl]; exact hn)
                  rw [hl] at HSV
                  refine HSV.mono ?_
                  rintro e b8 ⟨rfl, hb8⟩
                  rw [HV.out]
                  have T8 := Lib.hid (T7.out.below hb8.out)
                  have B8 := Lib.hid (B7.out.trans (hb8.out.mono (Nat.le_of_lt T7.out.var.lt)))
                  have R8 := Lib.hid (R7.out.but (ButIn.of hb8.out) (.inr (Nat.zero_le _)))
                  have V8 := Lib.hid (V7.out.below hb8.out)
                  clear hb8 T7 B7 R7 V7 o0 o1 o2 ol HSV
                  obtain ⟨p0, p1, p2, q0, q1, q2, r0, r1, r2, _⟩ := T8.out.s
                  cases hb : toldB (drF (I sn)) zs.length
                  · have N := Lib.hid (HB.out.trans hb)
                    go_wp2_with fail
                    exact bodyPost_ret (v := .tuple #[.agg #[.int .i64 0, .int .i64 0, .slice none 0 0], .int .i64 0, .bool false]) (by simp [results, Try.results22, go_sem, q0, q1, q2]) rfl (tpostN_no N.out (by rw [HX.out]; exact B8.out.trans (store3 (Nat.le_succ X) _ _ _)))
                  · have HBF := Lib.hid hb
                    have Y := Lib.hid (HB.out.trans hb)
                    have EY := Lib.hid (TV.out.eq HBF.out)
                    clear hb
                    have v0 := V8.out.c0
                    have v1 := V8.out.c1
                    have v2 := V8.out.c2
                    have vl := V8.out.lt
                    go_wp2_with fail
                    refine bodyPost_ret (v := .tuple #[.agg #[.int .i64 x, .int .i64 y, .slice (some ⟨g, 0, none⟩) zs.length c'], .int .i64 (k : Nat), .bool true]) (by simp [results, Try.results22, go_sem, q0, q1, q2]) rfl ?_
                    rw [HSQ.out]
                    refine tpostN_yes Y.out (toldY_length _ _) (by rw [HN.out]) ?_ ?_
                    · have R10 := (R8.out.wide (lo' := X + 2) (hi' := b8.heap.size) (by omega) (by have := R8.out.le; exact this) (Nat.le_refl _))
                      rw [EY.out] at R10
                      rw [HX.out]
                      exact (R10.store3 (Y := X + 1) (Nat.lt_succ_self _) _ _ _).lower (by omega)
                    · rw [HX.out]
                      exact B8.out.trans (store3 (Nat.le_succ X) _ _ _)
                · have hbb : (((b : Nat) : Int) != ((a : Nat) : Int)) = true := by simp; omega
                  rw [hbb]
                  have HSG : Hid (I (k + 1) = drT tk lv b (I k)) := by
                    show _ = _
                    have := HGO.out k HKN.out (by rw [← HAE.out, ← HBE.out]; exact hba)
                    rw [← HAE.out, ← HBE.out] at this
                    exact this
                  clear hbb
                  go_wp2_with fail
                  rename_i K1 hK1
                  go_cut [22] from 59 to 82 (fun s wc => ∃ rx : Nat, s = .float .f32 rx ∧ Hid (can .f32 rx = drX tk b (I k)) ∧ Hid (RowG wc g vs) ∧ Hid (ButIn g (g + 1) b6 wc))
                  case first =>
                    clear hK1
                    go_region_with ((with_reducible refine upon_bin rfl ?_); intro _ _ _ _)
                    all_goals
                      rename_i r1 n1 w1 e1 r2 n2 w2 e2
                      (try simp only [Act.put, List.getElem_toArray, List.getElem_cons_succ, List.getElem_cons_zero, List.setIfInBounds_toArray, List.set_cons_zero, List.set_cons_succ])
                      go_wp2_with fail
                      go_meet
                      case rel => exact ⟨r2, rfl, by show _ = _; rw [e2.out, e1.out, hT.out.2 a ha, hT.out.2 b hbn, HAE.out]; rfl, hGr.out.but (ButIn.of (belowN (Below.refl _ _))) (.inr (Nat.zero_le _)), hBr.out.drewN⟩
                  case rest =>
                    clear hGr hBr hg1 hg2 hg3 hg4 o0 o1 o2 ol
                    obtain ⟨rx, rfl, hX, hGr, hBr⟩ := hcut
                    have o2 := (VO.out.but hBr.out (.inr (by omega))).c2
                    have ol := (VO.out.but hBr.out (.inr (by omega))).lt
                    obtain ⟨hg1, hg2⟩ := hGr.out.cell (k := a) (by rw [hT.out.1]; exact ha)
                    go_wp2_with ((with_reducible refine upon_bin rfl ?_); intro _ _ _ _)
                    rename_i r2 n2 w2 e2 r3 n3 w3 e3 r4 n4 w4 e4 r5 n5 w5 e5 r6 n6 w6 e6
                    have h2 : can .f32 r2 = fop .sub .f32 ((I k).f a) (drX tk b (I k)) := by rw [e2.out, hT.out.2 a ha, hX.out]
                    have HC : Hid (can .f32 r3 = drC tk b (I k)) := by show _ = _; rw [e3.out, hA.out, hX.out]; rfl
                    have HY : Hid (can .f32 r4 = drY tk lv b (I k)) := by show _ = _; rw [e4.out, HC.out]; rfl
                    have hga : drG tk b (I k) a = fop .sub .f32 ((I k).f a) (drX tk b (I k)) := by unfold drG; rw [← HAE.out]; unfold updO; rw [if_pos rfl]
                    have h5 : can .f32 r5 = fop .add .f32 (drG tk b (I k) a) (drY tk lv b (I k)) := by rw [e5.out, HY.out, h2, hga]
                    have NT : Hid (Told (I (k + 1)).f zs.length zs.length ((vs.set a r2).set a r5)) := by
                      show Told _ _ _ _
                      rw [HSG.out]
                      show Told (updO (updO (I k).f (I k).a _) (I k).a (fop .add .f32 (drG tk b (I k) (I k).a) _)) _ _ _
                      rw [← HAE.out]
                      exact (hT.out.upd ha h2).upd ha h5
                    have N5 : Hid (can .f32 r6 = (I (k + 1)).c) := by show _ = _; rw [e6.out, HC.out, HY.out, HSG.out]; rfl
                    have N1 : Hid ((I (k + 1)).n = k + 1) := by show _; rw [HSG.out]; show (I k).n + 1 = _; rw [HKN.out]
                    have NA : Hid ((I (k + 1)).a = b) := by show _; rw [HSG.out]; rfl
                    have NG := Lib.hid (fun n1 n2 n3 => Lib.hid (((((hGr.out.but (ButIn.of (belowN (n := n1) (Below.refl _ _))) (.inr (Nat.zero_le _))).set (k := a) (u := r2) (by rw [hT.out.1]; exact ha)).but (ButIn.of (belowN (n := n2) (Below.refl _ _))) (.inr (Nat.zero_le _))).set (k := a) (u := r5) (by rw [List.length_set, hT.out.1]; exact ha)).but (ButIn.of (belowN (n := n3) (Below.refl _ _))) (.inr (Nat.zero_le _))))
                    have NB := Lib.hid (fun n1 n2 n3 => Lib.hid (((((hBr.out.drewN (n := n1)).set (q := ⟨g, a, none⟩) (Nat.le_refl _) (Nat.lt_succ_self _) (.float .f32 r2)).drewN (n := n2)).set (q := ⟨g, a, none⟩) (Nat.le_refl _) (Nat.lt_succ_self _) (.float .f32 r5)).drewN (n := n3)))
                    clear e2 e3 e4 e5 e6 w2 w3 w4 w5 w6 h2 h5 hga hg1 hg2 o2 ol
                    go_roundw
                    case rel => exact ⟨k + 1, r6, _, by omega, N1.out, by rw [NA.out]; exact hbn, by rw [NA.out], by go_num, rfl, NT, N5, NG.out _ _ _, NB.out _ _ _⟩
                    case measure => simp [intOf]; omega
              · have HE : Hid (k = sn) := by show k = sn; omega
                have HST : Hid (I sn = I k) := by show _ = _; rw [HE.out]
                obtain ⟨hg1, hg2⟩ := hG.out.cell (k := a) (by rw [hT.out.1]; exact ha)
                go_wp2_with ((with_reducible refine upon_bin rfl ?_); intro r7 n7 w7 e7)
                have TV : Hid (Told (drF (I sn)) zs.length zs.length (vs.set a r7)) := by
                  show Told _ _ _ _
                  rw [HST.out]
                  show Told (updO (I k).f (I k).a _) _ _ _
                  rw [← HAE.out]
                  exact hT.out.upd ha (by rw [e7.out, hA.out, hT.out.2 a ha])
                have HN : Hid (((I sn).n : Nat) = k) := by show _ = _; rw [HST.out, HKN.out]
                generalize hwv : World.setCell _ _ _ = wv
                have GV : Hid (RowG wv g (vs.set a r7)) := by show RowG _ _ _; rw [← hwv]; exact (hG.out.but (ButIn.of (belowN (Below.refl _ _))) (.inr (Nat.zero_le _))).set (by rw [hT.out.1]; exact ha)
                have BV : Hid (ButIn g (g + 1) b6 wv) := by show ButIn _ _ _ _; rw [← hwv]; exact (hB.out.drewN).set (q := ⟨g, a, none⟩) (Nat.le_refl _) (Nat.lt_succ_self _) _
                clear hwv e7 w7 hg1 hg2 o0 o1 o2 ol hT hA hG hB HAE HST
                generalize vs.set a r7 = vw at *
                have hl := TV.out.1
                have VW := VO.out.but BV.out (.inr (by omega))
                have o0 := VW.c0
                have o1 := VW.c1
                have o2 := VW.c2
                have ol := VW.lt
                have HV : Hid (shB x y vw = toldB (drF (I sn)) zs.length) := by show _ = _; rw [shB_len H1.out hl, TV.out.fin]
                have T7 := Lib.hid (T6.out.chg (BV.out.toBelow (by omega) (Nat.succ_le_of_lt T6.out.yb)))
                have B7 := Lib.hid (B6.out.trans (BV.out.toBelow (by omega) (Nat.le_of_lt T6.out.var.lt)))
                have R7 : Hid (RowIn wv g (g + 1) (some ⟨g, 0, none⟩) vw) := GV
                have V7 := Lib.hid VW
                have HSV := implValid x y (some ⟨g, 0, none⟩) c' vw wv GV.out.toRow (by rw [hl]; exact hn)
                rw [hl] at HSV
                refine HSV.mono ?_
                rintro e b8 ⟨rfl, hb8⟩
                rw [HV.out]
                have T8 := Lib.hid (T7.out.below hb8.out)
                have B8 := Lib.hid (B7.out.trans (hb8.out.mono (Nat.le_of_lt T7.out.var.lt)))
                have R8 := Lib.hid (R7.out.but (ButIn.of hb8.out) (.inr (Nat.zero_le _)))
                have V8 := Lib.hid (V7.out.below hb8.out)
                clear hb8 T7 B7 R7 V7 o0 o1 o2 ol HSV
                obtain ⟨p0, p1, p2, q0, q1, q2, r0, r1, r2, _⟩ := T8.out.s
                cases hb : toldB (drF (I sn)) zs.length
                · have N := Lib.hid (HB.out.trans hb)
                  go_wp2_with fail
                  exact bodyPost_ret (v := .tuple #[.agg #[.int .i64 0, .int .i64 0, .slice none 0 0], .int .i64 0, .bool false]) (by simp [results, Try.results22, go_sem, q0, q1, q2]) rfl (tpostN_no N.out (by rw [HX.out]; exact B8.out.trans (store3 (Nat.le_succ X) _ _ _)))
                · have HBF := Lib.hid hb
                  have Y := Lib.hid (HB.out.trans hb)
                  have EY := Lib.hid (TV.out.eq HBF.out)
                  clear hb
                  have v0 := V8.out.c0
                  have v1 := V8.out.c1
                  have v2 := V8.out.c2
                  have vl := V8.out.lt
                  go_wp2_with fail
                  refine bodyPost_ret (v := .tuple #[.agg #[.int .i64 x, .int .i64 y, .slice (some ⟨g, 0, none⟩) zs.length c'], .int .i64 (k : Nat), .bool true]) (by simp [results, Try.results22, go_sem, q0, q1, q2]) rfl ?_
                  rw [HSQ.out]
                  refine tpostN_yes Y.out (toldY_length _ _) (by rw [HN.out]) ?_ ?_
                  · have R10 := (R8.out.wide (lo' := X + 2) (hi' := b8.heap.size) (by omega) (by have := R8.out.le; exact this) (Nat.le_refl _))
                    rw [EY.out] at R10
                    rw [HX.out]
                    exact (R10.store3 (Y := X + 1) (Nat.lt_succ_self _) _ _ _).lower (by omega)
                  · rw [HX.out]
                    exact B8.out.trans (store3 (Nat.le_succ X) _ _ _)

end Go.Proofs.Ytckhdbnoihieeaa
