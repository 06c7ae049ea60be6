/-
  What is proved here: TalusStep, of the reference, as a walk. Conditions: at most 1048576 heights.
-/
import Derived.Test.YtckhdbnoihieeaaTac
import Derived.Deep.CutRange
namespace Go.Proofs.Ytckhdbnoihieeaa
open Flt Go.RowKit
attribute [local go_sem] run_store_float
set_option linter.unusedVariables false

set_option maxHeartbeats 16000000 in
set_option maxRecDepth 1000000 in
theorem specTal (x y : Int) (A : Option Addr) (c : Nat) (zs : List Nat) (st sh : Nat) (w : World) (hr : RowF w w.heap.size A zs) (hn : zs.length ≤ 1048576) :
    Calls Try.prog 18 #[.agg #[.int .i64 x, .int .i64 y, .slice A zs.length c], .float .f32 st, .float .f32 sh] w (TPostF (gN (talB x y zs st sh) x) (gN (talB x y zs st sh) y) (gY (talB x y zs st sh) (toldY (talO zs st sh x y zs.length).1 zs.length)) (gV (talB x y zs st sh) (talO zs st sh x y zs.length).2) (talB x y zs st sh) w) := by
  have T0 := Lib.hid (two_new w x y A zs.length c 27 27)
  have B0 : Hid (Below w.heap.size w ((w.alloc (.cells #[.int .i64 x, .int .i64 y, .slice A zs.length c] 27)).alloc (.cells #[.int .i64 0, .int .i64 0, .slice none 0 0] 27))) := ((Below.refl _ _).alloc (Nat.le_refl _) _).alloc (by simp) _
  have R0 : Hid (RowF ((w.alloc (.cells #[.int .i64 x, .int .i64 y, .slice A zs.length c] 27)).alloc (.cells #[.int .i64 0, .int .i64 0, .slice none 0 0] 27)) w.heap.size A zs) := hr.below B0.out
  have EF : Hid (fromB sh 0 1040187392 = ((FloatKind.f32.format.order sh 0 == some .gt || FloatKind.f32.format.order sh 0 == some .eq) && (FloatKind.f32.format.order sh 1040187392 == some .lt || FloatKind.f32.format.order sh 1040187392 == some .eq))) := by show _ = _; unfold fromB; rw [geO_eq, leO_eq]
  clear hr
  go_enter Try.func18, Try.ntmps18
  go_wp2_with fail
  generalize ((w.alloc (.cells #[.int .i64 x, .int .i64 y, .slice A zs.length c] 27)).alloc (.cells #[.int .i64 0, .int .i64 0, .slice none 0 0] 27)) = a0 at *
  generalize hX : w.heap.size = X at *
  have HX := Lib.hid hX
  clear hX
  refine (specIs X x y A c zs a0 T0.out.var (R0.out.mono (Nat.le_of_lt T0.out.var.lt)) hn).mono ?_
  rintro e b1 ⟨rfl, n1, hw1⟩
  have hb1 : Hid (Below a0.heap.size a0 b1) := by rw [hw1]; exact belowN (Below.refl _ _)
  clear hw1
  have T1 := Lib.hid (T0.out.below hb1.out)
  have R1 : Hid (RowF b1 X A zs) := R0.out.below (hb1.out.mono (Nat.le_of_lt T0.out.var.lt))
  have B1 := Lib.hid (B0.out.trans (hb1.out.mono (Nat.le_of_lt T0.out.var.lt)))
  clear hb1 T0 R0 B0
  cases h1 : shB x y zs
  · skip
    have N := Lib.hid (show (talB x y zs st sh) = false by simp [talB, talA, h1])
    obtain ⟨p0, p1, p2, q0, q1, q2, r0, r1, r2, _⟩ := T1.out.s
    go_wp2_with fail
    exact bodyPost_ret (v := .tuple #[.agg #[.int .i64 0, .int .i64 0, .slice none 0 0], .float .f32 0, .bool false]) (by simp [results, Try.results18, go_sem, q0, q1, q2]) rfl (tpostF_no N.out (by rw [HX.out]; exact B1.out.trans (store3 (Nat.le_succ X) _ _ _)))
  · have H1 := Lib.hid h1
    clear h1
    go_wp2_with fail
    refine (specLeast st b1).mono ?_
    rintro e b2 ⟨rfl, n2, hw2⟩
    have hb2 : Hid (Below b1.heap.size b1 b2) := by rw [hw2]; exact belowN (Below.refl _ _)
    clear hw2
    have T2 := Lib.hid (T1.out.below hb2.out)
    have R2 : Hid (RowF b2 X A zs) := R1.out.below (hb2.out.mono (Nat.le_of_lt T1.out.var.lt))
    have B2 := Lib.hid (B1.out.trans (hb2.out.mono (Nat.le_of_lt T1.out.var.lt)))
    clear hb2 T1 R1 B1
    cases h2 : leastB st
    · skip
      have N := Lib.hid (show (talB x y zs st sh) = false by simp [talB, talA, h2])
      obtain ⟨p0, p1, p2, q0, q1, q2, r0, r1, r2, _⟩ := T2.out.s
      go_wp2_with fail
      exact bodyPost_ret (v := .tuple #[.agg #[.int .i64 0, .int .i64 0, .slice none 0 0], .float .f32 0, .bool false]) (by simp [results, Try.results18, go_sem, q0, q1, q2]) rfl (tpostF_no N.out (by rw [HX.out]; exact B2.out.trans (store3 (Nat.le_succ X) _ _ _)))
    · have H2 := Lib.hid h2
      clear h2
      cases g1 : (FloatKind.f32.format.order sh 0 == some .gt || FloatKind.f32.format.order sh 0 == some .eq)
      · have h3 : fromB sh 0 1040187392 = false := by rw [EF.out, g1]; rfl
        clear EF
        have N := Lib.hid (show (talB x y zs st sh) = false by simp [talB, talA, h3])
        obtain ⟨p0, p1, p2, q0, q1, q2, r0, r1, r2, _⟩ := T2.out.s
        go_wp2_with fail
        exact bodyPost_ret (v := .tuple #[.agg #[.int .i64 0, .int .i64 0, .slice none 0 0], .float .f32 0, .bool false]) (by simp [results, Try.results18, go_sem, q0, q1, q2]) rfl (tpostF_no N.out (by rw [HX.out]; exact B2.out.trans (store3 (Nat.le_succ X) _ _ _)))
      · cases g2 : (FloatKind.f32.format.order sh 1040187392 == some .lt || FloatKind.f32.format.order sh 1040187392 == some .eq)
        · have h3 : fromB sh 0 1040187392 = false := by rw [EF.out, g1, g2]; rfl
          clear EF
          have N := Lib.hid (show (talB x y zs st sh) = false by simp [talB, talA, h3])
          obtain ⟨p0, p1, p2, q0, q1, q2, r0, r1, r2, _⟩ := T2.out.s
          go_wp2_with fail
          exact bodyPost_ret (v := .tuple #[.agg #[.int .i64 0, .int .i64 0, .slice none 0 0], .float .f32 0, .bool false]) (by simp [results, Try.results18, go_sem, q0, q1, q2]) rfl (tpostF_no N.out (by rw [HX.out]; exact B2.out.trans (store3 (Nat.le_succ X) _ _ _)))
        · have H3 : Hid (fromB sh 0 1040187392 = true) := by show _ = _; rw [EF.out, g1, g2]; rfl
          clear EF
          have HB : Hid ((talB x y zs st sh) = (toldB ((talO zs st sh x y zs.length).1) zs.length && finO ((talO zs st sh x y zs.length).2))) := by show _ = _; simp [talB, talA, H1.out, H2.out, H3.out]
          have HSB := Lib.hid (shB_sides H1.out)
          have HFS : Hid (finB .f32 st = true) := by show _ = _; have := H2.out; unfold leastB at this; rw [Bool.and_eq_true] at this; exact this.1
          have H0 := Lib.hid (shB_pos H1.out)
          obtain ⟨b0, off, rfl, hbb, hcell⟩ := R2.out H0.out
          clear hbb hcell
          have t0 := T2.out.c0
          have t1 := T2.out.c1
          have t2 := T2.out.c2
          have tl := T2.out.yb
          go_wp2_with fail
          clear t0 t1 t2 tl g1 g2
          refine (own_is X x y (some ⟨b0, off, none⟩) c zs b2 T2.out.var (R2.out.mono (Nat.le_of_lt T2.out.var.lt)) H0.out hn).mono ?_
          rintro e b5 ⟨g, c', rfl, RO, hb5⟩
          have T5 := Lib.hid (T2.out.below hb5.out)
          have R5 : Hid (RowF b5 X (some ⟨b0, off, none⟩) zs) := R2.out.below (hb5.out.mono (Nat.le_of_lt T2.out.var.lt))
          have B5 := Lib.hid (B2.out.trans (hb5.out.mono (Nat.le_of_lt T2.out.var.lt)))
          obtain ⟨G2', gl, gh, _⟩ := RO.out.toG
          have gX : X + 1 < g := by have := T2.out.yb; omega
          have hbO : Below b5.heap.size b5 (b5.alloc (.cells #[.int .i64 x, .int .i64 y, .slice (some ⟨g, 0, none⟩) zs.length c'] 27)) := (Below.refl _ _).alloc (Nat.le_refl _) _
          have VO := Lib.hid (varT_new b5 x y (some ⟨g, 0, none⟩) zs.length c' 27)
          have T6 := Lib.hid (T5.out.below hbO)
          have R6 : Hid (RowF (b5.alloc (.cells #[.int .i64 x, .int .i64 y, .slice (some ⟨g, 0, none⟩) zs.length c'] 27)) X (some ⟨b0, off, none⟩) zs) := R5.out.below (hbO.mono (Nat.le_of_lt T5.out.var.lt))
          have B6 := Lib.hid (B5.out.trans (hbO.mono (Nat.le_of_lt T5.out.var.lt)))
          have G6 := Lib.hid (G2'.but (ButIn.of hbO) (.inr (Nat.zero_le _)))
          have x2' := T5.out.c2
          have hx := T5.out.var.lt
          clear T2 R2 B2 T5 R5 B5 RO hb5 G2' gl hbO
          go_wp2_with fail
          clear x2' hx
          generalize (b5.alloc (.cells #[.int .i64 x, .int .i64 y, .slice (some ⟨g, 0, none⟩) zs.length c'] 27)) = b6 at *
          generalize b5.heap.size = O at *
          have ob6 : O < b6.heap.size := VO.out.lt
          go_loopw [10, 37] (fun s i wr => ∃ (k a : Nat) (ws : List Nat), k ≤ zs.length ∧ i = .int .i64 k ∧ s = .float .f32 a ∧ Hid (Told (talO zs st sh x y k).1 zs.length zs.length ws) ∧ Hid (can .f32 a = (talO zs st sh x y k).2) ∧ Hid (RowG wr g ws) ∧ Hid (ButIn g (g + 1) b6 wr)) (fun _ i _ => zs.length - (intOf i).toNat)
          case atStart => exact ⟨0, 0, zs, Nat.zero_le _, rfl, rfl, ⟨rfl, fun j hj => rfl⟩, rfl, G6, ButIn.refl _ _ _⟩
          case round =>
            obtain ⟨k, a, ws, hk, rfl, rfl, hT, hA, hG, hB⟩ := hrel
            by_cases hlt : k < zs.length
            · have VX := T6.out.var.but hB.out (.inl (by omega))
              have x0' := VX.c0
              have x1' := VX.c1
              have x2' := VX.c2
              have he := (R6.out.butIn hB.out (Nat.le_of_lt T6.out.var.lt) (.inl (by omega))).at hlt
              have HSI := Lib.hid (specBes X x y (k : Int) (some ⟨b0, off, none⟩) zs.length c wr (T6.out.var.but hB.out (.inl (by omega))) HSB.out.1 (by omega) (by have := HSB.out.2.2; omega))
              clear VX
              go_wp2_with fail
              refine HSI.out.mono ?_
              rintro e wq ⟨B, d, rfl, hO, hbq⟩
              have hBq := Lib.hid (hB.out.andB hbq.out)
              have hGq := Lib.hid (hG.out.but (ButIn.of hbq.out) (.inr (Nat.zero_le _)))
              have LQ : Hid (LstR wq (g + 1) B (Fk.sidL x y (k : Int))) := Lib.hid ((LstR.of hO.out).lower (by have := hB.out.size; omega))
              have HS : Hid (∀ m, m < (Fk.sidL x y (k : Int)).length → ∃ j : Nat, atI (Fk.sidL x y (k : Int)) m = j ∧ j < zs.length ∧ (j : Int) ≠ k) := fun m hm => side_at HSB.out.2.1 (by omega) (by have := HSB.out.2.2; omega) HSB.out.2.2 hm
              have HO : Hid (talO zs st sh x y (k + 1) = talI zs st sh k (Fk.sidL x y (k : Int)) (talO zs st sh x y k) (Fk.sidL x y (k : Int)).length) := rfl
              have hll : (Fk.sidL x y (k : Int)).length ≤ 4 := Fk.sidL_len _ _ _
              clear hO hbq hB hG HSI x0' x1' x2' he
              generalize Fk.sidL x y (k : Int) = L at *
              generalize hS0 : talO zs st sh x y k = S0 at *
              clear hS0
              go_wp2_with fail
              go_loopw [10, 44] (fun s i wr => ∃ (m a : Nat) (vs : List Nat), m ≤ L.length ∧ i = .int .i64 m ∧ s = .float .f32 a ∧ Hid (Told (talI zs st sh k L S0 m).1 zs.length zs.length vs) ∧ Hid (can .f32 a = (talI zs st sh k L S0 m).2) ∧ Hid (RowG wr g vs) ∧ Hid (ButIn g (g + 1) wq wr)) (fun _ i _ => L.length - (intOf i).toNat)
              case atStart => exact ⟨0, a, ws, Nat.zero_le _, rfl, rfl, hT, hA, hGq, ButIn.refl _ _ _⟩
              case round =>
                clear hT hA hGq
                obtain ⟨m, a, vs, hm, rfl, rfl, hT, hA, hG, hB⟩ := hrel
                have hBB := Lib.hid (hBq.out.trans hB.out)
                by_cases hlm : m < L.length
                · obtain ⟨j, hj1, hj2, hj3⟩ := HS.out m hlm
                  obtain ⟨bl, ol, rfl, hl1, hl2, hcl⟩ := (LQ.out.but hB.out (Nat.le_refl _)) (by omega)
                  have hc := hcl m hlm
                  rw [hj1] at hc
                  have HJ := Lib.hid hj1
                  have VX := T6.out.var.but hBB.out (.inl (by omega))
                  have x2' := VX.c2
                  have xl := VX.lt
                  have RX := R6.out.butIn hBB.out (Nat.le_of_lt T6.out.var.lt) (.inl (by omega))
                  have he := RX.at hlt
                  have hf := RX.at hj2
                  have o2 := (VO.out.but hBB.out (.inr (by omega))).c2
                  have olt := (VO.out.but hBB.out (.inr (by omega))).lt
                  obtain ⟨hg1, hg2⟩ := hG.out.cell (k := k) (by rw [hT.out.1]; exact hlt)
                  obtain ⟨hg3, hg4⟩ := hG.out.cell (k := j) (by rw [hT.out.1]; exact hj2)
                  have hjk : ¬ j = k := by omega
                  have hkj : ¬ k = j := by omega
                  obtain ⟨d1, hd1, hn1, _⟩ := dif_gt (finAll_at (shB_fin H1.out) hlt) (finAll_at (shB_fin H1.out) hj2)
                  obtain ⟨d2, hd2⟩ := sub_any hn1 HFS.out
                  have hp1 := run_f32 hd1
                  have hp2 := run_f32 hd2
                  have HD : Hid (can .f32 d2 = talD zs st k j) := by
                    show _ = _
                    unfold talD
                    rw [fop_can, hd1, ← can_num hn1, fop_can, hd2, can_num (floatBits_num hd2)]
                  have HSt : Hid (talI zs st sh k L S0 (m + 1) = talT zs st sh k j (talI zs st sh k L S0 m)) := by
                    show talT zs st sh k (atI L m).toNat _ = _
                    rw [HJ.out, Int.toNat_natCast]
                  clear hcl hj1 VX RX hd1 hd2 hn1 hl1
                  cases hg : (FloatKind.f32.format.order d2 0 == some .gt)
                  · have EQ : Hid (talI zs st sh k L S0 (m + 1) = talI zs st sh k L S0 m) := by show _ = _; rw [HSt.out]; exact talT_no (by rw [gtO_eq HD.out]; exact hg)
                    have hG' := fun n => Lib.hid (hG.out.but (ButIn.of (belowN (n := n) (Below.refl _ _))) (.inr (Nat.zero_le _)))
                    have hB' := fun n => Lib.hid (hB.out.drewN (n := n))
                    have HG' := Lib.hid hG'
                    have HB' := Lib.hid hB'
                    clear hG' hB'
                    go_wp2_with fail
                    go_quiet (fail)
                    go_wp2_with fail
                    go_roundw
                    case rel => exact ⟨m + 1, a, vs, by omega, by go_num, rfl, by rw [EQ.out]; exact hT, by rw [EQ.out]; exact hA, HG'.out _, HB'.out _⟩
                    case measure => simp [intOf]; omega
                  · have EQ := Lib.hid (HSt.out.trans (talT_yes (by rw [gtO_eq HD.out]; exact hg)))
                    go_wp2_with fail
                    go_quiet (fail)
                    go_wp2_with ((with_reducible refine upon_bin rfl ?_); intro _ _ _ _)
                    rename_i r1 n1 w1 e1 K1 hK1
                    have HX1 : Hid (can .f32 r1 = talX zs st sh k j) := by show _ = _; rw [e1.out, HD.out]; rfl
                    generalize hwz : wr.drewN _ = wz
                    have CZ : ∀ p, wz.cell? p = wr.cell? p := by intro p; rw [← hwz]; rfl
                    have FZ : ∀ p, wz.frozen? p = wr.frozen? p := by intro p; rw [← hwz]; rfl
                    have GZ : Hid (RowG wz g vs) := by show RowG _ _ _; rw [← hwz]; exact hG.out.but (ButIn.of (belowN (Below.refl _ _))) (.inr (Nat.zero_le _))
                    have BZ : Hid (ButIn g (g + 1) wq wz) := by show ButIn _ _ _ _; rw [← hwz]; exact hB.out.drewN
                    rw [← CZ] at hc x2' he hf o2 hg1 hg3
                    rw [← FZ] at hg2 hg4
                    clear hwz CZ FZ hG hB hBB
                    go_cut [] from 68 to 78 (fun wc => ∃ vs1 : List Nat, Hid (Told (updO (talI zs st sh k L S0 m).1 k (fop .sub .f32 ((talI zs st sh k L S0 m).1 k) (talX zs st sh k j))) zs.length zs.length vs1) ∧ Hid (RowG wc g vs1) ∧ Hid (ButIn g (g + 1) wq wc))
                    case first =>
                      go_region_with ((with_reducible refine upon_bin rfl ?_); intro _ _ _ _)
                      all_goals
                        rename_i r2 n2 w2 e2
                        have NT1 := Lib.hid (hT.out.upd hlt (show can .f32 r2 = fop .sub .f32 ((talI zs st sh k L S0 m).1 k) (talX zs st sh k j) by rw [e2.out, hT.out.2 k hlt, HX1.out]))
                        go_wp2_with fail
                        go_meet
                        case rel => exact ⟨_, NT1, (GZ.out.but (ButIn.of (belowN (Below.refl _ _))) (.inr (Nat.zero_le _))).set (by rw [hT.out.1]; exact hlt), (BZ.out.drewN).set (q := ⟨g, k, none⟩) (Nat.le_refl _) (Nat.lt_succ_self _) _⟩
                    case rest =>
                      obtain ⟨vs1, NT1, GA, BA⟩ := hcut
                      clear hc x2' xl he hf o2 olt hg1 hg2 hg3 hg4 hp1 hp2 GZ BZ
                      have BAB := Lib.hid (hBq.out.trans BA.out)
                      have hc := (LQ.out.but BA.out (Nat.le_refl _)).at hlm
                      rw [HJ.out] at hc
                      have o2 := (VO.out.but BAB.out (.inr (by omega))).c2
                      have olt := (VO.out.but BAB.out (.inr (by omega))).lt
                      obtain ⟨hg3, hg4⟩ := GA.out.cell (k := j) (by rw [NT1.out.1]; exact hj2)
                      go_wp2_with fail
                      rename_i K2 hK2
                      go_cut [] from 79 to 95 (fun wc => ∃ vs2 : List Nat, Hid (Told (updO (updO (talI zs st sh k L S0 m).1 k (fop .sub .f32 ((talI zs st sh k L S0 m).1 k) (talX zs st sh k j))) j (fop .add .f32 (updO (talI zs st sh k L S0 m).1 k (fop .sub .f32 ((talI zs st sh k L S0 m).1 k) (talX zs st sh k j)) j) (talX zs st sh k j))) zs.length zs.length vs2) ∧ Hid (RowG wc g vs2) ∧ Hid (ButIn g (g + 1) wq wc))
                      case first =>
                        clear hK2
                        go_region_with ((with_reducible refine upon_bin rfl ?_); intro _ _ _ _)
                        all_goals
                          rename_i r3 n3 w3 e3
                          have NT := Lib.hid (NT1.out.upd hj2 (show can .f32 r3 = fop .add .f32 (updO (talI zs st sh k L S0 m).1 k (fop .sub .f32 ((talI zs st sh k L S0 m).1 k) (talX zs st sh k j)) j) (talX zs st sh k j) by rw [e3.out, NT1.out.2 j hj2, HX1.out]))
                          go_wp2_with fail
                          go_meet
                          case rel => exact ⟨_, NT, (GA.out.but (ButIn.of (belowN (Below.refl _ _))) (.inr (Nat.zero_le _))).set (by rw [NT1.out.1]; exact hj2), (BA.out.drewN).set (q := ⟨g, j, none⟩) (Nat.le_refl _) (Nat.lt_succ_self _) _⟩
                      case rest =>
                        clear hc o2 olt hg3 hg4 BAB GA BA NT1
                        obtain ⟨vs2, NT, GB, BB⟩ := hcut
                        go_wp2_with ((with_reducible refine upon_bin rfl ?_); intro _ _ _ _)
                        rename_i r4 n4 w4 e4
                        have NA : Hid (can .f32 r4 = fop .add .f32 (talI zs st sh k L S0 m).2 (talX zs st sh k j)) := by show _ = _; rw [e4.out, hA.out, HX1.out]
                        have GB' := fun n => Lib.hid (GB.out.but (ButIn.of (belowN (n := n) (Below.refl _ _))) (.inr (Nat.zero_le _)))
                        have BB' := fun n => Lib.hid (BB.out.drewN (n := n))
                        have GB2 := Lib.hid GB'
                        have BB2 := Lib.hid BB'
                        clear GB' BB' e4 w4
                        go_roundw
                        case rel => exact ⟨m + 1, r4, _, by omega, by go_num, rfl, by rw [EQ.out]; exact NT, by rw [EQ.out]; exact NA, GB2.out _, BB2.out _⟩
                        case measure => simp [intOf]; omega
                · have HE : Hid (m = L.length) := by show m = L.length; omega
                  have hT' : Hid (Told (talO zs st sh x y (k + 1)).1 zs.length zs.length vs) := by rw [HO.out, ← HE.out]; exact hT
                  have hA' : Hid (can .f32 a = (talO zs st sh x y (k + 1)).2) := by rw [HO.out, ← HE.out]; exact hA
                  clear hT hA
                  go_wp2_with fail
                  go_roundw
                  case rel => exact ⟨k + 1, a, vs, by omega, by go_num, rfl, hT', hA', hG, hBB⟩
                  case measure => simp [intOf]; omega
            · have HK : Hid (k = zs.length) := by show k = zs.length; omega
              have hl := hT.out.1
              have hT' : Hid (Told ((talO zs st sh x y zs.length).1) zs.length zs.length ws) := by have := hT.out; rw [HK.out] at this; exact this
              have hA' : Hid (can .f32 a = ((talO zs st sh x y zs.length).2)) := by have := hA.out; rw [HK.out] at this; exact this
              have VW := VO.out.but hB.out (.inr (by omega))
              have o0 := VW.c0
              have o1 := VW.c1
              have o2 := VW.c2
              have ol := VW.lt
              have HV : Hid (shB x y ws = toldB ((talO zs st sh x y zs.length).1) zs.length) := by show _ = _; rw [shB_len H1.out hl, hT'.out.fin]
              have HW : Hid (finB .f32 a = finO ((talO zs st sh x y zs.length).2)) := by show _ = _; rw [← hA'.out, finO_can]
              have HSV := specIs O x y (some ⟨g, 0, none⟩) c' ws wr (by rw [hl]; exact VW) hG.out.toRow (by rw [hl]; exact hn)
              have HSW := Lib.hid HSV
              have T7 := Lib.hid (T6.out.chg (hB.out.toBelow (by omega) (Nat.succ_le_of_lt T6.out.yb)))
              have B7 := Lib.hid (B6.out.trans (hB.out.toBelow (by omega) (Nat.le_of_lt T6.out.var.lt)))
              have R7 : Hid (RowIn wr g (g + 1) (some ⟨g, 0, none⟩) ws) := hG
              have V7 := Lib.hid VW
              clear HSV hT hG hB T6 B6 R6 G6 VO VW hl hA
              go_wp2_with fail
              refine HSW.out.mono ?_
              rintro e b8 ⟨rfl, n8, hw8⟩
              have hb8 : Hid (Below wr.heap.size wr b8) := by rw [hw8]; exact belowN (Below.refl _ _)
              clear hw8
              rw [HV.out]
              have T8 := Lib.hid (T7.out.below hb8.out)
              have B8 := Lib.hid (B7.out.trans (hb8.out.mono (Nat.le_of_lt T7.out.var.lt)))
              have R8 := Lib.hid (R7.out.but (ButIn.of hb8.out) (.inr (Nat.zero_le _)))
              have V8 := Lib.hid (V7.out.below hb8.out)
              clear hb8 T7 B7 R7 V7 o0 o1 o2 ol
              cases hb : toldB ((talO zs st sh x y zs.length).1) zs.length
              · have N := Lib.hid (show (talB x y zs st sh) = false by rw [HB.out, hb]; rfl)
                obtain ⟨p0, p1, p2, q0, q1, q2, r0, r1, r2, _⟩ := T8.out.s
                go_wp2_with fail
                exact bodyPost_ret (v := .tuple #[.agg #[.int .i64 0, .int .i64 0, .slice none 0 0], .float .f32 0, .bool false]) (by simp [results, Try.results18, go_sem, q0, q1, q2]) rfl (tpostF_no N.out (by rw [HX.out]; exact B8.out.trans (store3 (Nat.le_succ X) _ _ _)))
              · have HBF := Lib.hid hb
                clear hb
                go_wp2_with fail
                refine (specFin a b8).mono ?_
                rintro e b9 ⟨rfl, n9, hw9⟩
                have hb9 : Hid (Below b8.heap.size b8 b9) := by rw [hw9]; exact belowN (Below.refl _ _)
                rw [HW.out]
                have T9 := Lib.hid (T8.out.below hb9.out)
                have B9 := Lib.hid (B8.out.trans (hb9.out.mono (Nat.le_of_lt T8.out.var.lt)))
                have R9 := Lib.hid (R8.out.but (ButIn.of hb9.out) (.inr (Nat.zero_le _)))
                have V9 := Lib.hid (V8.out.below hb9.out)
                clear hw9 hb9 T8 B8 R8 V8
                obtain ⟨p0, p1, p2, q0, q1, q2, r0, r1, r2, _⟩ := T9.out.s
                cases hb : finO ((talO zs st sh x y zs.length).2)
                · have N := Lib.hid (show (talB x y zs st sh) = false by rw [HB.out, HBF.out, hb]; rfl)
                  go_wp2_with fail
                  exact bodyPost_ret (v := .tuple #[.agg #[.int .i64 0, .int .i64 0, .slice none 0 0], .float .f32 0, .bool false]) (by simp [results, Try.results18, go_sem, q0, q1, q2]) rfl (tpostF_no N.out (by rw [HX.out]; exact B9.out.trans (store3 (Nat.le_succ X) _ _ _)))
                · have Y := Lib.hid (show (talB x y zs st sh) = true by rw [HB.out, HBF.out, hb]; rfl)
                  have EY := Lib.hid (hT'.out.eq HBF.out)
                  have EA := Lib.hid (finO_word hA'.out hb)
                  have v0 := V9.out.c0
                  have v1 := V9.out.c1
                  have v2 := V9.out.c2
                  have vl := V9.out.lt
                  clear hb
                  go_wp2_with fail
                  refine bodyPost_ret (v := .tuple #[.agg #[.int .i64 x, .int .i64 y, .slice (some ⟨g, 0, none⟩) zs.length c'], .float .f32 a, .bool true]) (by simp [results, Try.results18, go_sem, q0, q1, q2]) rfl (tpostF_yes Y.out (toldY_length _ _) EA.out ?_ ?_)
                  · have R10 := (R9.out.wide (lo' := X + 2) (hi' := b9.heap.size) (by omega) (by have := R9.out.le; exact this) (Nat.le_refl _))
                    rw [EY.out] at R10
                    rw [HX.out]
                    exact (R10.store3 (Y := X + 1) (Nat.lt_succ_self _) _ _ _).lower (by omega)
                  · rw [HX.out]
                    exact B9.out.trans (store3 (Nat.le_succ X) _ _ _)

end Go.Proofs.Ytckhdbnoihieeaa
