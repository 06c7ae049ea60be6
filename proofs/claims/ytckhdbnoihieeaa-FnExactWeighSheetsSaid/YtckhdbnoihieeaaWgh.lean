/-
  What is proved here: WeighSheets, of both packages, as walks. Conditions: at most 1048576 heights each.
-/
import Derived.Test.YtckhdbnoihieeaaNrm
namespace Go.Proofs.Ytckhdbnoihieeaa
open Flt Go.RowKit
attribute [local go_sem] run_store_float

/-- a height weighed -/
def wghF (zs ys : List Nat) (u v : Nat) (j : Nat) : Option Nat := fop .add .f32 (fop .mul .f32 (can .f32 u) (can .f32 (at0 zs j))) (fop .mul .f32 (can .f32 v) (can .f32 (at0 ys j)))
def wghO (x y : Int) (zs : List Nat) (x2 y2 : Int) (ys : List Nat) (u v : Nat) : Bool := shB x y zs && (shB x2 y2 ys && (decide (x = x2) && (decide (y = y2) && (finB .f32 u && finB .f32 v))))
def wghB (x y : Int) (zs : List Nat) (x2 y2 : Int) (ys : List Nat) (u v : Nat) : Bool := wghO x y zs x2 y2 ys u v && toldB (wghF zs ys u v) zs.length
theorem mul_fin {x y : Nat} (hx : finB .f32 x = true) (hy : finB .f32 y = true) : ∃ r, floatBits .mul .f32 x y = some r := by
  obtain ⟨m, d, hr, _⟩ := read_V (of_decide_eq_true hx : x % FloatKind.f32.format.signWeight < FloatKind.f32.format.infRung)
  obtain ⟨n, e, hs, _⟩ := read_V (of_decide_eq_true hy : y % FloatKind.f32.format.signWeight < FloatKind.f32.format.infRung)
  have h : ((FloatKind.f32.format.read x).product (FloatKind.f32.format.read y)).map FloatKind.f32.format.write = floatBits .mul .f32 x y := rfl
  rw [hr, hs] at h
  exact ⟨_, h.symm⟩
theorem shB_same {x y : Int} {zs ys : List Nat} (h : shB x y zs = true) (g : shB x y ys = true) : ys.length = zs.length := by
  unfold shB at h g
  simp only [Bool.and_eq_true, beq_iff_eq] at h g
  have h1 := h.2.2.1
  have h2 := g.2.2.1
  omega
theorem three_new (w : World) (x y x2 y2 : Int) (A B : Option Addr) (n c m d : Nat) (t u s : TypeId) :
    Two (((w.alloc (.cells #[.int .i64 x, .int .i64 y, .slice A n c] t)).alloc (.cells #[.int .i64 x2, .int .i64 y2, .slice B m d] u)).alloc (.cells #[.int .i64 0, .int .i64 0, .slice none 0 0] s)) w.heap.size (w.heap.size + 2) x y A n c (((w.alloc (.cells #[.int .i64 x, .int .i64 y, .slice A n c] t)).alloc (.cells #[.int .i64 x2, .int .i64 y2, .slice B m d] u)).alloc (.cells #[.int .i64 0, .int .i64 0, .slice none 0 0] s)) ∧
      VarT (((w.alloc (.cells #[.int .i64 x, .int .i64 y, .slice A n c] t)).alloc (.cells #[.int .i64 x2, .int .i64 y2, .slice B m d] u)).alloc (.cells #[.int .i64 0, .int .i64 0, .slice none 0 0] s)) (w.heap.size + 1) x2 y2 B m d := by
  have e1 : (w.alloc (.cells #[.int .i64 x, .int .i64 y, .slice A n c] t)).heap.size = w.heap.size + 1 := by simp
  have e2 : ((w.alloc (.cells #[.int .i64 x, .int .i64 y, .slice A n c] t)).alloc (.cells #[.int .i64 x2, .int .i64 y2, .slice B m d] u)).heap.size = w.heap.size + 2 := by simp
  have V := (varT_new w x y A n c t).below ((Below.refl _ _).alloc (Nat.le_refl _) (.cells #[.int .i64 x2, .int .i64 y2, .slice B m d] u))
  have V2 := varT_new (w.alloc (.cells #[.int .i64 x, .int .i64 y, .slice A n c] t)) x2 y2 B m d u
  rw [e1] at V2
  generalize (w.alloc (.cells #[.int .i64 x, .int .i64 y, .slice A n c] t)).alloc (.cells #[.int .i64 x2, .int .i64 y2, .slice B m d] u) = w2 at *
  obtain ⟨d0, d1, d2, f0, f1, f2⟩ := fresh3 w2 (.int .i64 0) (.int .i64 0) (.slice none 0 0) s
  rw [e2] at d0 d1 d2 f0 f1 f2
  have V3 := V.below ((Below.refl _ _).alloc (Nat.le_refl _) (.cells #[.int .i64 0, .int .i64 0, .slice none 0 0] s))
  refine ⟨⟨by omega, by simp [e2], Below.refl _ _, V3.c0, V3.c1, V3.c2, rd_of d0, rd_of d1, rd_of d2, f0, f1, f2⟩, V2.below ((Below.refl _ _).alloc (Nat.le_refl _) _)⟩


set_option maxHeartbeats 16000000 in
set_option maxRecDepth 1000000 in
theorem implWgh (x y x2 y2 : Int) (A B : Option Addr) (c d : Nat) (zs ys : List Nat) (u v : Nat) (w : World) (hr : RowF w w.heap.size A zs) (hq : RowF w w.heap.size B ys) (hn : zs.length ≤ 1048576) (hm : ys.length ≤ 1048576) :
    Calls Try.prog 14 #[.agg #[.int .i64 x, .int .i64 y, .slice A zs.length c], .agg #[.int .i64 x2, .int .i64 y2, .slice B ys.length d], .float .f32 u, .float .f32 v] w (TPost (gN (wghB x y zs x2 y2 ys u v) x) (gN (wghB x y zs x2 y2 ys u v) y) (gY (wghB x y zs x2 y2 ys u v) (toldY (wghF zs ys u v) zs.length)) (wghB x y zs x2 y2 ys u v) w) := by
  obtain ⟨T00, V00⟩ := three_new w x y x2 y2 A B zs.length c ys.length d 27 27 27
  have T0 := Lib.hid T00
  have V0 := Lib.hid V00
  have B0 : Hid (Below w.heap.size w (((w.alloc (.cells #[.int .i64 x, .int .i64 y, .slice A zs.length c] 27)).alloc (.cells #[.int .i64 x2, .int .i64 y2, .slice B ys.length d] 27)).alloc (.cells #[.int .i64 0, .int .i64 0, .slice none 0 0] 27))) := (((Below.refl _ _).alloc (Nat.le_refl _) _).alloc (by simp) _).alloc (by simp; omega) _
  have Ra0 : Hid (RowF (((w.alloc (.cells #[.int .i64 x, .int .i64 y, .slice A zs.length c] 27)).alloc (.cells #[.int .i64 x2, .int .i64 y2, .slice B ys.length d] 27)).alloc (.cells #[.int .i64 0, .int .i64 0, .slice none 0 0] 27)) w.heap.size A zs) := hr.below B0.out
  have Rb0 : Hid (RowF (((w.alloc (.cells #[.int .i64 x, .int .i64 y, .slice A zs.length c] 27)).alloc (.cells #[.int .i64 x2, .int .i64 y2, .slice B ys.length d] 27)).alloc (.cells #[.int .i64 0, .int .i64 0, .slice none 0 0] 27)) w.heap.size B ys) := hq.below B0.out
  clear hr hq T00 V00
  by_cases hx : x = x2
  · by_cases hy : y = y2
    · subst hx hy
      go_enter Try.func14, Try.ntmps14
      go_wp2_with fail
      generalize (((w.alloc (.cells #[.int .i64 x, .int .i64 y, .slice A zs.length c] 27)).alloc (.cells #[.int .i64 x, .int .i64 y, .slice B ys.length d] 27)).alloc (.cells #[.int .i64 0, .int .i64 0, .slice none 0 0] 27)) = a0 at *
      generalize hX : w.heap.size = X at *
      have HX := Lib.hid hX
      clear hX
      refine (implValid x y A c zs a0 (Ra0.out.mono (Nat.le_of_lt T0.out.var.lt)) hn).mono ?_
      rintro e b1 ⟨rfl, hb1⟩
      have T1 := Lib.hid (T0.out.below hb1.out)
      have V1 := Lib.hid (V0.out.below hb1.out)
      have Ra1 : Hid (RowF b1 X A zs) := Ra0.out.below (hb1.out.mono (Nat.le_of_lt T0.out.var.lt))
      have Rb1 : Hid (RowF b1 X B ys) := Rb0.out.below (hb1.out.mono (Nat.le_of_lt T0.out.var.lt))
      have B1 := Lib.hid (B0.out.trans (hb1.out.mono (Nat.le_of_lt T0.out.var.lt)))
      clear hb1 T0 V0 Ra0 Rb0 B0
      cases h1 : shB x y zs
      · skip
        have N := Lib.hid (show (wghB x y zs x y ys u v) = false by simp [wghB, wghO, h1])
        obtain ⟨p0, p1, p2, q0, q1, q2, r0, r1, r2, _⟩ := T1.out.s
        have v0 := V1.out.c0
        have v1 := V1.out.c1
        have v2 := V1.out.c2
        go_wp2_with fail
        exact bodyPost_ret (v := .tuple #[.agg #[.int .i64 0, .int .i64 0, .slice none 0 0], .bool false]) (by simp [results, Try.results14, go_sem, q0, q1, q2]) rfl (tpost_no N.out (by rw [HX.out]; exact B1.out.trans (store3 (by omega) _ _ _)))
      · have H1 := Lib.hid h1
        clear h1
        have t0 := T1.out.c0
        have v0 := V1.out.c0
        have t1 := T1.out.c1
        have v1 := V1.out.c1
        have t2 := T1.out.c2
        have v2 := V1.out.c2
        have tl := T1.out.yb
        go_wp2_with fail
        clear t0 t1 t2 v0 v1 v2 tl
        refine (implValid x y B d ys b1 (Rb1.out.mono (Nat.le_of_lt T1.out.var.lt)) hm).mono ?_
        rintro e b2 ⟨rfl, hb2⟩
        have T2 := Lib.hid (T1.out.below hb2.out)
        have V2 := Lib.hid (V1.out.below hb2.out)
        have Ra2 : Hid (RowF b2 X A zs) := Ra1.out.below (hb2.out.mono (Nat.le_of_lt T1.out.var.lt))
        have Rb2 : Hid (RowF b2 X B ys) := Rb1.out.below (hb2.out.mono (Nat.le_of_lt T1.out.var.lt))
        have B2 := Lib.hid (B1.out.trans (hb2.out.mono (Nat.le_of_lt T1.out.var.lt)))
        clear hb2 T1 V1 Ra1 Rb1 B1
        cases h2 : shB x y ys
        · skip
          have N := Lib.hid (show (wghB x y zs x y ys u v) = false by simp [wghB, wghO, h2])
          obtain ⟨p0, p1, p2, q0, q1, q2, r0, r1, r2, _⟩ := T2.out.s
          have v0 := V2.out.c0
          have v1 := V2.out.c1
          have v2 := V2.out.c2
          go_wp2_with fail
          exact bodyPost_ret (v := .tuple #[.agg #[.int .i64 0, .int .i64 0, .slice none 0 0], .bool false]) (by simp [results, Try.results14, go_sem, q0, q1, q2]) rfl (tpost_no N.out (by rw [HX.out]; exact B2.out.trans (store3 (by omega) _ _ _)))
        · have H2 := Lib.hid h2
          clear h2
          have t0 := T2.out.c0
          have v0 := V2.out.c0
          have t1 := T2.out.c1
          have v1 := V2.out.c1
          have t2 := T2.out.c2
          have v2 := V2.out.c2
          have tl := T2.out.yb
          go_wp2_with fail
          clear t0 t1 t2 v0 v1 v2 tl
          refine (implFin u b2).mono ?_
          rintro e b3 ⟨rfl, n3, hw3⟩
          have hb3 : Hid (Below b2.heap.size b2 b3) := by rw [hw3]; exact belowN (Below.refl _ _)
          clear hw3
          have T3 := Lib.hid (T2.out.below hb3.out)
          have V3 := Lib.hid (V2.out.below hb3.out)
          have Ra3 : Hid (RowF b3 X A zs) := Ra2.out.below (hb3.out.mono (Nat.le_of_lt T2.out.var.lt))
          have Rb3 : Hid (RowF b3 X B ys) := Rb2.out.below (hb3.out.mono (Nat.le_of_lt T2.out.var.lt))
          have B3 := Lib.hid (B2.out.trans (hb3.out.mono (Nat.le_of_lt T2.out.var.lt)))
          clear hb3 T2 V2 Ra2 Rb2 B2
          cases h3 : finB .f32 u
          · skip
            have N := Lib.hid (show (wghB x y zs x y ys u v) = false by simp [wghB, wghO, h3])
            obtain ⟨p0, p1, p2, q0, q1, q2, r0, r1, r2, _⟩ := T3.out.s
            have v0 := V3.out.c0
            have v1 := V3.out.c1
            have v2 := V3.out.c2
            go_wp2_with fail
            exact bodyPost_ret (v := .tuple #[.agg #[.int .i64 0, .int .i64 0, .slice none 0 0], .bool false]) (by simp [results, Try.results14, go_sem, q0, q1, q2]) rfl (tpost_no N.out (by rw [HX.out]; exact B3.out.trans (store3 (by omega) _ _ _)))
          · have H3 := Lib.hid h3
            clear h3
            have t0 := T3.out.c0
            have v0 := V3.out.c0
            have t1 := T3.out.c1
            have v1 := V3.out.c1
            have t2 := T3.out.c2
            have v2 := V3.out.c2
            have tl := T3.out.yb
            go_wp2_with fail
            clear t0 t1 t2 v0 v1 v2 tl
            refine (implFin v b3).mono ?_
            rintro e b4 ⟨rfl, n4, hw4⟩
            have hb4 : Hid (Below b3.heap.size b3 b4) := by rw [hw4]; exact belowN (Below.refl _ _)
            clear hw4
            have T4 := Lib.hid (T3.out.below hb4.out)
            have V4 := Lib.hid (V3.out.below hb4.out)
            have Ra4 : Hid (RowF b4 X A zs) := Ra3.out.below (hb4.out.mono (Nat.le_of_lt T3.out.var.lt))
            have Rb4 : Hid (RowF b4 X B ys) := Rb3.out.below (hb4.out.mono (Nat.le_of_lt T3.out.var.lt))
            have B4 := Lib.hid (B3.out.trans (hb4.out.mono (Nat.le_of_lt T3.out.var.lt)))
            clear hb4 T3 V3 Ra3 Rb3 B3
            cases h4 : finB .f32 v
            · skip
              have N := Lib.hid (show (wghB x y zs x y ys u v) = false by simp [wghB, wghO, h4])
              obtain ⟨p0, p1, p2, q0, q1, q2, r0, r1, r2, _⟩ := T4.out.s
              have v0 := V4.out.c0
              have v1 := V4.out.c1
              have v2 := V4.out.c2
              go_wp2_with fail
              exact bodyPost_ret (v := .tuple #[.agg #[.int .i64 0, .int .i64 0, .slice none 0 0], .bool false]) (by simp [results, Try.results14, go_sem, q0, q1, q2]) rfl (tpost_no N.out (by rw [HX.out]; exact B4.out.trans (store3 (by omega) _ _ _)))
            · have H4 := Lib.hid h4
              clear h4
              have HB : Hid (wghB x y zs x y ys u v = toldB (wghF zs ys u v) zs.length) := by show _ = _; simp [wghB, wghO, H1.out, H2.out, H3.out, H4.out]
              have HLen : Hid (ys.length = zs.length) := shB_same H1.out H2.out
              have H0 := Lib.hid (shB_pos H1.out)
              have HG0 : Hid (0 < ys.length) := by show 0 < _; rw [HLen.out]; exact H0.out
              obtain ⟨b0, off, rfl, hbb, hcell⟩ := Ra4.out H0.out
              obtain ⟨e0, eff, rfl, hee, hcelm⟩ := Rb4.out HG0.out
              clear hbb hcell hee hcelm
              have t0 := T4.out.c0
              have v0 := V4.out.c0
              have t1 := T4.out.c1
              have v1 := V4.out.c1
              have t2 := T4.out.c2
              have v2 := V4.out.c2
              have tl := T4.out.yb
              go_wp2_with fail
              clear t0 t1 t2 v0 v1 v2 tl
              refine (copyOf_is x y (some ⟨b0, off, none⟩) c zs b4 (Ra4.out.mono (Nat.le_of_lt T4.out.var.lt)) H0.out hn).mono ?_
              rintro e b5 ⟨g, c', rfl, RO, hb5⟩
              have T5 := Lib.hid (T4.out.below hb5.out)
              have V5 := Lib.hid (V4.out.below hb5.out)
              have Ra5 : Hid (RowF b5 X (some ⟨b0, off, none⟩) zs) := Ra4.out.below (hb5.out.mono (Nat.le_of_lt T4.out.var.lt))
              have Rb5 : Hid (RowF b5 X (some ⟨e0, eff, none⟩) ys) := Rb4.out.below (hb5.out.mono (Nat.le_of_lt T4.out.var.lt))
              have B5 := Lib.hid (B4.out.trans (hb5.out.mono (Nat.le_of_lt T4.out.var.lt)))
              obtain ⟨G2', gl, gh, _⟩ := RO.out.toG
              have gX : X + 2 < g := by have := T4.out.yb; omega
              have hbO : Below b5.heap.size b5 (b5.alloc (.cells #[.int .i64 x, .int .i64 y, .slice (some ⟨g, 0, none⟩) zs.length c'] 27)) := (Below.refl _ _).alloc (Nat.le_refl _) _
              have VO := Lib.hid (varT_new b5 x y (some ⟨g, 0, none⟩) zs.length c' 27)
              have T6 := Lib.hid (T5.out.below hbO)
              have V6 := Lib.hid (V5.out.below hbO)
              have Ra6 : Hid (RowF (b5.alloc (.cells #[.int .i64 x, .int .i64 y, .slice (some ⟨g, 0, none⟩) zs.length c'] 27)) X (some ⟨b0, off, none⟩) zs) := Ra5.out.below (hbO.mono (Nat.le_of_lt T5.out.var.lt))
              have Rb6 : Hid (RowF (b5.alloc (.cells #[.int .i64 x, .int .i64 y, .slice (some ⟨g, 0, none⟩) zs.length c'] 27)) X (some ⟨e0, eff, none⟩) ys) := Rb5.out.below (hbO.mono (Nat.le_of_lt T5.out.var.lt))
              have B6 := Lib.hid (B5.out.trans (hbO.mono (Nat.le_of_lt T5.out.var.lt)))
              have G6 := Lib.hid (G2'.but (ButIn.of hbO) (.inr (Nat.zero_le _)))
              have x2' := T5.out.c2
              have hx := T5.out.var.lt
              clear T4 V4 Ra4 Rb4 B4 T5 V5 Ra5 Rb5 B5 RO hb5 G2' gl hbO
              go_wp2_with fail
              clear x2' hx
              generalize b5.alloc (.cells #[.int .i64 x, .int .i64 y, .slice (some ⟨g, 0, none⟩) zs.length c'] 27) = b6 at *
              generalize b5.heap.size = O at *
              go_loopw [54] (fun i wr => ∃ k : Nat, k ≤ zs.length ∧ i = .int .i64 k ∧ ∃ ws, Hid (Told (wghF zs ys u v) zs.length k ws) ∧ Hid (RowG wr g ws) ∧ Hid (ButIn g (g + 1) b6 wr)) (fun i _ => zs.length - (intOf i).toNat)
              case atStart => exact ⟨0, Nat.zero_le _, rfl, zs, ⟨rfl, fun j hj => absurd hj (Nat.not_lt_zero _)⟩, G6, ButIn.refl _ _ _⟩
              case round =>
                obtain ⟨k, hk, rfl, ws, hT, hG, hB⟩ := hrel
                have x2' := (T6.out.var.but hB.out (.inl (by omega))).c2
                have y2' := (V6.out.but hB.out (.inl (by omega))).c2
                have o2 := (VO.out.but hB.out (.inr (by omega))).c2
                by_cases hlt : k < zs.length
                · have he := (Ra6.out.butIn hB.out (Nat.le_of_lt T6.out.var.lt) (.inl (by omega))).at hlt
                  have hlt2 : k < ys.length := by rw [HLen.out]; exact hlt
                  have hf := (Rb6.out.butIn hB.out (Nat.le_of_lt T6.out.var.lt) (.inl (by omega))).at hlt2
                  obtain ⟨hg1, hg2⟩ := hG.out.cell (k := k) (by rw [hT.out.1]; exact hlt)
                  obtain ⟨s1, hs1⟩ := mul_fin H3.out (finAll_at (shB_fin H1.out) hlt)
                  obtain ⟨s2, hs2⟩ := mul_fin H4.out (finAll_at (shB_fin H2.out) hlt2)
                  have hw : Hid (wghF zs ys u v k = fop .add .f32 (can .f32 s1) (can .f32 s2)) := by show _ = _; unfold wghF; rw [fop_can, fop_can, hs1, hs2, can_num (floatBits_num hs1), can_num (floatBits_num hs2)]
                  have hp1 := run_f32 hs1
                  have hp2 := run_f32 hs2
                  clear hs1 hs2
                  go_wp2_with fail
                  go_region_with ((with_reducible refine upon_bin rfl ?_); intro _ _ _ _)
                  all_goals
                    rename_i r3 m3 w3 e3
                    have N1 := Lib.hid (hT.out.step hlt (show can .f32 r3 = wghF zs ys u v k by rw [e3.out, hw.out]))
                    have N2 := fun n => ((hG.out.but (ButIn.of (belowN (n := n) (Below.refl _ _))) (.inr (Nat.zero_le _))).set (k := k) (u := r3) (by rw [hT.out.1]; exact hlt))
                    have N3 := fun n => ((hB.out.drewN (n := n)).set (q := ⟨g, k, none⟩) (Nat.le_refl _) (Nat.lt_succ_self _) (.float .f32 r3))
                    have N2' := Lib.hid N2
                    have N3' := Lib.hid N3
                    clear N2 N3 hT hG hB x2' y2' o2 he hf hg1 hg2 e3 w3 hw hp1 hp2
                    go_wp2_with fail
                    go_roundw
                    case rel => exact ⟨k + 1, by omega, by go_num, _, N1, N2'.out _, N3'.out _⟩
                    case measure => simp [intOf]; omega
                · have HK : Hid (k = zs.length) := by show k = zs.length; omega
                  have hl := hT.out.1
                  have hT' : Hid (Told (wghF zs ys u v) zs.length zs.length ws) := by have := hT.out; rw [HK.out] at this; exact this
                  have o0 := (VO.out.but hB.out (.inr (by omega))).c0
                  have o1 := (VO.out.but hB.out (.inr (by omega))).c1
                  have hgv := implGive x y (some ⟨g, 0, none⟩) c' ws wr hG.out.toRow (by rw [hl]; exact hn) (toldB (wghF zs ys u v) zs.length) (by rw [shB_len H1.out hl, hT'.out.fin])
                  rw [hl] at hgv
                  have HG := Lib.hid hgv
                  have T7 := Lib.hid (T6.out.chg (hB.out.toBelow (by omega) (Nat.succ_le_of_lt T6.out.yb)))
                  have B7 := Lib.hid (B6.out.trans (hB.out.toBelow (by omega) (Nat.le_of_lt T6.out.var.lt)))
                  have R7 : Hid (RowIn wr g (g + 1) (some ⟨g, 0, none⟩) ws) := hG
                  clear hgv hT hG hB T6 B6 Ra6 Rb6 V6 G6 VO x2' y2' hl
                  cases hb : toldB (wghF zs ys u v) zs.length
                  · rw [hb] at HG
                    have HBF := Lib.hid hb
                    clear hb
                    go_wp2_with fail
                    refine HG.out.mono ?_
                    rintro e w5 ⟨_, he5, hb5⟩
                    obtain rfl := he5 (by first | rfl | trivial)
                    have T8 := Lib.hid (T7.out.below hb5.out)
                    have B8 := Lib.hid (B7.out.trans (hb5.out.mono (Nat.le_of_lt T7.out.var.lt)))
                    obtain ⟨p0, p1, p2, q0, q1, q2, r0, r1, r2, _⟩ := T8.out.s
                    clear he5 hb5 HG o0 o1 o2 T7 B7
                    go_wp2_with fail
                    refine bodyPost_ret (v := .tuple #[.agg #[.int .i64 0, .int .i64 0, .slice none 0 0], .bool false]) (by simp [results, Try.results14, go_sem, q0, q1, q2]) rfl (tpost_no (HB.out.trans HBF.out) ?_)
                    rw [HX.out]
                    exact B8.out.trans (store3 (by omega) _ _ _)
                  · rw [hb] at HG
                    have HBF := Lib.hid hb
                    clear hb
                    go_wp2_with fail
                    refine HG.out.mono ?_
                    rintro e w5 ⟨he5, _, hb5⟩
                    obtain rfl := he5 (by first | rfl | trivial)
                    have T8 := Lib.hid (T7.out.below hb5.out)
                    have B8 := Lib.hid (B7.out.trans (hb5.out.mono (Nat.le_of_lt T7.out.var.lt)))
                    have R8 := Lib.hid (R7.out.but (ButIn.of hb5.out) (.inr (Nat.zero_le _)))
                    obtain ⟨p0, p1, p2, q0, q1, q2, r0, r1, r2, _⟩ := T8.out.s
                    have EY := Lib.hid (hT'.out.eq HBF.out)
                    clear he5 hb5 HG o0 o1 o2 T7 B7 R7
                    go_wp2_with fail
                    refine bodyPost_ret (v := .tuple #[.agg #[.int .i64 x, .int .i64 y, .slice (some ⟨g, 0, none⟩) zs.length c'], .bool true]) (by simp [results, Try.results14, go_sem, q0, q1, q2]) rfl (tpost_yes (HB.out.trans HBF.out) (toldY_length _ _) ?_ ?_)
                    · have R9 := (R8.out.wide (lo' := X + 3) (hi' := w5.heap.size) (by omega) (by have := R8.out.le; exact this) (Nat.le_refl _))
                      rw [EY.out] at R9
                      rw [HX.out]
                      exact (R9.store3 (Y := X + 2) (Nat.lt_succ_self _) _ _ _).lower (by omega)
                    · rw [HX.out]
                      exact B8.out.trans (store3 (by omega) _ _ _)
    · subst hx
      go_enter Try.func14, Try.ntmps14
      go_wp2_with fail
      generalize (((w.alloc (.cells #[.int .i64 x, .int .i64 y, .slice A zs.length c] 27)).alloc (.cells #[.int .i64 x, .int .i64 y2, .slice B ys.length d] 27)).alloc (.cells #[.int .i64 0, .int .i64 0, .slice none 0 0] 27)) = a0 at *
      generalize hX : w.heap.size = X at *
      have HX := Lib.hid hX
      clear hX
      refine (implValid x y A c zs a0 (Ra0.out.mono (Nat.le_of_lt T0.out.var.lt)) hn).mono ?_
      rintro e b1 ⟨rfl, hb1⟩
      have T1 := Lib.hid (T0.out.below hb1.out)
      have V1 := Lib.hid (V0.out.below hb1.out)
      have Ra1 : Hid (RowF b1 X A zs) := Ra0.out.below (hb1.out.mono (Nat.le_of_lt T0.out.var.lt))
      have Rb1 : Hid (RowF b1 X B ys) := Rb0.out.below (hb1.out.mono (Nat.le_of_lt T0.out.var.lt))
      have B1 := Lib.hid (B0.out.trans (hb1.out.mono (Nat.le_of_lt T0.out.var.lt)))
      clear hb1 T0 V0 Ra0 Rb0 B0
      cases h1 : shB x y zs
      · skip
        have N := Lib.hid (show (wghB x y zs x y2 ys u v) = false by simp [wghB, wghO, h1])
        obtain ⟨p0, p1, p2, q0, q1, q2, r0, r1, r2, _⟩ := T1.out.s
        have v0 := V1.out.c0
        have v1 := V1.out.c1
        have v2 := V1.out.c2
        go_wp2_with fail
        exact bodyPost_ret (v := .tuple #[.agg #[.int .i64 0, .int .i64 0, .slice none 0 0], .bool false]) (by simp [results, Try.results14, go_sem, q0, q1, q2]) rfl (tpost_no N.out (by rw [HX.out]; exact B1.out.trans (store3 (by omega) _ _ _)))
      · have H1 := Lib.hid h1
        clear h1
        have t0 := T1.out.c0
        have v0 := V1.out.c0
        have t1 := T1.out.c1
        have v1 := V1.out.c1
        have t2 := T1.out.c2
        have v2 := V1.out.c2
        have tl := T1.out.yb
        go_wp2_with fail
        clear t0 t1 t2 v0 v1 v2 tl
        refine (implValid x y2 B d ys b1 (Rb1.out.mono (Nat.le_of_lt T1.out.var.lt)) hm).mono ?_
        rintro e b2 ⟨rfl, hb2⟩
        have T2 := Lib.hid (T1.out.below hb2.out)
        have V2 := Lib.hid (V1.out.below hb2.out)
        have Ra2 : Hid (RowF b2 X A zs) := Ra1.out.below (hb2.out.mono (Nat.le_of_lt T1.out.var.lt))
        have Rb2 : Hid (RowF b2 X B ys) := Rb1.out.below (hb2.out.mono (Nat.le_of_lt T1.out.var.lt))
        have B2 := Lib.hid (B1.out.trans (hb2.out.mono (Nat.le_of_lt T1.out.var.lt)))
        clear hb2 T1 V1 Ra1 Rb1 B1
        cases h2 : shB x y2 ys
        · skip
          have N := Lib.hid (show (wghB x y zs x y2 ys u v) = false by simp [wghB, wghO, h2])
          obtain ⟨p0, p1, p2, q0, q1, q2, r0, r1, r2, _⟩ := T2.out.s
          have v0 := V2.out.c0
          have v1 := V2.out.c1
          have v2 := V2.out.c2
          go_wp2_with fail
          exact bodyPost_ret (v := .tuple #[.agg #[.int .i64 0, .int .i64 0, .slice none 0 0], .bool false]) (by simp [results, Try.results14, go_sem, q0, q1, q2]) rfl (tpost_no N.out (by rw [HX.out]; exact B2.out.trans (store3 (by omega) _ _ _)))
        · have H2 := Lib.hid h2
          clear h2
          have N := Lib.hid (show (wghB x y zs x y2 ys u v) = false by simp [wghB, wghO, hy])
          obtain ⟨p0, p1, p2, q0, q1, q2, r0, r1, r2, _⟩ := T2.out.s
          have v0 := V2.out.c0
          have v1 := V2.out.c1
          have v2 := V2.out.c2
          go_wp2_with fail
          exact bodyPost_ret (v := .tuple #[.agg #[.int .i64 0, .int .i64 0, .slice none 0 0], .bool false]) (by simp [results, Try.results14, go_sem, q0, q1, q2]) rfl (tpost_no N.out (by rw [HX.out]; exact B2.out.trans (store3 (by omega) _ _ _)))
  · skip
    go_enter Try.func14, Try.ntmps14
    go_wp2_with fail
    generalize (((w.alloc (.cells #[.int .i64 x, .int .i64 y, .slice A zs.length c] 27)).alloc (.cells #[.int .i64 x2, .int .i64 y2, .slice B ys.length d] 27)).alloc (.cells #[.int .i64 0, .int .i64 0, .slice none 0 0] 27)) = a0 at *
    generalize hX : w.heap.size = X at *
    have HX := Lib.hid hX
    clear hX
    refine (implValid x y A c zs a0 (Ra0.out.mono (Nat.le_of_lt T0.out.var.lt)) hn).mono ?_
    rintro e b1 ⟨rfl, hb1⟩
    have T1 := Lib.hid (T0.out.below hb1.out)
    have V1 := Lib.hid (V0.out.below hb1.out)
    have Ra1 : Hid (RowF b1 X A zs) := Ra0.out.below (hb1.out.mono (Nat.le_of_lt T0.out.var.lt))
    have Rb1 : Hid (RowF b1 X B ys) := Rb0.out.below (hb1.out.mono (Nat.le_of_lt T0.out.var.lt))
    have B1 := Lib.hid (B0.out.trans (hb1.out.mono (Nat.le_of_lt T0.out.var.lt)))
    clear hb1 T0 V0 Ra0 Rb0 B0
    cases h1 : shB x y zs
    · skip
      have N := Lib.hid (show (wghB x y zs x2 y2 ys u v) = false by simp [wghB, wghO, h1])
      obtain ⟨p0, p1, p2, q0, q1, q2, r0, r1, r2, _⟩ := T1.out.s
      have v0 := V1.out.c0
      have v1 := V1.out.c1
      have v2 := V1.out.c2
      go_wp2_with fail
      exact bodyPost_ret (v := .tuple #[.agg #[.int .i64 0, .int .i64 0, .slice none 0 0], .bool false]) (by simp [results, Try.results14, go_sem, q0, q1, q2]) rfl (tpost_no N.out (by rw [HX.out]; exact B1.out.trans (store3 (by omega) _ _ _)))
    · have H1 := Lib.hid h1
      clear h1
      have t0 := T1.out.c0
      have v0 := V1.out.c0
      have t1 := T1.out.c1
      have v1 := V1.out.c1
      have t2 := T1.out.c2
      have v2 := V1.out.c2
      have tl := T1.out.yb
      go_wp2_with fail
      clear t0 t1 t2 v0 v1 v2 tl
      refine (implValid x2 y2 B d ys b1 (Rb1.out.mono (Nat.le_of_lt T1.out.var.lt)) hm).mono ?_
      rintro e b2 ⟨rfl, hb2⟩
      have T2 := Lib.hid (T1.out.below hb2.out)
      have V2 := Lib.hid (V1.out.below hb2.out)
      have Ra2 : Hid (RowF b2 X A zs) := Ra1.out.below (hb2.out.mono (Nat.le_of_lt T1.out.var.lt))
      have Rb2 : Hid (RowF b2 X B ys) := Rb1.out.below (hb2.out.mono (Nat.le_of_lt T1.out.var.lt))
      have B2 := Lib.hid (B1.out.trans (hb2.out.mono (Nat.le_of_lt T1.out.var.lt)))
      clear hb2 T1 V1 Ra1 Rb1 B1
      cases h2 : shB x2 y2 ys
      · skip
        have N := Lib.hid (show (wghB x y zs x2 y2 ys u v) = false by simp [wghB, wghO, h2])
        obtain ⟨p0, p1, p2, q0, q1, q2, r0, r1, r2, _⟩ := T2.out.s
        have v0 := V2.out.c0
        have v1 := V2.out.c1
        have v2 := V2.out.c2
        go_wp2_with fail
        exact bodyPost_ret (v := .tuple #[.agg #[.int .i64 0, .int .i64 0, .slice none 0 0], .bool false]) (by simp [results, Try.results14, go_sem, q0, q1, q2]) rfl (tpost_no N.out (by rw [HX.out]; exact B2.out.trans (store3 (by omega) _ _ _)))
      · have H2 := Lib.hid h2
        clear h2
        have N := Lib.hid (show (wghB x y zs x2 y2 ys u v) = false by simp [wghB, wghO, hx])
        obtain ⟨p0, p1, p2, q0, q1, q2, r0, r1, r2, _⟩ := T2.out.s
        have v0 := V2.out.c0
        have v1 := V2.out.c1
        have v2 := V2.out.c2
        go_wp2_with fail
        exact bodyPost_ret (v := .tuple #[.agg #[.int .i64 0, .int .i64 0, .slice none 0 0], .bool false]) (by simp [results, Try.results14, go_sem, q0, q1, q2]) rfl (tpost_no N.out (by rw [HX.out]; exact B2.out.trans (store3 (by omega) _ _ _)))

end Go.Proofs.Ytckhdbnoihieeaa
