/-
  What is proved here: NormSheet of the program, as a walk. Conditions: at most 1048576 heights.
-/
import Derived.Test.YtalinjggodmijaaNrm
namespace Go.Proofs.Ytalinjggodmijaa
open Flt Go.RowKit
attribute [local go_sem] run_store_float

set_option maxHeartbeats 8000000 in
set_option maxRecDepth 1000000 in
theorem implNorm (x y : Int) (A : Option Addr) (c : Nat) (zs : List Nat) (w : World) (hr : RowF w w.heap.size A zs) (hn : zs.length ≤ 1048576) (hs : shB x y zs = true) (d : Nat) (hd : floatBits .sub .f32 (hiW zs zs.length) (loW zs zs.length) = some d) (hg : FloatKind.f32.format.order (hiW zs zs.length) (loW zs zs.length) = some .gt) :
    Calls Try.prog 38 #[.agg #[.int .i64 x, .int .i64 y, .slice A zs.length c]] w (TPost (gN (toldB (normF zs (loW zs zs.length) d) zs.length) x) (gN (toldB (normF zs (loW zs zs.length) d) zs.length) y) (gY (toldB (normF zs (loW zs zs.length) d) zs.length) (toldY (normF zs (loW zs zs.length) d) zs.length)) (toldB (normF zs (loW zs zs.length) d) zs.length) w) := by
  have h0 := shB_pos hs
  have H0 := Lib.hid h0
  obtain ⟨b0, off, rfl, hbb, hcell⟩ := hr h0
  have HCL := Lib.hid hcell
  have HBB := Lib.hid hbb
  have T0 := Lib.hid (two_new w x y (some ⟨b0, off, none⟩) zs.length c 27 27)
  have B0 : Hid (Below w.heap.size w ((w.alloc (.cells #[.int .i64 x, .int .i64 y, .slice (some ⟨b0, off, none⟩) zs.length c] 27)).alloc (.cells #[.int .i64 0, .int .i64 0, .slice none 0 0] 27))) := ((Below.refl _ _).alloc (Nat.le_refl _) _).alloc (by simp) _
  have R0 : Hid (RowF ((w.alloc (.cells #[.int .i64 x, .int .i64 y, .slice (some ⟨b0, off, none⟩) zs.length c] 27)).alloc (.cells #[.int .i64 0, .int .i64 0, .slice none 0 0] 27)) w.heap.size (some ⟨b0, off, none⟩) zs) := hr.below B0.out
  have HS := Lib.hid hs
  have hrun := run_f32 hd
  clear hr h0 hbb hcell hs hd
  go_enter Try.func38, Try.ntmps38
  go_wp2_with fail
  generalize (w.alloc (.cells #[.int .i64 x, .int .i64 y, .slice (some ⟨b0, off, none⟩) zs.length c] 27)).alloc (.cells #[.int .i64 0, .int .i64 0, .slice none 0 0] 27) = b at *
  generalize hX : w.heap.size = X at *
  have HX := Lib.hid hX
  clear hX
  refine (implRange x y (some ⟨b0, off, none⟩) c zs b (R0.out.mono (Nat.le_of_lt T0.out.var.lt)) hn).mono ?_
  rintro e b1 ⟨l1, h1, ok1, rfl, hv, hb1⟩
  obtain ⟨rfl, rfl, rfl⟩ := hv.out
  rw [HS.out, if_pos rfl, if_pos rfl]
  have T1 := Lib.hid (T0.out.below hb1.out)
  have R1 : Hid (RowF b1 X (some ⟨b0, off, none⟩) zs) := R0.out.below (hb1.out.mono (Nat.le_of_lt T0.out.var.lt))
  have B1 := Lib.hid (B0.out.trans (hb1.out.mono (Nat.le_of_lt T0.out.var.lt)))
  clear T0 R0 B0 hb1 hv
  have t0 := T1.out.c0
  have t1 := T1.out.c1
  have t2 := T1.out.c2
  go_wp2_with fail
  clear t0 t1 t2
  refine (copyOf_is x y (some ⟨b0, off, none⟩) c zs b1 (R1.out.mono (Nat.le_of_lt T1.out.var.lt)) H0.out hn).mono ?_
  rintro e b2 ⟨g, c', rfl, RO, hb2⟩
  have T2 := Lib.hid (T1.out.below hb2.out)
  have R2 : Hid (RowF b2 X (some ⟨b0, off, none⟩) zs) := R1.out.below (hb2.out.mono (Nat.le_of_lt T1.out.var.lt))
  have B2 := Lib.hid (B1.out.trans (hb2.out.mono (Nat.le_of_lt T1.out.var.lt)))
  obtain ⟨G2', gl, gh, _⟩ := RO.out.toG
  have gX : X + 1 < g := by have := T1.out.yb; omega
  have hbO : Below b2.heap.size b2 (b2.alloc (.cells #[.int .i64 x, .int .i64 y, .slice (some ⟨g, 0, none⟩) zs.length c'] 27)) := (Below.refl _ _).alloc (Nat.le_refl _) _
  have VO := Lib.hid (varT_new b2 x y (some ⟨g, 0, none⟩) zs.length c' 27)
  have T3 := Lib.hid (T2.out.below hbO)
  have R3 : Hid (RowF (b2.alloc (.cells #[.int .i64 x, .int .i64 y, .slice (some ⟨g, 0, none⟩) zs.length c'] 27)) X (some ⟨b0, off, none⟩) zs) := R2.out.below (hbO.mono (Nat.le_of_lt T2.out.var.lt))
  have B3 := Lib.hid (B2.out.trans (hbO.mono (Nat.le_of_lt T2.out.var.lt)))
  have G3 := Lib.hid (G2'.but (ButIn.of hbO) (.inr (Nat.zero_le _)))
  have x2 := T2.out.c2
  have hx := T2.out.var.lt
  clear T1 R1 B1 T2 R2 B2 RO hb2 G2' gl hbO
  go_wp2_with fail
  clear x2 hx
  generalize b2.alloc (.cells #[.int .i64 x, .int .i64 y, .slice (some ⟨g, 0, none⟩) zs.length c'] 27) = b3 at *
  generalize b2.heap.size = O at *
  go_loopw [29] (fun i wr => ∃ k : Nat, k ≤ zs.length ∧ i = .int .i64 k ∧ ∃ ws, Hid (Told (normF zs (loW zs zs.length) d) zs.length k ws) ∧ Hid (RowG wr g ws) ∧ Hid (ButIn g (g + 1) b3 wr)) (fun i _ => zs.length - (intOf i).toNat)
  case atStart => exact ⟨0, Nat.zero_le _, rfl, zs, ⟨rfl, fun j hj => absurd hj (Nat.not_lt_zero _)⟩, G3, ButIn.refl _ _ _⟩
  case round =>
    obtain ⟨k, hk, rfl, ws, hT, hG, hB⟩ := hrel
    have x2 := (T3.out.var.but hB.out (.inl (by omega))).c2
    have o2 := (VO.out.but hB.out (.inr (by omega))).c2
    by_cases hlt : k < zs.length
    · have he := (R3.out.butIn hB.out (Nat.le_of_lt T3.out.var.lt) (.inl (by omega))).at hlt
      obtain ⟨hg1, hg2⟩ := hG.out.cell (k := k) (by rw [hT.out.1]; exact hlt)
      go_wp2_with ((with_reducible refine upon_bin rfl ?_); intro _ _ _ _)
      all_goals
        rename_i r1 m1 w1 e1 r2 m2 w2 e2
        have N1 := Lib.hid (hT.out.step hlt (show can .f32 r2 = normF zs (loW zs zs.length) d k by rw [e2.out, e1.out]; rfl))
        have N2 := fun n => ((hG.out.but (ButIn.of (belowN (n := n) (Below.refl _ _))) (.inr (Nat.zero_le _))).set (k := k) (u := r2) (by rw [hT.out.1]; exact hlt))
        have N3 := fun n => ((hB.out.drewN (n := n)).set (q := ⟨g, k, none⟩) (Nat.le_refl _) (Nat.lt_succ_self _) (.float .f32 r2))
        have N2' := Lib.hid N2
        have N3' := Lib.hid N3
        clear N2 N3 hT hG hB x2 o2 he hg1 hg2 e1 e2 w1 w2
        go_roundw
        case rel => exact ⟨k + 1, by omega, by go_num, _, N1, N2'.out _, N3'.out _⟩
        case measure => simp [intOf]; omega
    · have HK : Hid (k = zs.length) := by show k = zs.length; omega
      have hl := hT.out.1
      have hT' : Hid (Told (normF zs (loW zs zs.length) d) zs.length zs.length ws) := by have := hT.out; rw [HK.out] at this; exact this
      have o0 := (VO.out.but hB.out (.inr (by omega))).c0
      have o1 := (VO.out.but hB.out (.inr (by omega))).c1
      have hgv := implGive x y (some ⟨g, 0, none⟩) c' ws wr hG.out.toRow (by rw [hl]; exact hn) (toldB (normF zs (loW zs zs.length) d) zs.length) (by rw [shB_len HS.out hl, hT'.out.fin])
      rw [hl] at hgv
      have HG := Lib.hid hgv
      have T4 := Lib.hid (T3.out.chg (hB.out.toBelow (by omega) (Nat.succ_le_of_lt T3.out.yb)))
      have B4 := Lib.hid (B3.out.trans (hB.out.toBelow (by omega) (Nat.le_of_lt T3.out.var.lt)))
      have R4 : Hid (RowIn wr g (g + 1) (some ⟨g, 0, none⟩) ws) := hG
      have HL := Lib.hid hl
      clear hgv hT hG hB T3 B3 R3 G3 VO x2 hl HCL HBB
      cases hb : toldB (normF zs (loW zs zs.length) d) zs.length
      · rw [hb] at HG
        have HBF := Lib.hid hb
        clear hb
        go_wp2_with fail
        refine HG.out.mono ?_
        rintro e w5 ⟨_, he5, hb5⟩
        obtain rfl := he5 (by first | rfl | trivial)
        have T5 := Lib.hid (T4.out.below hb5.out)
        have B5 := Lib.hid (B4.out.trans (hb5.out.mono (Nat.le_of_lt T4.out.var.lt)))
        obtain ⟨p0, p1, p2, q0, q1, q2, r0, r1, r2, _⟩ := T5.out.s
        clear he5 hb5 HG o0 o1 o2 T4 B4
        go_wp2_with fail
        refine bodyPost_ret (v := .tuple #[.agg #[.int .i64 0, .int .i64 0, .slice none 0 0], .bool false]) (by simp [results, Try.results38, go_sem, q0, q1, q2]) rfl (tpost_no HBF.out ?_)
        rw [HX.out]
        exact B5.out.trans (store3 (Nat.le_succ X) _ _ _)
      · rw [hb] at HG
        have HBF := Lib.hid hb
        clear hb
        go_wp2_with fail
        refine HG.out.mono ?_
        rintro e w5 ⟨he5, _, hb5⟩
        obtain rfl := he5 (by first | rfl | trivial)
        have T5 := Lib.hid (T4.out.below hb5.out)
        have B5 := Lib.hid (B4.out.trans (hb5.out.mono (Nat.le_of_lt T4.out.var.lt)))
        have R5 := Lib.hid (R4.out.but (ButIn.of hb5.out) (.inr (Nat.zero_le _)))
        obtain ⟨p0, p1, p2, q0, q1, q2, r0, r1, r2, _⟩ := T5.out.s
        have EY := Lib.hid (hT'.out.eq HBF.out)
        clear he5 hb5 HG o0 o1 o2 T4 B4 R4
        go_wp2_with fail
        refine bodyPost_ret (v := .tuple #[.agg #[.int .i64 x, .int .i64 y, .slice (some ⟨g, 0, none⟩) zs.length c'], .bool true]) (by simp [results, Try.results38, go_sem, q0, q1, q2]) rfl (tpost_yes HBF.out (toldY_length _ _) ?_ ?_)
        · have R6 := (R5.out.wide (lo' := X + 2) (hi' := w5.heap.size) (by omega) (by have := R5.out.le; exact this) (Nat.le_refl _))
          rw [EY.out] at R6
          rw [HX.out]
          exact (R6.store3 (Y := X + 1) (Nat.lt_succ_self _) _ _ _).lower (by omega)
        · rw [HX.out]
          exact B5.out.trans (store3 (Nat.le_succ X) _ _ _)

end Go.Proofs.Ytalinjggodmijaa
