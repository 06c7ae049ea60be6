/-
  What is proved here: GrowEdge of the model, as a walk. Conditions: a valid field, at most 512 rounds, a seed.
-/
import Derived.Test.YthhimielelpcoaaEdn
import Derived.Test.YthhimielelpcoaaOwb
import Derived.Test.YthhimielelpcoaaStw
namespace Go.Proofs.Ythhimielelpcoaa
open Go.RowKit
attribute [local go_sem] run_store_bool
set_option linter.unusedVariables false
set_option linter.unusedSimpArgs false

/-- what both give -/
def GrPost (x y : Int) (n : Nat) (p : Nat → Bool) (s : Int) (cn : Nat) (w : World) (e : Ending) (w' : World) : Prop :=
  Hid (Below w.heap.size w w') ∧ ((grB x y n p s cn = true ∧ ∃ A' c', e = .returned (.tuple #[.agg #[.int .i64 x, .int .i64 y, .slice A' n c'], .int .i64 (grJ x y n p s cn).2, .bool true]) ∧ Hid (RowW w' w.heap.size w'.heap.size A' n (bo (grJ x y n p s cn).1))) ∨
    (grB x y n p s cn = false ∧ e = .returned (.tuple #[.agg #[.int .i64 0, .int .i64 0, .slice none 0 0], .int .i64 0, .bool false])))

set_option maxHeartbeats 16000000 in
set_option maxRecDepth 1000000 in
theorem specGrYes (x y : Int) (A : Option Addr) (n c : Nat) (p : Nat → Bool) (cn : Nat) (s : Int) (w : World) (hr : RowV w w.heap.size A n (bo p)) (hn : n ≤ 1048576) (hv : fvB x y n = true) (hc : cn ≤ 512) (h0 : 0 ≤ s) (h1 : s ≤ 2147483647) :
    Calls Try.prog 10 #[.agg #[.int .i64 x, .int .i64 y, .slice A n c], .int .i64 (cn : Nat), .int .i64 s] w (GrPost x y n p s cn w) := by
  have hn1 := (fvB_yes hv).2.2.1
  have hn2 := (fvB_yes hv).2.2.2
  have HNN := Lib.hid (fvB_yes hv).2.1
  have HSB := Lib.hid (grJ_seed (x := x) (y := y) (n := n) (p := p) ⟨h0, h1⟩)
  have HTO : Hid (∀ (v : Nat) (B : Option Addr) (cb : Nat) (q : Nat → Bool) (i : Nat) (W : World), i < n → VarT W v x y B n cb → RowV W W.heap.size B n (bo q) → Calls Try.prog 49 #[.pointer (some ⟨v, 0, none⟩), .int .i64 (i : Int)] W fun e w' => e = .returned (.bool (decide (0 < fulS q x y i))) ∧ Hid (Below W.heap.size W w')) := fun v B cb q i W hi V R => specTou x y i v B n cb q hv (by omega) (by have := HNN.out; omega) W V R
  have B1 := below_var w x y A n c 26
  have V0 := varT_new w x y A n c 26
  have hsz : (w.alloc (.cells #[.int .i64 x, .int .i64 y, .slice A n c] 26)).heap.size = w.heap.size + 1 := by simp
  have B2 := below_var (w.alloc (.cells #[.int .i64 x, .int .i64 y, .slice A n c] 26)) 0 0 none 0 0 26
  have V1 := V0.below B2
  obtain ⟨d0, d1, d2, f0, f1, f2⟩ := fresh3 (w.alloc (.cells #[.int .i64 x, .int .i64 y, .slice A n c] 26)) (.int .i64 0) (.int .i64 0) (.slice none 0 0) 26
  rw [hsz] at d0 d1 d2 f0 f1 f2
  have hlt2 : w.heap.size + 1 < ((w.alloc (.cells #[.int .i64 x, .int .i64 y, .slice A n c] 26)).alloc (.cells #[.int .i64 0, .int .i64 0, .slice none 0 0] 26)).heap.size := by simp
  have HB := Lib.hid (B1.trans (B2.mono B1.size))
  have HV1 := Lib.hid V1
  have HRES := Lib.hid (And.intro d0 (And.intro d1 (And.intro d2 (And.intro f0 (And.intro f1 f2)))))
  have HIN := Lib.hid (fun (a : Nat) (W : World) (h : a ≤ 512) => inS_any (a : Int) 0 512 W)
  have HIN : Hid (∀ (a : Nat) (W : World), a ≤ 512 → Calls Try.prog 46 #[.int .i64 (a : Nat), .int .i64 0, .int .i64 512] W fun e w' => e = .returned (.bool true) ∧ W = w') := fun a W h => by
    have := HIN.out a W h
    rwa [inB_in (by omega) (by omega)] at this
  have HSD := Lib.hid (fun W => specSeed s W)
  rw [show seedB s = true from inB_in h0 h1] at HSD
  have HC := Lib.hid (specIs w.heap.size x y A n c _ V1 hn)
  rw [hv] at HC
  have HCP := Lib.hid (fun W V h => own_is w.heap.size x y A c n p W V h (by omega) hn)
  have HR := Lib.hid hr
  clear hr V0 V1 B1 B2 d0 d1 d2 f0 f1 f2 hsz hv h0 h1
  go_enter Try.func10, Try.ntmps10
  go_wp2_with fail
  generalize ((w.alloc (.cells #[.int .i64 x, .int .i64 y, .slice A n c] 26)).alloc (.cells #[.int .i64 0, .int .i64 0, .slice none 0 0] 26)) = b at *
  refine HC.out.mono ?_
  rintro e w1 ⟨rfl, k1, rfl⟩
  have HK2 : Hid (Below b.heap.size b (b.drewN k1)) := belowN (Below.refl _ _)
  generalize b.drewN k1 = w2 at *
  have HB2 := Lib.hid (HB.out.trans (HK2.out.mono HB.out.size))
  have V2 := Lib.hid (HV1.out.below HK2.out)
  clear HC
  go_wp2_with (first | (go_at_call 46; refine (HIN.out _ _ (by omega)).mono ?_; rintro e w' ⟨rfl, rfl⟩) | (go_at_call 47; refine (HSD.out _).mono ?_; rintro e w' ⟨rfl, rfl⟩))
  refine (HCP.out w2 V2.out ((HR.out.below HB2.out).mono HB2.out.size)).mono ?_
  rintro e w3 ⟨g, cg, rfl, hRG, hb3⟩
  have HB3 := Lib.hid (HB2.out.trans (hb3.out.mono HB2.out.size))
  have HK3 := Lib.hid (HK2.out.trans (hb3.out.mono HK2.out.size))
  have hbv := below_var w3 x y (some ⟨g, 0, none⟩) n cg 26
  have VF := Lib.hid (varT_new w3 x y (some ⟨g, 0, none⟩) n cg 26)
  have HK4 := Lib.hid (HK3.out.trans (hbv.mono HK3.out.size))
  have HB4 := Lib.hid (HB3.out.trans (hbv.mono HB3.out.size))
  have HX2 : Hid (w.heap.size + 2 ≤ w2.heap.size) := Nat.le_trans hlt2 HK2.out.size
  have R4 : Hid (RowW (w3.alloc (.cells #[.int .i64 x, .int .i64 y, .slice (some ⟨g, 0, none⟩) n cg] 26)) (w2.heap.size + 1) w3.heap.size (some ⟨g, 0, none⟩) n (bo (grJ x y n p s 0).1)) := hRG.out.below hbv
  have K4 : Hid (ButIn (w2.heap.size + 1) w3.heap.size (w3.alloc (.cells #[.int .i64 x, .int .i64 y, .slice (some ⟨g, 0, none⟩) n cg] 26)) (w3.alloc (.cells #[.int .i64 x, .int .i64 y, .slice (some ⟨g, 0, none⟩) n cg] 26))) := ButIn.refl _ _ _
  clear hb3 hbv HCP hRG HR
  go_wp2_with fail
  generalize w3.alloc (.cells #[.int .i64 x, .int .i64 y, .slice (some ⟨g, 0, none⟩) n cg] 26) = b4 at *
  go_loopw [1, 2] (fun cs sd wr => ∃ (r k : Nat), r + k = cn ∧ cs = .int .i64 (r : Nat) ∧ sd = .int .i64 (grJ x y n p s k).2 ∧ grB x y n p s k = true ∧ Hid (VarT wr w3.heap.size x y (some ⟨g, 0, none⟩) n cg) ∧ Hid (RowW wr (w2.heap.size + 1) w3.heap.size (some ⟨g, 0, none⟩) n (bo (grJ x y n p s k).1)) ∧ Hid (ButIn (w2.heap.size + 1) w3.heap.size b4 wr)) (fun cs _ _ => (intOf cs).toNat)
  case atStart => exact ⟨cn, 0, rfl, rfl, rfl, rfl, VF, R4, K4⟩
  case round =>
    obtain ⟨r, k, hrk, rfl, rfl, hgb, hV, hRow, hK⟩ := hrel
    have HGB := Lib.hid hgb
    have hsd := HSB.out k
    clear hgb
    by_cases hlt : k < cn
    · have hr0 : 0 < r := by omega
      generalize hq : (grJ x y n p s k).1 = q at *
      generalize hs : (grJ x y n p s k).2 = sk at *
      have HQ := Lib.hid hq
      have HS := Lib.hid hs
      clear hq hs
      generalize wr = wo at *
      have O0 : Hid (GroI (wo.alloc (.cells #[] 2)) wo.heap.size (fulL (edg x y q) 0) (some ⟨wo.heap.size, 0, none⟩) 0) := GroI.lit wo (Nat.le_refl _)
      have B0 : Hid (Below wo.heap.size wo (wo.alloc (.cells #[] 2))) := (Below.refl _ _).alloc (Nat.le_refl _) _
      have v2 := (hV.out.below B0.out).c2
      go_wp2_with fail
      clear v2
      generalize wo.alloc (.cells #[] 2) = wi0 at *
      go_loopw [10, 36] (fun o i wr => ∃ (t : Nat) (A' : Option Addr) (c' : Nat), t ≤ n ∧ i = .int .i64 t ∧ o = .slice A' (fulL (edg x y q) t).length c' ∧ Hid (GroI wr wo.heap.size (fulL (edg x y q) t) A' c') ∧ Hid (Below wo.heap.size wo wr)) (fun _ i _ => n - (intOf i).toNat)
      case atStart => exact ⟨0, _, _, Nat.zero_le _, rfl, rfl, O0, B0⟩
      case round =>
        clear O0 B0
        obtain ⟨t, A', c', ht, rfl, rfl, hO, hB⟩ := hrel
        by_cases hlt3 : t < n
        · have VI := Lib.hid (hV.out.below hB.out)
          have RI := Lib.hid (hRow.out.below hB.out)
          have v2 := VI.out.c2
          obtain ⟨b1, off, e1, hlo, hhi, hcell, _⟩ := RI.out.row (by omega)
          injection e1 with e1
          injection e1 with e1 e2 _
          subst e1 e2
          have hcl := hcell t hlt3
          rw [Nat.zero_add] at hcl
          unfold bo at hcl
          have hl : (fulL (edg x y q) t).length ≤ 1048576 := by rw [fulL_len]; have := fulN_le (edg x y q) t; omega
          have hsz : Hid (wo.heap.size ≤ wr.heap.size) := hB.out.size
          have HT := Lib.hid (HTO.out w3.heap.size (some ⟨g, 0, none⟩) cg q t wr hlt3 VI.out RI.out.toRow)
          have hed : edg x y q t = (!q t && decide (0 < fulS q x y t)) := rfl
          clear hcell hlo hhi
          cases hqt : q t
          · rw [hqt] at hcl hed
            by_cases hf : 0 < fulS q x y t
            · rw [decide_eq_true hf] at HT hed
              have E := Lib.hid (fulL_yes (p := edg x y q) (k := t) hed)
              clear hed
              go_wp2_with (first | (go_at_call 49; refine HT.out.mono ?_; rintro e wj ⟨rfl, hbj⟩; have OJ := Lib.hid (hO.out.below hbj.out); have BJ := Lib.hid (hB.out.trans (hbj.out.mono hB.out.size)); have hszj : Hid (wo.heap.size ≤ wj.heap.size) := BJ.out.size; clear v2 hcl hbj) | (at_builtin; refine wpGroI rfl _ _ rfl (w0 := wj) OJ.out rfl rfl rfl hl hszj.out ?_; intro g2 c2 w4 O4 B4; have HO4 := Lib.hid O4; have HB4' := Lib.hid (BJ.out.trans B4); clear O4 B4))
              go_roundw
              case rel => exact ⟨t + 1, _, _, by omega, by go_num, by rw [E.out, List.length_append]; rfl, by rw [E.out]; exact HO4, HB4'⟩
              case measure => simp [intOf]; omega
            · rw [decide_eq_false hf] at HT hed
              have E := Lib.hid (fulL_no (p := edg x y q) (k := t) hed)
              clear hed
              go_wp2_with (go_at_call 49; refine HT.out.mono ?_; rintro e wj ⟨rfl, hbj⟩; have OJ := Lib.hid (hO.out.below hbj.out); have BJ := Lib.hid (hB.out.trans (hbj.out.mono hB.out.size)); clear v2 hcl hbj)
              go_roundw
              case rel => exact ⟨t + 1, A', c', by omega, by go_num, by rw [E.out], by rw [E.out]; exact OJ, BJ⟩
              case measure => simp [intOf]; omega
          · rw [hqt] at hcl hed
            have E := Lib.hid (fulL_no (p := edg x y q) (k := t) hed)
            clear hed
            go_wp2_with fail
            go_roundw
            case rel => exact ⟨t + 1, A', c', by omega, by go_num, by rw [E.out], by rw [E.out]; exact hO, hB⟩
            case measure => simp [intOf]; omega
        · obtain rfl : t = n := by omega
          have VI := Lib.hid (hV.out.below hB.out)
          have RI := Lib.hid (hRow.out.below hB.out)
          have KI : Hid (ButIn (w2.heap.size + 1) w3.heap.size b4 wr) := hK.out.below hB.out
          have hlt4 : w.heap.size + 1 < b4.heap.size := Nat.lt_of_lt_of_le hlt2 HK4.out.size
          have HBF : Hid (Below w.heap.size w wr) := HB4.out.trans (KI.out.toBelow (by have := HX2.out; omega) HB4.out.size)
          have hle : (fulL (edg x y q) t).length ≤ 256 := by rw [fulL_len]; have := fulN_le (edg x y q) t; omega
          by_cases hl0 : (fulL (edg x y q) t).length = 0
          · have hbad : Hid (grB x y t p s cn = false) := grB_stop (j := k) (by rw [HQ.out]; exact hl0) hlt
            obtain ⟨d0, d1, d2, f0, f1, f2⟩ := HRES.out
            have eB := KI.out.block (w.heap.size + 1) hlt4 (.inl (by have := HX2.out; omega))
            have q0 := ((World.cell?_of_block (w := b4) (a := ⟨w.heap.size + 1, 0, none⟩) eB).trans (HK4.out.cell (p := ⟨w.heap.size + 1, 0, none⟩) hlt2)).trans d0
            have q1 := ((World.cell?_of_block (w := b4) (a := ⟨w.heap.size + 1, 1, none⟩) eB).trans (HK4.out.cell (p := ⟨w.heap.size + 1, 1, none⟩) hlt2)).trans d1
            have q2 := ((World.cell?_of_block (w := b4) (a := ⟨w.heap.size + 1, 2, none⟩) eB).trans (HK4.out.cell (p := ⟨w.heap.size + 1, 2, none⟩) hlt2)).trans d2
            have g0 := ((World.frozen?_of_block (w := b4) (a := ⟨w.heap.size + 1, 0, none⟩) eB).trans (HK4.out.frozen (p := ⟨w.heap.size + 1, 0, none⟩) hlt2)).trans f0
            have g1 := ((World.frozen?_of_block (w := b4) (a := ⟨w.heap.size + 1, 1, none⟩) eB).trans (HK4.out.frozen (p := ⟨w.heap.size + 1, 1, none⟩) hlt2)).trans f1
            have g2 := ((World.frozen?_of_block (w := b4) (a := ⟨w.heap.size + 1, 2, none⟩) eB).trans (HK4.out.frozen (p := ⟨w.heap.size + 1, 2, none⟩) hlt2)).trans f2
            clear eB d0 d1 d2 f0 f1 f2 HRES hV hRow hK VI RI KI hO hB
            go_wp2_with fail
            refine bodyPost_ret (v := .tuple #[.agg #[.int .i64 0, .int .i64 0, .slice none 0 0], .int .i64 0, .bool false]) (by simp [results, Try.results10, go_sem, q0, q1, q2]) rfl ?_
            exact ⟨store3 HBF.out (Nat.le_succ _) (.int .i64 0) (.int .i64 0) (.slice none 0 0), .inr ⟨hbad.out, rfl⟩⟩
          · have hpos : 0 < (fulL (edg x y q) t).length := by omega
            have hgo : Hid (grB x y t p s (k + 1) = true) := grB_go HGB.out (by rw [HQ.out]; exact hpos)
            have hdb := drawS_bd sk (n := ((fulL (edg x y q) t).length : Int)) (by omega)
            obtain ⟨hcc, hat⟩ := edC_lt (s := sk) hpos hdb
            have HSTP : Hid (grJ x y t p s (k + 1) = (fiP q (edC x y t q sk), nextS sk)) := by
              show (fiP (grJ x y t p s k).1 (edC x y t (grJ x y t p s k).1 (grJ x y t p s k).2), nextS (grJ x y t p s k).2) = _
              rw [HQ.out, HS.out]
            have hat2 : atI (fulL (edg x y q) t) (drawS sk ((fulL (edg x y q) t).length : Int)).toNat = (edC x y t q sk : Int) := hat
            obtain ⟨j, hj⟩ : ∃ j : Nat, drawS sk ((fulL (edg x y q) t).length : Int) = (j : Int) := ⟨_, (Int.toNat_of_nonneg hdb.1).symm⟩
            have HDR := Lib.hid (fun W => specDraw sk ((fulL (edg x y q) t).length : Int) hsd.1 hsd.2 (by omega) (by omega) W)
            rw [hj] at HDR hat2 hdb
            rw [Int.toNat_natCast] at hat2
            have hjl : j < (fulL (edg x y q) t).length := by omega
            generalize edC x y t q sk = cc at *
            obtain ⟨lg, rfl⟩ := hO.out.adr hjl
            have hcl := hO.out.at hjl
            rw [hat2] at hcl
            have v2 := VI.out.c2
            obtain ⟨b1, off, e1, hlo, hhi, hcell, hfree⟩ := RI.out.row (by omega)
            injection e1 with e1
            injection e1 with e1 e2 _
            subst e1 e2
            have hcb := hcell cc hcc
            have hcf := hfree cc hcc
            rw [Nat.zero_add] at hcb hcf
            unfold bo at hcb
            have R6 := RI.out.setW (k := cc) (u := .bool true) hcc
            rw [Nat.zero_add] at R6
            have R7 : Hid (RowW (wr.setCell ⟨g, cc, none⟩ (.bool true)) (w2.heap.size + 1) w3.heap.size (some ⟨g, 0, none⟩) t (bo (grJ x y t p s (k + 1)).1)) := R6.ext fun i _ => by
              rw [HSTP.out]
              show (if i = cc then Value.bool true else Value.bool (q i)) = Value.bool (decide (i = cc) || q i)
              by_cases hi : i = cc
              · rw [if_pos hi, decide_eq_true hi]; rfl
              · rw [if_neg hi, decide_eq_false hi]; rfl
            have hVg : w3.heap.size ≠ g := by omega
            have V7 : Hid (VarT (wr.setCell ⟨g, cc, none⟩ (.bool true)) w3.heap.size x y (some ⟨g, 0, none⟩) t cg) := VI.out.but ((ButIn.refl g (g + 1) wr).set (q := ⟨g, cc, none⟩) (Nat.le_refl _) (Nat.lt_succ_self _) _) (by omega)
            have K7 : Hid (ButIn (w2.heap.size + 1) w3.heap.size b4 (wr.setCell ⟨g, cc, none⟩ (.bool true))) := KI.out.set (q := ⟨g, cc, none⟩) hlo hhi _
            clear hcell hfree R6 hV hRow hK RI VI KI hO hB hat hat2 hdb hj hl0
            generalize (fulL (edg x y q) t).length = ll at *
            go_wp2_with (go_at_call 50; refine (HDR.out _).mono ?_; rintro e wj ⟨rfl, rfl⟩)
            go_region
            go_wp2_with fail
            go_roundw
            case rel => exact ⟨r - 1, k + 1, by omega, by go_num, by rw [HSTP.out], hgo.out, V7.out.drewN (m := 1), R7.out.drewN (m := 1), K7.out.drewN (n := 1)⟩
            case measure => simp [intOf]; omega
    · obtain rfl : k = cn := by omega
      obtain rfl : r = 0 := by omega
      obtain ⟨d0, d1, d2, f0, f1, f2⟩ := HRES.out
      have hlt4 : w.heap.size + 1 < b4.heap.size := Nat.lt_of_lt_of_le hlt2 HK4.out.size
      have eB := hK.out.block (w.heap.size + 1) hlt4 (.inl (by have := HX2.out; omega))
      have q0 := ((World.cell?_of_block (w := b4) (a := ⟨w.heap.size + 1, 0, none⟩) eB).trans (HK4.out.cell (p := ⟨w.heap.size + 1, 0, none⟩) hlt2)).trans d0
      have q1 := ((World.cell?_of_block (w := b4) (a := ⟨w.heap.size + 1, 1, none⟩) eB).trans (HK4.out.cell (p := ⟨w.heap.size + 1, 1, none⟩) hlt2)).trans d1
      have q2 := ((World.cell?_of_block (w := b4) (a := ⟨w.heap.size + 1, 2, none⟩) eB).trans (HK4.out.cell (p := ⟨w.heap.size + 1, 2, none⟩) hlt2)).trans d2
      have g0 := ((World.frozen?_of_block (w := b4) (a := ⟨w.heap.size + 1, 0, none⟩) eB).trans (HK4.out.frozen (p := ⟨w.heap.size + 1, 0, none⟩) hlt2)).trans f0
      have g1 := ((World.frozen?_of_block (w := b4) (a := ⟨w.heap.size + 1, 1, none⟩) eB).trans (HK4.out.frozen (p := ⟨w.heap.size + 1, 1, none⟩) hlt2)).trans f1
      have g2 := ((World.frozen?_of_block (w := b4) (a := ⟨w.heap.size + 1, 2, none⟩) eB).trans (HK4.out.frozen (p := ⟨w.heap.size + 1, 2, none⟩) hlt2)).trans f2
      have v0 := hV.out.c0
      have v1 := hV.out.c1
      have v2 := hV.out.c2
      have HBF := Lib.hid (HB4.out.trans (hK.out.toBelow (by have := HX2.out; omega) HB4.out.size))
      have HX3 := Lib.hid HX2.out
      clear eB d0 d1 d2 f0 f1 f2 HRES
      go_wp2_with fail
      refine bodyPost_ret (v := .tuple #[.agg #[.int .i64 x, .int .i64 y, .slice (some ⟨g, 0, none⟩) n cg], .int .i64 (grJ x y n p s k).2, .bool true]) (by simp [results, Try.results10, go_sem, q0, q1, q2]) rfl ?_
      have a1 := ((hRow.out.store3 (Y := w.heap.size + 1) (by have := HX3.out; omega) (.int .i64 x) (.int .i64 y) (.slice (some ⟨g, 0, none⟩) n cg)).upper (hi' := (((wr.setCell ⟨w.heap.size + 1, 0, none⟩ (.int .i64 x)).setCell ⟨w.heap.size + 1, 1, none⟩ (.int .i64 y)).setCell ⟨w.heap.size + 1, 2, none⟩ (.slice (some ⟨g, 0, none⟩) n cg)).heap.size) (by have := hRow.out.le; simpa [World.setCell] using this) (Nat.le_refl _)).lower (lo' := w.heap.size) (by have := HX3.out; omega)
      have a2 := store3 HBF.out (Nat.le_succ _) (.int .i64 x) (.int .i64 y) (.slice (some ⟨g, 0, none⟩) n cg)
      exact ⟨a2, .inl ⟨HGB.out, some ⟨g, 0, none⟩, cg, rfl, a1⟩⟩
end Go.Proofs.Ythhimielelpcoaa
