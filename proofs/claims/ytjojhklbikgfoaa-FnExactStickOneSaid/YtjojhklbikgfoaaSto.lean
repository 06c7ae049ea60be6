/-
  What is proved here: StickOne, of both packages, as walks. Conditions: at most 1048576 cells.
-/
import Derived.Test.YtjojhklbikgfoaaStm
namespace Go.Proofs.Ytjojhklbikgfoaa
open Go.RowKit
attribute [local go_sem] run_store_bool
set_option linter.unusedVariables false

set_option maxHeartbeats 16000000 in
theorem specOneNo (x y : Int) (A : Option Addr) (n c : Nat) (p : Nat → Bool) (mo sd : Int) (w : World) (hr : RowV w w.heap.size A n (bo p)) (hn : n ≤ 1048576) (vb : Bool) (mb : Bool) (sb : Bool) (hv : fvB x y n = vb) (hm : inB mo 0 512 = mb) (hs : seedB sd = sb) (hno : (vb && mb && sb) = false) :
    Calls Try.prog 29 #[.agg #[.int .i64 x, .int .i64 y, .slice A n c], .int .i64 mo, .int .i64 sd] w fun e w' => ∃ A' c', e = .returned (.tuple #[.agg #[.int .i64 0, .int .i64 0, .slice A' 0 c'], .int .i64 0, .bool false, .bool false]) ∧ Hid (RowW w' w.heap.size w'.heap.size A' 0 (bo (fun _ => false))) ∧ Hid (Below w.heap.size w w') := by
  have B1 := below_var w x y A n c 27
  have V0 := varT_new w x y A n c 27
  have hsz : (w.alloc (.cells #[.int .i64 x, .int .i64 y, .slice A n c] 27)).heap.size = w.heap.size + 1 := by simp
  have B2 := below_var (w.alloc (.cells #[.int .i64 x, .int .i64 y, .slice A n c] 27)) 0 0 none 0 0 27
  have V1 := V0.below B2
  obtain ⟨d0, d1, d2, f0, f1, f2⟩ := fresh3 (w.alloc (.cells #[.int .i64 x, .int .i64 y, .slice A n c] 27)) (.int .i64 0) (.int .i64 0) (.slice none 0 0) 27
  rw [hsz] at d0 d1 d2 f0 f1 f2
  have hlt2 : w.heap.size + 1 < ((w.alloc (.cells #[.int .i64 x, .int .i64 y, .slice A n c] 27)).alloc (.cells #[.int .i64 0, .int .i64 0, .slice none 0 0] 27)).heap.size := by simp
  have HB := Lib.hid (B1.trans (B2.mono B1.size))
  have HV1 := Lib.hid V1
  have HRES := Lib.hid (And.intro d0 (And.intro d1 (And.intro d2 (And.intro f0 (And.intro f1 f2)))))
  have HC := Lib.hid (specIs w.heap.size x y A n c _ V1 hn)
  rw [hv] at HC
  have HIm := Lib.hid (fun W => inS_any mo 0 512 W)
  rw [hm] at HIm
  have HSD := Lib.hid (fun W => specSeed sd W)
  rw [hs] at HSD
  clear hr V0 V1 B1 B2 d0 d1 d2 f0 f1 f2 hsz hv hm hs
  cases vb <;> cases mb <;> cases sb
  all_goals first
    | (exfalso; revert hno; decide)
    | (go_enter Try.func29, Try.ntmps29
       go_wp2_with fail
       generalize ((w.alloc (.cells #[.int .i64 x, .int .i64 y, .slice A n c] 27)).alloc (.cells #[.int .i64 0, .int .i64 0, .slice none 0 0] 27)) = b at *
       refine HC.out.mono ?_
       rintro e w1 ⟨rfl, k1, rfl⟩
       have hbk : Below b.heap.size b (b.drewN k1) := belowN (Below.refl _ _)
       generalize b.drewN k1 = w1 at *
       obtain ⟨d0, d1, d2, f0, f1, f2⟩ := HRES.out
       have q0 := (hbk.cell (p := ⟨w.heap.size + 1, 0, none⟩) hlt2).trans d0
       have q1 := (hbk.cell (p := ⟨w.heap.size + 1, 1, none⟩) hlt2).trans d1
       have q2 := (hbk.cell (p := ⟨w.heap.size + 1, 2, none⟩) hlt2).trans d2
       have g0 := (hbk.frozen (p := ⟨w.heap.size + 1, 0, none⟩) hlt2).trans f0
       have g1 := (hbk.frozen (p := ⟨w.heap.size + 1, 1, none⟩) hlt2).trans f1
       have g2 := (hbk.frozen (p := ⟨w.heap.size + 1, 2, none⟩) hlt2).trans f2
       have HB1 := Lib.hid (HB.out.trans (hbk.mono HB.out.size))
       clear d0 d1 d2 f0 f1 f2 HRES hbk HC
       go_wp2_with (first | (go_at_call 59; (first | (with_reducible refine (HIm.out _).mono ?_)); rintro e w' ⟨rfl, rfl⟩) | (go_at_call 67; refine (HSD.out _).mono ?_; rintro e w' ⟨rfl, rfl⟩))
       refine bodyPost_ret (v := .tuple #[.agg #[.int .i64 0, .int .i64 0, .slice none 0 0], .int .i64 0, .bool false, .bool false]) (by simp [results, Try.results29, go_sem, q0, q1, q2]) rfl ?_
       have a2 := store3 HB1.out (Nat.le_succ _) (.int .i64 0) (.int .i64 0) (.slice none 0 0)
       first | exact ⟨none, 0, rfl, RowW.empty (Nat.le_refl _), a2⟩ | exact ⟨none, ⟨0, rfl⟩, RowW.empty (Nat.le_refl _), a2⟩)
set_option maxHeartbeats 16000000 in
set_option maxRecDepth 100000 in
theorem specOneYes (x y : Int) (A : Option Addr) (n c : Nat) (p : Nat → Bool) (m : Nat) (s : Int) (w : World) (hr : RowV w w.heap.size A n (bo p)) (hn : n ≤ 1048576) (hv : fvB x y n = true) (hm : m ≤ 512) (h0 : 0 ≤ s) (h1 : s ≤ 2147483647) :
    Calls Try.prog 29 #[.agg #[.int .i64 x, .int .i64 y, .slice A n c], .int .i64 (m : Nat), .int .i64 s] w fun e w' => ∃ A' c', e = .returned (.tuple #[.agg #[.int .i64 x, .int .i64 y, .slice A' n c'], .int .i64 (stkS p x y n m s), .bool (stkB p x y n m s), .bool true]) ∧ Hid (RowW w' w.heap.size w'.heap.size A' n (bo (stkF p x y n m s))) ∧ Hid (Below w.heap.size w w') := by
  have hn1 := (fvB_yes hv).2.2.1
  have B1 := below_var w x y A n c 27
  have V0 := varT_new w x y A n c 27
  have hsz : (w.alloc (.cells #[.int .i64 x, .int .i64 y, .slice A n c] 27)).heap.size = w.heap.size + 1 := by simp
  have B2 := below_var (w.alloc (.cells #[.int .i64 x, .int .i64 y, .slice A n c] 27)) 0 0 none 0 0 27
  have V1 := V0.below B2
  obtain ⟨d0, d1, d2, f0, f1, f2⟩ := fresh3 (w.alloc (.cells #[.int .i64 x, .int .i64 y, .slice A n c] 27)) (.int .i64 0) (.int .i64 0) (.slice none 0 0) 27
  rw [hsz] at d0 d1 d2 f0 f1 f2
  have hlt2 : w.heap.size + 1 < ((w.alloc (.cells #[.int .i64 x, .int .i64 y, .slice A n c] 27)).alloc (.cells #[.int .i64 0, .int .i64 0, .slice none 0 0] 27)).heap.size := by simp
  have HB := Lib.hid (B1.trans (B2.mono B1.size))
  have HV1 := Lib.hid V1
  have HRES := Lib.hid (And.intro d0 (And.intro d1 (And.intro d2 (And.intro f0 (And.intro f1 f2)))))
  have HIN := Lib.hid (fun (a : Nat) (W : World) (h : a ≤ 512) => inS_any (a : Int) 0 512 W)
  have HIN : Hid (∀ (a : Nat) (W : World), a ≤ 512 → Calls Try.prog 59 #[.int .i64 (a : Nat), .int .i64 0, .int .i64 512] W fun e w' => e = .returned (.bool true) ∧ W = w') := fun a W h => by
    have := HIN.out a W h
    rwa [inB_in (by omega) (by omega)] at this
  have HSD := Lib.hid (fun W => specSeed s W)
  rw [show seedB s = true from inB_in h0 h1] at HSD
  have HC := Lib.hid (specIs w.heap.size x y A n c _ V1 hn)
  rw [hv] at HC
  have HCP := Lib.hid (fun W V h => own_is w.heap.size x y A c n p W V h (by omega) hn)
  have HSTK := Lib.hid (fun (v : Nat) (A : Option Addr) (c lo hi : Nat) (W : World) (V : VarT W v x y A n c) (R : RowW W lo hi A n (bo p)) => specStk x y v A n c p m s hv hm h0 h1 lo hi W V R)
  have HR := Lib.hid hr
  clear hr V0 V1 B1 B2 d0 d1 d2 f0 f1 f2 hsz hv h0 h1
  go_enter Try.func29, Try.ntmps29
  go_wp2_with fail
  generalize ((w.alloc (.cells #[.int .i64 x, .int .i64 y, .slice A n c] 27)).alloc (.cells #[.int .i64 0, .int .i64 0, .slice none 0 0] 27)) = b at *
  refine HC.out.mono ?_
  rintro e w1 ⟨rfl, k1, rfl⟩
  have HK2 : Hid (Below b.heap.size b (b.drewN k1)) := belowN (Below.refl _ _)
  generalize b.drewN k1 = w2 at *
  have HB2 := Lib.hid (HB.out.trans (HK2.out.mono HB.out.size))
  have V2 := Lib.hid (HV1.out.below HK2.out)
  clear HC
  go_wp2_with (first | (go_at_call 59; refine (HIN.out _ _ (by omega)).mono ?_; rintro e w' ⟨rfl, rfl⟩) | (go_at_call 67; refine (HSD.out _).mono ?_; rintro e w' ⟨rfl, rfl⟩))
  refine (HCP.out w2 V2.out ((HR.out.below HB2.out).mono HB2.out.size)).mono ?_
  rintro e w3 ⟨g, cg, rfl, hRG, hb3⟩
  have HB3 := Lib.hid (HB2.out.trans (hb3.out.mono HB2.out.size))
  have HK3 := Lib.hid (HK2.out.trans (hb3.out.mono HK2.out.size))
  have hbv := below_var w3 x y (some ⟨g, 0, none⟩) n cg 27
  have VF := Lib.hid (varT_new w3 x y (some ⟨g, 0, none⟩) n cg 27)
  have HK4 := Lib.hid (HK3.out.trans (hbv.mono HK3.out.size))
  have HB4 := Lib.hid (HB3.out.trans (hbv.mono HB3.out.size))
  have HX2 : Hid (w.heap.size + 2 ≤ w2.heap.size) := Nat.le_trans hlt2 HK2.out.size
  have R4 : Hid (RowW (w3.alloc (.cells #[.int .i64 x, .int .i64 y, .slice (some ⟨g, 0, none⟩) n cg] 27)) (w2.heap.size + 1) w3.heap.size (some ⟨g, 0, none⟩) n (bo p)) := hRG.out.below hbv
  have K4 : Hid (ButIn (w2.heap.size + 1) w3.heap.size (w3.alloc (.cells #[.int .i64 x, .int .i64 y, .slice (some ⟨g, 0, none⟩) n cg] 27)) (w3.alloc (.cells #[.int .i64 x, .int .i64 y, .slice (some ⟨g, 0, none⟩) n cg] 27))) := ButIn.refl _ _ _
  clear hb3 hbv HCP hRG HR
  go_wp2_with fail
  generalize w3.alloc (.cells #[.int .i64 x, .int .i64 y, .slice (some ⟨g, 0, none⟩) n cg] 27) = b4 at *
  have v0 := VF.out.c0
  have v1 := VF.out.c1
  have v2 := VF.out.c2
  refine (HSTK.out _ _ cg _ _ b4 VF.out R4.out).mono ?_
  rintro e wr ⟨rfl, hRow, hK⟩
  have hV := Lib.hid (VF.out.but hK.out (.inr (Nat.le_refl _)))
  clear v0 v1 v2 HSTK R4 K4
  obtain ⟨d0, d1, d2, f0, f1, f2⟩ := HRES.out
  have hlt4 : w.heap.size + 1 < b4.heap.size := Nat.lt_of_lt_of_le hlt2 HK4.out.size
  have eB := hK.out.block (w.heap.size + 1) hlt4 (.inl (by have := HX2.out; omega))
  have q0 := ((World.cell?_of_block (w := b4) (a := ⟨w.heap.size + 1, 0, none⟩) eB).trans (HK4.out.cell (p := ⟨w.heap.size + 1, 0, none⟩) hlt2)).trans d0
  have q1 := ((World.cell?_of_block (w := b4) (a := ⟨w.heap.size + 1, 1, none⟩) eB).trans (HK4.out.cell (p := ⟨w.heap.size + 1, 1, none⟩) hlt2)).trans d1
  have q2 := ((World.cell?_of_block (w := b4) (a := ⟨w.heap.size + 1, 2, none⟩) eB).trans (HK4.out.cell (p := ⟨w.heap.size + 1, 2, none⟩) hlt2)).trans d2
  have g0 := ((World.frozen?_of_block (w := b4) (a := ⟨w.heap.size + 1, 0, none⟩) eB).trans (HK4.out.frozen (p := ⟨w.heap.size + 1, 0, none⟩) hlt2)).trans f0
  have g1 := ((World.frozen?_of_block (w := b4) (a := ⟨w.heap.size + 1, 1, none⟩) eB).trans (HK4.out.frozen (p := ⟨w.heap.size + 1, 1, none⟩) hlt2)).trans f1
  have g2 := ((World.frozen?_of_block (w := b4) (a := ⟨w.heap.size + 1, 2, none⟩) eB).trans (HK4.out.frozen (p := ⟨w.heap.size + 1, 2, none⟩) hlt2)).trans f2
  have v0 := hV.out.c0
  have v1 := hV.out.c1
  have v2 := hV.out.c2
  have HBF := Lib.hid (HB4.out.trans (hK.out.toBelow (by have := HX2.out; omega) HB4.out.size))
  have HX3 := Lib.hid HX2.out
  clear eB d0 d1 d2 f0 f1 f2 HRES
  go_wp2_with fail
  refine bodyPost_ret (v := .tuple #[.agg #[.int .i64 x, .int .i64 y, .slice (some ⟨g, 0, none⟩) n cg], .int .i64 (stkS p x y n m s), .bool (stkB p x y n m s), .bool true]) (by simp [results, Try.results29, go_sem, q0, q1, q2]) rfl ?_
  have a1 := ((hRow.out.store3 (Y := w.heap.size + 1) (by have := HX3.out; omega) (.int .i64 x) (.int .i64 y) (.slice (some ⟨g, 0, none⟩) n cg)).upper (hi' := (((wr.setCell ⟨w.heap.size + 1, 0, none⟩ (.int .i64 x)).setCell ⟨w.heap.size + 1, 1, none⟩ (.int .i64 y)).setCell ⟨w.heap.size + 1, 2, none⟩ (.slice (some ⟨g, 0, none⟩) n cg)).heap.size) (by have := hRow.out.le; simpa [World.setCell] using this) (Nat.le_refl _)).lower (lo' := w.heap.size) (by have := HX3.out; omega)
  have a2 := store3 HBF.out (Nat.le_succ _) (.int .i64 x) (.int .i64 y) (.slice (some ⟨g, 0, none⟩) n cg)
  first | exact ⟨some ⟨g, 0, none⟩, cg, rfl, a1, a2⟩ | exact ⟨some ⟨g, 0, none⟩, ⟨cg, rfl⟩, a1, a2⟩

set_option maxHeartbeats 4000000 in
theorem implOne (x y : Int) (A : Option Addr) (n c : Nat) (p : Nat → Bool) (mo sd sq sk : Int) (fx fy : Int) (fn : Nat) (ff : Nat → Bool) (b : Bool) (w : World) (hr : RowV w w.heap.size A n (bo p))
    (hc : ∀ (W : World) (A : Option Addr) (c : Nat), RowV W W.heap.size A n (bo p) → Calls Try.prog 32 #[.agg #[.int .i64 x, .int .i64 y, .slice A n c], .int .i64 1, .int .i64 mo, .int .i64 sd] W fun e w' => ∃ A' c', e = .returned (.tuple #[.agg #[.int .i64 fx, .int .i64 fy, .slice A' fn c'], .int .i64 sq, .int .i64 sk, .bool b]) ∧ Hid (RowW w' W.heap.size w'.heap.size A' fn (bo ff)) ∧ Hid (Below W.heap.size W w')) :
    Calls Try.prog 30 #[.agg #[.int .i64 x, .int .i64 y, .slice A n c], .int .i64 mo, .int .i64 sd] w fun e w' => ∃ A' c', e = .returned (.tuple #[.agg #[.int .i64 fx, .int .i64 fy, .slice A' fn c'], .int .i64 sq, .bool (sk == 1), .bool b]) ∧ Hid (RowW w' w.heap.size w'.heap.size A' fn (bo ff)) ∧ Hid (Below w.heap.size w w') := by
  have B1 := below_var w x y A n c 27
  have V0 := varT_new w x y A n c 27
  have hsz : (w.alloc (.cells #[.int .i64 x, .int .i64 y, .slice A n c] 27)).heap.size = w.heap.size + 1 := by simp
  have B2 := below_var (w.alloc (.cells #[.int .i64 x, .int .i64 y, .slice A n c] 27)) 0 0 none 0 0 27
  have V1 := V0.below B2
  obtain ⟨d0, d1, d2, f0, f1, f2⟩ := fresh3 (w.alloc (.cells #[.int .i64 x, .int .i64 y, .slice A n c] 27)) (.int .i64 0) (.int .i64 0) (.slice none 0 0) 27
  rw [hsz] at d0 d1 d2 f0 f1 f2
  have hlt2 : w.heap.size + 1 < ((w.alloc (.cells #[.int .i64 x, .int .i64 y, .slice A n c] 27)).alloc (.cells #[.int .i64 0, .int .i64 0, .slice none 0 0] 27)).heap.size := by simp
  have HB := Lib.hid (B1.trans (B2.mono B1.size))
  have HV1 := Lib.hid V1
  have HRES := Lib.hid (And.intro d0 (And.intro d1 (And.intro d2 (And.intro f0 (And.intro f1 f2)))))
  have HR := Lib.hid (hr.carry HB.out)
  have HC := Lib.hid hc
  clear hc
  clear hr V0 V1 B1 B2 d0 d1 d2 f0 f1 f2 hsz
  have c0 := HV1.out.c0
  have c1 := HV1.out.c1
  have c2 := HV1.out.c2
  go_enter Try.func30, Try.ntmps30
  go_wp2_with fail
  generalize ((w.alloc (.cells #[.int .i64 x, .int .i64 y, .slice A n c] 27)).alloc (.cells #[.int .i64 0, .int .i64 0, .slice none 0 0] 27)) = b1 at *
  clear c0 c1 c2
  refine (HC.out b1 A c HR.out).mono ?_
  rintro e w1 ⟨Ag, cg, rfl, hR, hb1⟩
  have hbv := below_var w1 fx fy Ag fn cg 27
  have V5 := varT_new w1 fx fy Ag fn cg 27
  have hbk := hb1.out.trans (hbv.mono hb1.out.size)
  obtain ⟨d0, d1, d2, f0, f1, f2⟩ := HRES.out
  have q0 := (hbk.cell (p := ⟨w.heap.size + 1, 0, none⟩) hlt2).trans d0
  have q1 := (hbk.cell (p := ⟨w.heap.size + 1, 1, none⟩) hlt2).trans d1
  have q2 := (hbk.cell (p := ⟨w.heap.size + 1, 2, none⟩) hlt2).trans d2
  have g0 := (hbk.frozen (p := ⟨w.heap.size + 1, 0, none⟩) hlt2).trans f0
  have g1 := (hbk.frozen (p := ⟨w.heap.size + 1, 1, none⟩) hlt2).trans f1
  have g2 := (hbk.frozen (p := ⟨w.heap.size + 1, 2, none⟩) hlt2).trans f2
  have v0 := V5.c0
  have v1 := V5.c1
  have v2 := V5.c2
  have HB1 := Lib.hid (HB.out.trans (hbk.mono HB.out.size))
  have HR5 := Lib.hid (hR.out.below hbv)
  have HLT := Lib.hid (Nat.succ_le_of_lt hlt2)
  have HSZ : Hid (w1.heap.size ≤ (w1.alloc (.cells #[.int .i64 fx, .int .i64 fy, .slice Ag fn cg] 27)).heap.size) := hbv.size
  clear d0 d1 d2 f0 f1 f2 HRES hbk HC hR hb1 hbv V5 HV1 HB HR
  go_wp2_with fail
  generalize w1.alloc (.cells #[.int .i64 fx, .int .i64 fy, .slice Ag fn cg] 27) = w5 at *
  cases hq : (sk == 1)
  all_goals
    go_wp2_with fail
    refine bodyPost_ret (v := .tuple #[.agg #[.int .i64 fx, .int .i64 fy, .slice Ag fn cg], .int .i64 sq, .bool _, .bool b]) (by simp [results, Try.results30, go_sem, q0, q1, q2]; rfl) rfl ?_
    have a1 := ((HR5.out.store3 (Y := w.heap.size + 1) (by have := HLT.out; omega) (.int .i64 fx) (.int .i64 fy) (.slice Ag fn cg)).upper (hi' := (((w5.setCell ⟨w.heap.size + 1, 0, none⟩ (.int .i64 fx)).setCell ⟨w.heap.size + 1, 1, none⟩ (.int .i64 fy)).setCell ⟨w.heap.size + 1, 2, none⟩ (.slice Ag fn cg)).heap.size) (by have := HSZ.out; simpa [World.setCell] using this) (Nat.le_refl _)).lower (lo' := w.heap.size) (by have := HLT.out; omega)
    have a2 := store3 HB1.out (Nat.le_succ _) (.int .i64 fx) (.int .i64 fy) (.slice Ag fn cg)
    first | exact ⟨Ag, cg, rfl, a1, a2⟩ | exact ⟨Ag, ⟨cg, rfl⟩, a1, a2⟩

theorem stoBoth (x y : Int) (n : Nat) (p : Nat → Bool) (mo sd : Int) (hn : n ≤ 1048576) : ∃ (b : Bool) (sq : Int) (sk : Bool) (fx fy : Int) (fn : Nat) (ff : Nat → Bool), fn ≤ 1048576 ∧
    (∀ (W : World) (A : Option Addr) (c : Nat), RowV W W.heap.size A n (bo p) → Calls Try.prog 29 #[.agg #[.int .i64 x, .int .i64 y, .slice A n c], .int .i64 mo, .int .i64 sd] W fun e w' => ∃ A' c', e = .returned (.tuple #[.agg #[.int .i64 fx, .int .i64 fy, .slice A' fn c'], .int .i64 sq, .bool sk, .bool b]) ∧ Hid (RowW w' W.heap.size w'.heap.size A' fn (bo ff)) ∧ Hid (Below W.heap.size W w')) ∧
    (∀ (W : World) (A : Option Addr) (c : Nat), RowV W W.heap.size A n (bo p) → Calls Try.prog 30 #[.agg #[.int .i64 x, .int .i64 y, .slice A n c], .int .i64 mo, .int .i64 sd] W fun e w' => ∃ A' c', e = .returned (.tuple #[.agg #[.int .i64 fx, .int .i64 fy, .slice A' fn c'], .int .i64 sq, .bool sk, .bool b]) ∧ Hid (RowW w' W.heap.size w'.heap.size A' fn (bo ff)) ∧ Hid (Below W.heap.size W w')) := by
  cases h : (fvB x y n && inB mo 0 512 && seedB sd) with
  | false => exact ⟨false, 0, false, 0, 0, 0, fun _ => false, by omega, fun W A c hr => specOneNo x y A n c p mo sd W hr hn _ _ _ rfl rfl rfl h, fun W A c hr => implOne x y A n c p mo sd 0 0 0 0 0 (fun _ => false) false W hr (fun W A c hr => implMaNo x y A n c p 1 mo sd W hr hn _ _ _ _ rfl rfl rfl rfl (by rw [show inB 1 0 512 = true from by decide, Bool.and_true]; exact h))⟩
  | true =>
    rw [Bool.and_eq_true, Bool.and_eq_true] at h
    obtain ⟨⟨hv, hm⟩, hs⟩ := h
    obtain ⟨m0, m1⟩ := inB_yes hm
    obtain ⟨s0, s1⟩ := inB_yes hs
    obtain ⟨m, rfl⟩ : ∃ k : Nat, mo = (k : Int) := ⟨mo.toNat, by omega⟩
    refine ⟨true, stkS p x y n m sd, stkB p x y n m sd, x, y, n, stkF p x y n m sd, hn, fun W A c hr => specOneYes x y A n c p m sd W hr hn hv (by omega) s0 s1, fun W A c hr => ?_⟩
    have := implOne x y A n c p m sd (stmS p x y n m sd 1) (stmN p x y n m sd 1 : Nat) x y n (stmF p x y n m sd 1) true W hr (fun W A c hr => implMaYes x y A n c p 1 m sd W hr hn hv (by omega) (by omega) s0 s1)
    have e : (((stmN p x y n m sd 1 : Nat) : Int) == 1) = stkB p x y n m sd := by
      cases h : stkB p x y n m sd with
      | true => rw [stmN_y (t := 0) h]; rfl
      | false => rw [stmN_n (t := 0) h]; rfl
    rw [e] at this
    exact this

end Go.Proofs.Ytjojhklbikgfoaa
