/-
  What is proved here: GrowEdge, of both packages, where it fails by what it is given, as walks. Conditions: at most 1048576 cells.
-/
import Derived.Test.YthhimielelpcoaaFsm
import Derived.Test.YthhimielelpcoaaFdr
import Derived.Test.YthhimielelpcoaaEdq
namespace Go.Proofs.Ythhimielelpcoaa
open Go.RowKit
attribute [local go_sem] run_store_bool
set_option linter.unusedVariables false
set_option linter.unusedSimpArgs false
set_option maxHeartbeats 16000000 in
theorem specGrNo (x y : Int) (A : Option Addr) (n c : Nat) (p : Nat → Bool) (cn sd : Int) (w : World) (hr : RowV w w.heap.size A n (bo p)) (hn : n ≤ 1048576) (vb : Bool) (cb : Bool) (sb : Bool) (hv : fvB x y n = vb) (hc : inB cn 0 512 = cb) (hs : seedB sd = sb) (hno : (vb && cb && sb) = false) :
    Calls Try.prog 10 #[.agg #[.int .i64 x, .int .i64 y, .slice A n c], .int .i64 cn, .int .i64 sd] w fun e w' => ∃ A' c', e = .returned (.tuple #[.agg #[.int .i64 0, .int .i64 0, .slice A' 0 c'], .int .i64 0, .bool false]) ∧ Hid (RowW w' w.heap.size w'.heap.size A' 0 (bo (fun _ => false))) ∧ Hid (Below w.heap.size w w') := by
  have B1 := below_var w x y A n c 26
  have V0 := varT_new w x y A n c 26
  have hsz : (w.alloc (.cells #[.int .i64 x, .int .i64 y, .slice A n c] 26)).heap.size = w.heap.size + 1 := by simp
  have B2 := below_var (w.alloc (.cells #[.int .i64 x, .int .i64 y, .slice A n c] 26)) 0 0 none 0 0 26
  have V1 := V0.below B2
  obtain ⟨d0, d1, d2, f0, f1, f2⟩ := fresh3 (w.alloc (.cells #[.int .i64 x, .int .i64 y, .slice A n c] 26)) (.int .i64 0) (.int .i64 0) (.slice none 0 0) 26
  rw [hsz] at d0 d1 d2 f0 f1 f2
  have hlt2 : w.heap.size + 1 < ((w.alloc (.cells #[.int .i64 x, .int .i64 y, .slice A n c] 26)).alloc (.cells #[.int .i64 0, .int .i64 0, .slice none 0 0] 26)).heap.size := by simp
  have HB := Lib.hid (B1.trans (B2.mono B1.size))
  have HV1 := Lib.hid V1
  have HRES := Lib.hid (And.intro d0 (And.intro d1 (And.intro d2 (And.intro f0 (And.intro f1 f2)))))
  have HC := Lib.hid (specIs w.heap.size x y A n c _ V1 hn)
  rw [hv] at HC
  have HIc := Lib.hid (fun W => inS_any cn 0 512 W)
  rw [hc] at HIc
  have HSD := Lib.hid (fun W => specSeed sd W)
  rw [hs] at HSD
  clear hr V0 V1 B1 B2 d0 d1 d2 f0 f1 f2 hsz hv hc hs
  cases vb <;> cases cb <;> cases sb
  all_goals first
    | (exfalso; revert hno; decide)
    | (go_enter Try.func10, Try.ntmps10
       go_wp2_with fail
       generalize ((w.alloc (.cells #[.int .i64 x, .int .i64 y, .slice A n c] 26)).alloc (.cells #[.int .i64 0, .int .i64 0, .slice none 0 0] 26)) = b at *
       refine HC.out.mono ?_
       rintro e w1 ⟨rfl, k1, rfl⟩
       have hbk : Below b.heap.size b (b.drewN k1) := belowN (Below.refl _ _)
       generalize b.drewN k1 = w1 at *
       obtain ⟨d0, d1, d2, f0, f1, f2⟩ := HRES.out
       have q0 := (hbk.cell (p := ⟨w.heap.size + 1, 0, none⟩) hlt2).trans d0
       have q1 := (hbk.cell (p := ⟨w.heap.size + 1, 1, none⟩) hlt2).trans d1
       have q2 := (hbk.cell (p := ⟨w.heap.size + 1, 2, none⟩) hlt2).trans d2
       have g0 := (hbk.frozen (p := ⟨w.heap.size + 1, 0, none⟩) hlt2).trans f0
       have g1 := (hbk.frozen (p := ⟨w.heap.size + 1, 1, none⟩) hlt2).trans f1
       have g2 := (hbk.frozen (p := ⟨w.heap.size + 1, 2, none⟩) hlt2).trans f2
       have HB1 := Lib.hid (HB.out.trans (hbk.mono HB.out.size))
       clear d0 d1 d2 f0 f1 f2 HRES hbk HC
       go_wp2_with (first | (go_at_call 46; refine (HIc.out _).mono ?_; rintro e w' ⟨rfl, rfl⟩) | (go_at_call 47; refine (HSD.out _).mono ?_; rintro e w' ⟨rfl, rfl⟩))
       refine bodyPost_ret (v := .tuple #[.agg #[.int .i64 0, .int .i64 0, .slice none 0 0], .int .i64 0, .bool false]) (by simp [results, Try.results10, go_sem, q0, q1, q2]) rfl ?_
       have a2 := store3 HB1.out (Nat.le_succ _) (.int .i64 0) (.int .i64 0) (.slice none 0 0)
       first | exact ⟨none, 0, rfl, RowW.empty (Nat.le_refl _), a2⟩ | exact ⟨none, ⟨0, rfl⟩, RowW.empty (Nat.le_refl _), a2⟩)
set_option maxHeartbeats 16000000 in
theorem implGrNo (x y : Int) (A : Option Addr) (n c : Nat) (p : Nat → Bool) (cn sd : Int) (w : World) (hr : RowV w w.heap.size A n (bo p)) (hn : n ≤ 1048576) (vb : Bool) (cb : Bool) (sb : Bool) (hv : fvB x y n = vb) (hc : inB cn 0 512 = cb) (hs : seedB sd = sb) (hno : (vb && cb && sb) = false) :
    Calls Try.prog 12 #[.agg #[.int .i64 x, .int .i64 y, .slice A n c], .int .i64 cn, .int .i64 sd] w fun e w' => ∃ A' c', e = .returned (.tuple #[.agg #[.int .i64 0, .int .i64 0, .slice A' 0 c'], .int .i64 0, .bool false]) ∧ Hid (RowW w' w.heap.size w'.heap.size A' 0 (bo (fun _ => false))) ∧ Hid (Below w.heap.size w w') := by
  have B1 := below_var w x y A n c 26
  have V0 := varT_new w x y A n c 26
  have hsz : (w.alloc (.cells #[.int .i64 x, .int .i64 y, .slice A n c] 26)).heap.size = w.heap.size + 1 := by simp
  have B2 := below_var (w.alloc (.cells #[.int .i64 x, .int .i64 y, .slice A n c] 26)) 0 0 none 0 0 26
  have V1 := V0.below B2
  obtain ⟨d0, d1, d2, f0, f1, f2⟩ := fresh3 (w.alloc (.cells #[.int .i64 x, .int .i64 y, .slice A n c] 26)) (.int .i64 0) (.int .i64 0) (.slice none 0 0) 26
  rw [hsz] at d0 d1 d2 f0 f1 f2
  have hlt2 : w.heap.size + 1 < ((w.alloc (.cells #[.int .i64 x, .int .i64 y, .slice A n c] 26)).alloc (.cells #[.int .i64 0, .int .i64 0, .slice none 0 0] 26)).heap.size := by simp
  have HB := Lib.hid (B1.trans (B2.mono B1.size))
  have HV1 := Lib.hid V1
  have HRES := Lib.hid (And.intro d0 (And.intro d1 (And.intro d2 (And.intro f0 (And.intro f1 f2)))))
  have HC := Lib.hid (fun W => implValid x y A n c W hn)
  rw [hv] at HC
  have HIc := Lib.hid (fun W => within_any cn 0 512 W)
  rw [hc] at HIc
  have HSD := Lib.hid (fun W => implSeed sd W)
  rw [hs] at HSD
  clear hr V0 V1 B1 B2 d0 d1 d2 f0 f1 f2 hsz hv hc hs
  cases vb <;> cases cb <;> cases sb
  all_goals first
    | (exfalso; revert hno; decide)
    | (go_enter Try.func12, Try.ntmps12
       go_wp2_with fail
       generalize ((w.alloc (.cells #[.int .i64 x, .int .i64 y, .slice A n c] 26)).alloc (.cells #[.int .i64 0, .int .i64 0, .slice none 0 0] 26)) = b at *
       have c0 := HV1.out.c0
       have c1 := HV1.out.c1
       have c2 := HV1.out.c2
       go_wp2_with (first | (go_at_call 53; refine (HIc.out _).mono ?_; rintro e w' ⟨rfl, rfl⟩) | (go_at_call 54; refine (HSD.out _).mono ?_; rintro e w' ⟨rfl, rfl⟩))
       clear c0 c1 c2
       refine (HC.out b).mono ?_
       rintro e w1 ⟨rfl, hb1⟩
       have hbk := hb1.out
       clear hb1
       obtain ⟨d0, d1, d2, f0, f1, f2⟩ := HRES.out
       have q0 := (hbk.cell (p := ⟨w.heap.size + 1, 0, none⟩) hlt2).trans d0
       have q1 := (hbk.cell (p := ⟨w.heap.size + 1, 1, none⟩) hlt2).trans d1
       have q2 := (hbk.cell (p := ⟨w.heap.size + 1, 2, none⟩) hlt2).trans d2
       have g0 := (hbk.frozen (p := ⟨w.heap.size + 1, 0, none⟩) hlt2).trans f0
       have g1 := (hbk.frozen (p := ⟨w.heap.size + 1, 1, none⟩) hlt2).trans f1
       have g2 := (hbk.frozen (p := ⟨w.heap.size + 1, 2, none⟩) hlt2).trans f2
       have HB1 := Lib.hid (HB.out.trans (hbk.mono HB.out.size))
       clear d0 d1 d2 f0 f1 f2 HRES hbk HC
       go_wp2_with (first | (go_at_call 53; refine (HIc.out _).mono ?_; rintro e w' ⟨rfl, rfl⟩) | (go_at_call 54; refine (HSD.out _).mono ?_; rintro e w' ⟨rfl, rfl⟩))
       refine bodyPost_ret (v := .tuple #[.agg #[.int .i64 0, .int .i64 0, .slice none 0 0], .int .i64 0, .bool false]) (by simp [results, Try.results12, go_sem, q0, q1, q2]) rfl ?_
       have a2 := store3 HB1.out (Nat.le_succ _) (.int .i64 0) (.int .i64 0) (.slice none 0 0)
       first | exact ⟨none, 0, rfl, RowW.empty (Nat.le_refl _), a2⟩ | exact ⟨none, ⟨0, rfl⟩, RowW.empty (Nat.le_refl _), a2⟩)
end Go.Proofs.Ythhimielelpcoaa
