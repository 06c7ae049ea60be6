/-
  What is proved here: StickMany, of both packages, as walks. Conditions: at most 1048576 cells.
-/
import Derived.Test.YtjojhklbikgfoaaSty
namespace Go.Proofs.Ytjojhklbikgfoaa
open Go.RowKit
attribute [local go_sem] run_store_bool
set_option linter.unusedVariables false

/-- so many walkers: the cells, the seed, how many have stuck -/
def stmA (p : Nat → Bool) (x y : Int) (n m : Nat) (s : Int) : Nat → (Nat → Bool) × Int × Nat
  | 0 => (p, s, 0)
  | t + 1 => (stkF (stmA p x y n m s t).1 x y n m (stmA p x y n m s t).2.1, stkS (stmA p x y n m s t).1 x y n m (stmA p x y n m s t).2.1, (stmA p x y n m s t).2.2 + if stkB (stmA p x y n m s t).1 x y n m (stmA p x y n m s t).2.1 = true then 1 else 0)
def stmF (p : Nat → Bool) (x y : Int) (n m : Nat) (s : Int) (t : Nat) : Nat → Bool := (stmA p x y n m s t).1
def stmS (p : Nat → Bool) (x y : Int) (n m : Nat) (s : Int) (t : Nat) : Int := (stmA p x y n m s t).2.1
def stmN (p : Nat → Bool) (x y : Int) (n m : Nat) (s : Int) (t : Nat) : Nat := (stmA p x y n m s t).2.2
theorem stmN_y {p : Nat → Bool} {x y : Int} {n m : Nat} {s : Int} {t : Nat} (h : stkB (stmF p x y n m s t) x y n m (stmS p x y n m s t) = true) : stmN p x y n m s (t + 1) = stmN p x y n m s t + 1 := by
  show (stmA p x y n m s t).2.2 + (if stkB (stmF p x y n m s t) x y n m (stmS p x y n m s t) = true then 1 else 0) = _
  rw [if_pos h]; rfl
theorem stmN_n {p : Nat → Bool} {x y : Int} {n m : Nat} {s : Int} {t : Nat} (h : stkB (stmF p x y n m s t) x y n m (stmS p x y n m s t) = false) : stmN p x y n m s (t + 1) = stmN p x y n m s t := by
  show (stmA p x y n m s t).2.2 + (if stkB (stmF p x y n m s t) x y n m (stmS p x y n m s t) = true then 1 else 0) = _
  rw [if_neg (by rw [h]; decide)]; rfl
theorem walkS_bd {p : Nat → Bool} {x y : Int} : ∀ {m : Nat} {s i : Int}, 0 ≤ s → s ≤ 2147483647 → 0 ≤ (walkS p x y m s i).1 ∧ (walkS p x y m s i).1 ≤ 2147483647
  | 0, s, i, h0, h1 => ⟨h0, h1⟩
  | m + 1, s, i, h0, h1 => by
    unfold walkS
    split
    · exact walkS_bd (nextS_bd s).1 (nextS_bd s).2
    · exact ⟨h0, h1⟩
theorem stkS_bd {p : Nat → Bool} {x y s : Int} {n m : Nat} : 0 ≤ stkS p x y n m s ∧ stkS p x y n m s ≤ 2147483647 := by
  unfold stkS
  split
  · exact nextS_bd s
  · exact walkS_bd (nextS_bd s).1 (nextS_bd s).2
theorem stmS_bd {p : Nat → Bool} {x y s : Int} {n m : Nat} (h0 : 0 ≤ s) (h1 : s ≤ 2147483647) : ∀ t, 0 ≤ stmS p x y n m s t ∧ stmS p x y n m s t ≤ 2147483647
  | 0 => ⟨h0, h1⟩
  | t + 1 => stkS_bd
theorem stmN_le {p : Nat → Bool} {x y s : Int} {n m : Nat} : ∀ t, stmN p x y n m s t ≤ t
  | 0 => Nat.le_refl _
  | t + 1 => by
    have := stmN_le (p := p) (x := x) (y := y) (s := s) (n := n) (m := m) t
    cases h : stkB (stmF p x y n m s t) x y n m (stmS p x y n m s t) with
    | true => rw [stmN_y h]; omega
    | false => rw [stmN_n h]; omega

set_option maxHeartbeats 16000000 in
theorem specMaNo (x y : Int) (A : Option Addr) (n c : Nat) (p : Nat → Bool) (cn mo sd : Int) (w : World) (hr : RowV w w.heap.size A n (bo p)) (hn : n ≤ 1048576) (vb : Bool) (cb : Bool) (mb : Bool) (sb : Bool) (hv : fvB x y n = vb) (hc : inB cn 0 512 = cb) (hm : inB mo 0 512 = mb) (hs : seedB sd = sb) (hno : (vb && cb && mb && sb) = false) :
    Calls Try.prog 31 #[.agg #[.int .i64 x, .int .i64 y, .slice A n c], .int .i64 cn, .int .i64 mo, .int .i64 sd] w fun e w' => ∃ A' c', e = .returned (.tuple #[.agg #[.int .i64 0, .int .i64 0, .slice A' 0 c'], .int .i64 0, .int .i64 0, .bool false]) ∧ Hid (RowW w' w.heap.size w'.heap.size A' 0 (bo (fun _ => false))) ∧ Hid (Below w.heap.size w w') := by
  have B1 := below_var w x y A n c 27
  have V0 := varT_new w x y A n c 27
  have hsz : (w.alloc (.cells #[.int .i64 x, .int .i64 y, .slice A n c] 27)).heap.size = w.heap.size + 1 := by simp
  have B2 := below_var (w.alloc (.cells #[.int .i64 x, .int .i64 y, .slice A n c] 27)) 0 0 none 0 0 27
  have V1 := V0.below B2
  obtain ⟨d0, d1, d2, f0, f1, f2⟩ := fresh3 (w.alloc (.cells #[.int .i64 x, .int .i64 y, .slice A n c] 27)) (.int .i64 0) (.int .i64 0) (.slice none 0 0) 27
  rw [hsz] at d0 d1 d2 f0 f1 f2
  have hlt2 : w.heap.size + 1 < ((w.alloc (.cells #[.int .i64 x, .int .i64 y, .slice A n c] 27)).alloc (.cells #[.int .i64 0, .int .i64 0, .slice none 0 0] 27)).heap.size := by simp
  have HB := Lib.hid (B1.trans (B2.mono B1.size))
  have HV1 := Lib.hid V1
  have HRES := Lib.hid (And.intro d0 (And.intro d1 (And.intro d2 (And.intro f0 (And.intro f1 f2)))))
  have HC := Lib.hid (specIs w.heap.size x y A n c _ V1 hn)
  rw [hv] at HC
  have HIc := Lib.hid (fun W => inS_any cn 0 512 W)
  rw [hc] at HIc
  have HIm := Lib.hid (fun W => inS_any mo 0 512 W)
  rw [hm] at HIm
  have HSD := Lib.hid (fun W => specSeed sd W)
  rw [hs] at HSD
  clear hr V0 V1 B1 B2 d0 d1 d2 f0 f1 f2 hsz hv hc hm hs
  cases vb <;> cases cb <;> cases mb <;> cases sb
  all_goals first
    | (exfalso; revert hno; decide)
    | (go_enter Try.func31, Try.ntmps31
       go_wp2_with fail
       generalize ((w.alloc (.cells #[.int .i64 x, .int .i64 y, .slice A n c] 27)).alloc (.cells #[.int .i64 0, .int .i64 0, .slice none 0 0] 27)) = b at *
       refine HC.out.mono ?_
       rintro e w1 ⟨rfl, k1, rfl⟩
       have hbk : Below b.heap.size b (b.drewN k1) := belowN (Below.refl _ _)
       generalize b.drewN k1 = w1 at *
       obtain ⟨d0, d1, d2, f0, f1, f2⟩ := HRES.out
       have q0 := (hbk.cell (p := ⟨w.heap.size + 1, 0, none⟩) hlt2).trans d0
       have q1 := (hbk.cell (p := ⟨w.heap.size + 1, 1, none⟩) hlt2).trans d1
       have q2 := (hbk.cell (p := ⟨w.heap.size + 1, 2, none⟩) hlt2).trans d2
       have g0 := (hbk.frozen (p := ⟨w.heap.size + 1, 0, none⟩) hlt2).trans f0
       have g1 := (hbk.frozen (p := ⟨w.heap.size + 1, 1, none⟩) hlt2).trans f1
       have g2 := (hbk.frozen (p := ⟨w.heap.size + 1, 2, none⟩) hlt2).trans f2
       have HB1 := Lib.hid (HB.out.trans (hbk.mono HB.out.size))
       clear d0 d1 d2 f0 f1 f2 HRES hbk HC
       go_wp2_with (first | (go_at_call 59; (first | (with_reducible refine (HIc.out _).mono ?_) | (with_reducible refine (HIm.out _).mono ?_)); rintro e w' ⟨rfl, rfl⟩) | (go_at_call 67; refine (HSD.out _).mono ?_; rintro e w' ⟨rfl, rfl⟩))
       refine bodyPost_ret (v := .tuple #[.agg #[.int .i64 0, .int .i64 0, .slice none 0 0], .int .i64 0, .int .i64 0, .bool false]) (by simp [results, Try.results31, go_sem, q0, q1, q2]) rfl ?_
       have a2 := store3 HB1.out (Nat.le_succ _) (.int .i64 0) (.int .i64 0) (.slice none 0 0)
       first | exact ⟨none, 0, rfl, RowW.empty (Nat.le_refl _), a2⟩ | exact ⟨none, ⟨0, rfl⟩, RowW.empty (Nat.le_refl _), a2⟩)
set_option maxHeartbeats 16000000 in
theorem implMaNo (x y : Int) (A : Option Addr) (n c : Nat) (p : Nat → Bool) (cn mo sd : Int) (w : World) (hr : RowV w w.heap.size A n (bo p)) (hn : n ≤ 1048576) (vb : Bool) (cb : Bool) (mb : Bool) (sb : Bool) (hv : fvB x y n = vb) (hc : inB cn 0 512 = cb) (hm : inB mo 0 512 = mb) (hs : seedB sd = sb) (hno : (vb && cb && mb && sb) = false) :
    Calls Try.prog 32 #[.agg #[.int .i64 x, .int .i64 y, .slice A n c], .int .i64 cn, .int .i64 mo, .int .i64 sd] w fun e w' => ∃ A' c', e = .returned (.tuple #[.agg #[.int .i64 0, .int .i64 0, .slice A' 0 c'], .int .i64 0, .int .i64 0, .bool false]) ∧ Hid (RowW w' w.heap.size w'.heap.size A' 0 (bo (fun _ => false))) ∧ Hid (Below w.heap.size w w') := by
  have B1 := below_var w x y A n c 27
  have V0 := varT_new w x y A n c 27
  have hsz : (w.alloc (.cells #[.int .i64 x, .int .i64 y, .slice A n c] 27)).heap.size = w.heap.size + 1 := by simp
  have B2 := below_var (w.alloc (.cells #[.int .i64 x, .int .i64 y, .slice A n c] 27)) 0 0 none 0 0 27
  have V1 := V0.below B2
  obtain ⟨d0, d1, d2, f0, f1, f2⟩ := fresh3 (w.alloc (.cells #[.int .i64 x, .int .i64 y, .slice A n c] 27)) (.int .i64 0) (.int .i64 0) (.slice none 0 0) 27
  rw [hsz] at d0 d1 d2 f0 f1 f2
  have hlt2 : w.heap.size + 1 < ((w.alloc (.cells #[.int .i64 x, .int .i64 y, .slice A n c] 27)).alloc (.cells #[.int .i64 0, .int .i64 0, .slice none 0 0] 27)).heap.size := by simp
  have HB := Lib.hid (B1.trans (B2.mono B1.size))
  have HV1 := Lib.hid V1
  have HRES := Lib.hid (And.intro d0 (And.intro d1 (And.intro d2 (And.intro f0 (And.intro f1 f2)))))
  have HC := Lib.hid (fun W => implValid x y A n c W hn)
  rw [hv] at HC
  have HIc := Lib.hid (fun W => within_any cn 0 512 W)
  rw [hc] at HIc
  have HIm := Lib.hid (fun W => within_any mo 0 512 W)
  rw [hm] at HIm
  have HSD := Lib.hid (fun W => implSeed sd W)
  rw [hs] at HSD
  clear hr V0 V1 B1 B2 d0 d1 d2 f0 f1 f2 hsz hv hc hm hs
  cases vb <;> cases cb <;> cases mb <;> cases sb
  all_goals first
    | (exfalso; revert hno; decide)
    | (go_enter Try.func32, Try.ntmps32
       go_wp2_with fail
       generalize ((w.alloc (.cells #[.int .i64 x, .int .i64 y, .slice A n c] 27)).alloc (.cells #[.int .i64 0, .int .i64 0, .slice none 0 0] 27)) = b at *
       have c0 := HV1.out.c0
       have c1 := HV1.out.c1
       have c2 := HV1.out.c2
       go_wp2_with (first | (go_at_call 69; (first | (with_reducible refine (HIc.out _).mono ?_) | (with_reducible refine (HIm.out _).mono ?_)); rintro e w' ⟨rfl, rfl⟩) | (go_at_call 70; refine (HSD.out _).mono ?_; rintro e w' ⟨rfl, rfl⟩))
       clear c0 c1 c2
       refine (HC.out b).mono ?_
       rintro e w1 ⟨rfl, hb1⟩
       have hbk := hb1.out
       clear hb1
       obtain ⟨d0, d1, d2, f0, f1, f2⟩ := HRES.out
       have q0 := (hbk.cell (p := ⟨w.heap.size + 1, 0, none⟩) hlt2).trans d0
       have q1 := (hbk.cell (p := ⟨w.heap.size + 1, 1, none⟩) hlt2).trans d1
       have q2 := (hbk.cell (p := ⟨w.heap.size + 1, 2, none⟩) hlt2).trans d2
       have g0 := (hbk.frozen (p := ⟨w.heap.size + 1, 0, none⟩) hlt2).trans f0
       have g1 := (hbk.frozen (p := ⟨w.heap.size + 1, 1, none⟩) hlt2).trans f1
       have g2 := (hbk.frozen (p := ⟨w.heap.size + 1, 2, none⟩) hlt2).trans f2
       have HB1 := Lib.hid (HB.out.trans (hbk.mono HB.out.size))
       clear d0 d1 d2 f0 f1 f2 HRES hbk HC
       go_wp2_with (first | (go_at_call 69; (first | (with_reducible refine (HIc.out _).mono ?_) | (with_reducible refine (HIm.out _).mono ?_)); rintro e w' ⟨rfl, rfl⟩) | (go_at_call 70; refine (HSD.out _).mono ?_; rintro e w' ⟨rfl, rfl⟩))
       refine bodyPost_ret (v := .tuple #[.agg #[.int .i64 0, .int .i64 0, .slice none 0 0], .int .i64 0, .int .i64 0, .bool false]) (by simp [results, Try.results32, go_sem, q0, q1, q2]) rfl ?_
       have a2 := store3 HB1.out (Nat.le_succ _) (.int .i64 0) (.int .i64 0) (.slice none 0 0)
       first | exact ⟨none, 0, rfl, RowW.empty (Nat.le_refl _), a2⟩ | exact ⟨none, ⟨0, rfl⟩, RowW.empty (Nat.le_refl _), a2⟩)
set_option maxHeartbeats 16000000 in
set_option maxRecDepth 100000 in
theorem specMaYes (x y : Int) (A : Option Addr) (n c : Nat) (p : Nat → Bool) (cn m : Nat) (s : Int) (w : World) (hr : RowV w w.heap.size A n (bo p)) (hn : n ≤ 1048576) (hv : fvB x y n = true) (hc : cn ≤ 512) (hm : m ≤ 512) (h0 : 0 ≤ s) (h1 : s ≤ 2147483647) :
    Calls Try.prog 31 #[.agg #[.int .i64 x, .int .i64 y, .slice A n c], .int .i64 (cn : Nat), .int .i64 (m : Nat), .int .i64 s] w fun e w' => ∃ A' c', e = .returned (.tuple #[.agg #[.int .i64 x, .int .i64 y, .slice A' n c'], .int .i64 (stmS p x y n m s cn), .int .i64 (stmN p x y n m s cn : Nat), .bool true]) ∧ Hid (RowW w' w.heap.size w'.heap.size A' n (bo (stmF p x y n m s cn))) ∧ Hid (Below w.heap.size w w') := by
  have hn1 := (fvB_yes hv).2.2.1
  have HN := Lib.hid (fun k => stmN_le (p := p) (x := x) (y := y) (s := s) (n := n) (m := m) k)
  have B1 := below_var w x y A n c 27
  have V0 := varT_new w x y A n c 27
  have hsz : (w.alloc (.cells #[.int .i64 x, .int .i64 y, .slice A n c] 27)).heap.size = w.heap.size + 1 := by simp
  have B2 := below_var (w.alloc (.cells #[.int .i64 x, .int .i64 y, .slice A n c] 27)) 0 0 none 0 0 27
  have V1 := V0.below B2
  obtain ⟨d0, d1, d2, f0, f1, f2⟩ := fresh3 (w.alloc (.cells #[.int .i64 x, .int .i64 y, .slice A n c] 27)) (.int .i64 0) (.int .i64 0) (.slice none 0 0) 27
  rw [hsz] at d0 d1 d2 f0 f1 f2
  have hlt2 : w.heap.size + 1 < ((w.alloc (.cells #[.int .i64 x, .int .i64 y, .slice A n c] 27)).alloc (.cells #[.int .i64 0, .int .i64 0, .slice none 0 0] 27)).heap.size := by simp
  have HB := Lib.hid (B1.trans (B2.mono B1.size))
  have HV1 := Lib.hid V1
  have HRES := Lib.hid (And.intro d0 (And.intro d1 (And.intro d2 (And.intro f0 (And.intro f1 f2)))))
  have HIN := Lib.hid (fun (a : Nat) (W : World) (h : a ≤ 512) => inS_any (a : Int) 0 512 W)
  have HIN : Hid (∀ (a : Nat) (W : World), a ≤ 512 → Calls Try.prog 59 #[.int .i64 (a : Nat), .int .i64 0, .int .i64 512] W fun e w' => e = .returned (.bool true) ∧ W = w') := fun a W h => by
    have := HIN.out a W h
    rwa [inB_in (by omega) (by omega)] at this
  have HSD := Lib.hid (fun W => specSeed s W)
  rw [show seedB s = true from inB_in h0 h1] at HSD
  have HC := Lib.hid (specIs w.heap.size x y A n c _ V1 hn)
  rw [hv] at HC
  have HCP := Lib.hid (fun W V h => own_is w.heap.size x y A c n p W V h (by omega) hn)
  have HSTK := Lib.hid (fun (v : Nat) (A : Option Addr) (c lo hi k : Nat) (W : World) (V : VarT W v x y A n c) (R : RowW W lo hi A n (bo (stmF p x y n m s k))) => specStk x y v A n c (stmF p x y n m s k) m (stmS p x y n m s k) hv hm (stmS_bd h0 h1 k).1 (stmS_bd h0 h1 k).2 lo hi W V R)
  have HR := Lib.hid hr
  have HNY := Lib.hid (fun k => stmN_y (p := p) (x := x) (y := y) (n := n) (m := m) (s := s) (t := k))
  have HNN := Lib.hid (fun k => stmN_n (p := p) (x := x) (y := y) (n := n) (m := m) (s := s) (t := k))
  clear hr V0 V1 B1 B2 d0 d1 d2 f0 f1 f2 hsz hv h0 h1
  go_enter Try.func31, Try.ntmps31
  go_wp2_with fail
  generalize ((w.alloc (.cells #[.int .i64 x, .int .i64 y, .slice A n c] 27)).alloc (.cells #[.int .i64 0, .int .i64 0, .slice none 0 0] 27)) = b at *
  refine HC.out.mono ?_
  rintro e w1 ⟨rfl, k1, rfl⟩
  have HK2 : Hid (Below b.heap.size b (b.drewN k1)) := belowN (Below.refl _ _)
  generalize b.drewN k1 = w2 at *
  have HB2 := Lib.hid (HB.out.trans (HK2.out.mono HB.out.size))
  have V2 := Lib.hid (HV1.out.below HK2.out)
  clear HC
  go_wp2_with (first | (go_at_call 59; refine (HIN.out _ _ (by omega)).mono ?_; rintro e w' ⟨rfl, rfl⟩) | (go_at_call 67; refine (HSD.out _).mono ?_; rintro e w' ⟨rfl, rfl⟩))
  refine (HCP.out w2 V2.out ((HR.out.below HB2.out).mono HB2.out.size)).mono ?_
  rintro e w3 ⟨g, cg, rfl, hRG, hb3⟩
  have HB3 := Lib.hid (HB2.out.trans (hb3.out.mono HB2.out.size))
  have HK3 := Lib.hid (HK2.out.trans (hb3.out.mono HK2.out.size))
  have hbv := below_var w3 x y (some ⟨g, 0, none⟩) n cg 27
  have VF := Lib.hid (varT_new w3 x y (some ⟨g, 0, none⟩) n cg 27)
  have HK4 := Lib.hid (HK3.out.trans (hbv.mono HK3.out.size))
  have HB4 := Lib.hid (HB3.out.trans (hbv.mono HB3.out.size))
  have HX2 : Hid (w.heap.size + 2 ≤ w2.heap.size) := Nat.le_trans hlt2 HK2.out.size
  have R4 : Hid (RowW (w3.alloc (.cells #[.int .i64 x, .int .i64 y, .slice (some ⟨g, 0, none⟩) n cg] 27)) (w2.heap.size + 1) w3.heap.size (some ⟨g, 0, none⟩) n (bo (stmF p x y n m s 0))) := hRG.out.below hbv
  have K4 : Hid (ButIn (w2.heap.size + 1) w3.heap.size (w3.alloc (.cells #[.int .i64 x, .int .i64 y, .slice (some ⟨g, 0, none⟩) n cg] 27)) (w3.alloc (.cells #[.int .i64 x, .int .i64 y, .slice (some ⟨g, 0, none⟩) n cg] 27))) := ButIn.refl _ _ _
  clear hb3 hbv HCP hRG HR
  go_wp2_with fail
  generalize w3.alloc (.cells #[.int .i64 x, .int .i64 y, .slice (some ⟨g, 0, none⟩) n cg] 27) = b4 at *
  go_loopw [1, 3, 13] (fun cs sd nn wr => ∃ (r k : Nat), r + k = cn ∧ cs = .int .i64 (r : Nat) ∧ sd = .int .i64 (stmS p x y n m s k) ∧ nn = .int .i64 (stmN p x y n m s k : Nat) ∧ Hid (VarT wr w3.heap.size x y (some ⟨g, 0, none⟩) n cg) ∧ Hid (RowW wr (w2.heap.size + 1) w3.heap.size (some ⟨g, 0, none⟩) n (bo (stmF p x y n m s k))) ∧ Hid (ButIn (w2.heap.size + 1) w3.heap.size b4 wr)) (fun cs _ _ _ => (intOf cs).toNat)
  case atStart => exact ⟨cn, 0, rfl, rfl, rfl, rfl, VF, R4, K4⟩
  case round =>
    obtain ⟨r, k, hrk, rfl, rfl, rfl, hV, hRow, hK⟩ := hrel
    have hnk := HN.out k
    by_cases hlt : k < cn
    · obtain ⟨u, rfl⟩ : ∃ u, r = u + 1 := ⟨r - 1, by omega⟩
      cases hB : stkB (stmF p x y n m s k) x y n m (stmS p x y n m s k)
      · have HSK := Lib.hid (HSTK.out _ _ cg _ _ k wr hV.out hRow.out)
        rw [hB] at HSK
        have e1 := HNN.out k hB
        have E1 := Lib.hid e1
        clear hB e1
        have v0 := hV.out.c0
        have v1 := hV.out.c1
        have v2 := hV.out.c2
        go_wp2_with fail
        refine (HSK.out).mono ?_
        rintro e w5 ⟨rfl, hR5, hK5⟩
        have V5 := Lib.hid (hV.out.but hK5.out (.inr (Nat.le_refl _)))
        have K5 := Lib.hid (hK.out.trans hK5.out)
        clear hV hRow hK hK5 HSK v0 v1 v2
        go_wp2_with fail
        go_roundw
        case rel => exact ⟨u, k + 1, by omega, by go_num, rfl, by rw [E1.out] <;> go_num, V5, hR5, K5⟩
        case measure => simp [intOf]
      · have HSK := Lib.hid (HSTK.out _ _ cg _ _ k wr hV.out hRow.out)
        rw [hB] at HSK
        have e1 := HNY.out k hB
        have E1 := Lib.hid e1
        clear hB e1
        have v0 := hV.out.c0
        have v1 := hV.out.c1
        have v2 := hV.out.c2
        go_wp2_with fail
        refine (HSK.out).mono ?_
        rintro e w5 ⟨rfl, hR5, hK5⟩
        have V5 := Lib.hid (hV.out.but hK5.out (.inr (Nat.le_refl _)))
        have K5 := Lib.hid (hK.out.trans hK5.out)
        clear hV hRow hK hK5 HSK v0 v1 v2
        go_wp2_with fail
        go_roundw
        case rel => exact ⟨u, k + 1, by omega, by go_num, rfl, by rw [E1.out] <;> go_num, V5, hR5, K5⟩
        case measure => simp [intOf]
    · obtain rfl : k = cn := by omega
      obtain rfl : r = 0 := by omega
      obtain ⟨d0, d1, d2, f0, f1, f2⟩ := HRES.out
      have hlt4 : w.heap.size + 1 < b4.heap.size := Nat.lt_of_lt_of_le hlt2 HK4.out.size
      have eB := hK.out.block (w.heap.size + 1) hlt4 (.inl (by have := HX2.out; omega))
      have q0 := ((World.cell?_of_block (w := b4) (a := ⟨w.heap.size + 1, 0, none⟩) eB).trans (HK4.out.cell (p := ⟨w.heap.size + 1, 0, none⟩) hlt2)).trans d0
      have q1 := ((World.cell?_of_block (w := b4) (a := ⟨w.heap.size + 1, 1, none⟩) eB).trans (HK4.out.cell (p := ⟨w.heap.size + 1, 1, none⟩) hlt2)).trans d1
      have q2 := ((World.cell?_of_block (w := b4) (a := ⟨w.heap.size + 1, 2, none⟩) eB).trans (HK4.out.cell (p := ⟨w.heap.size + 1, 2, none⟩) hlt2)).trans d2
      have g0 := ((World.frozen?_of_block (w := b4) (a := ⟨w.heap.size + 1, 0, none⟩) eB).trans (HK4.out.frozen (p := ⟨w.heap.size + 1, 0, none⟩) hlt2)).trans f0
      have g1 := ((World.frozen?_of_block (w := b4) (a := ⟨w.heap.size + 1, 1, none⟩) eB).trans (HK4.out.frozen (p := ⟨w.heap.size + 1, 1, none⟩) hlt2)).trans f1
      have g2 := ((World.frozen?_of_block (w := b4) (a := ⟨w.heap.size + 1, 2, none⟩) eB).trans (HK4.out.frozen (p := ⟨w.heap.size + 1, 2, none⟩) hlt2)).trans f2
      have v0 := hV.out.c0
      have v1 := hV.out.c1
      have v2 := hV.out.c2
      have HBF := Lib.hid (HB4.out.trans (hK.out.toBelow (by have := HX2.out; omega) HB4.out.size))
      have HX3 := Lib.hid HX2.out
      clear eB d0 d1 d2 f0 f1 f2 HRES
      go_wp2_with fail
      refine bodyPost_ret (v := .tuple #[.agg #[.int .i64 x, .int .i64 y, .slice (some ⟨g, 0, none⟩) n cg], .int .i64 (stmS p x y n m s k), .int .i64 (stmN p x y n m s k : Nat), .bool true]) (by simp [results, Try.results31, go_sem, q0, q1, q2]) rfl ?_
      have a1 := ((hRow.out.store3 (Y := w.heap.size + 1) (by have := HX3.out; omega) (.int .i64 x) (.int .i64 y) (.slice (some ⟨g, 0, none⟩) n cg)).upper (hi' := (((wr.setCell ⟨w.heap.size + 1, 0, none⟩ (.int .i64 x)).setCell ⟨w.heap.size + 1, 1, none⟩ (.int .i64 y)).setCell ⟨w.heap.size + 1, 2, none⟩ (.slice (some ⟨g, 0, none⟩) n cg)).heap.size) (by have := hRow.out.le; simpa [World.setCell] using this) (Nat.le_refl _)).lower (lo' := w.heap.size) (by have := HX3.out; omega)
      have a2 := store3 HBF.out (Nat.le_succ _) (.int .i64 x) (.int .i64 y) (.slice (some ⟨g, 0, none⟩) n cg)
      first | exact ⟨some ⟨g, 0, none⟩, cg, rfl, a1, a2⟩ | exact ⟨some ⟨g, 0, none⟩, ⟨cg, rfl⟩, a1, a2⟩

set_option maxHeartbeats 16000000 in
set_option maxRecDepth 100000 in
theorem implMaYes (x y : Int) (A : Option Addr) (n c : Nat) (p : Nat → Bool) (cn m : Nat) (s : Int) (w : World) (hr : RowV w w.heap.size A n (bo p)) (hn : n ≤ 1048576) (hv : fvB x y n = true) (hc : cn ≤ 512) (hm : m ≤ 512) (h0 : 0 ≤ s) (h1 : s ≤ 2147483647) :
    Calls Try.prog 32 #[.agg #[.int .i64 x, .int .i64 y, .slice A n c], .int .i64 (cn : Nat), .int .i64 (m : Nat), .int .i64 s] w fun e w' => ∃ A' c', e = .returned (.tuple #[.agg #[.int .i64 x, .int .i64 y, .slice A' n c'], .int .i64 (stmS p x y n m s cn), .int .i64 (stmN p x y n m s cn : Nat), .bool true]) ∧ Hid (RowW w' w.heap.size w'.heap.size A' n (bo (stmF p x y n m s cn))) ∧ Hid (Below w.heap.size w w') := by
  have hn1 := (fvB_yes hv).2.2.1
  have HN := Lib.hid (fun k => stmN_le (p := p) (x := x) (y := y) (s := s) (n := n) (m := m) k)
  have B1 := below_var w x y A n c 27
  have V0 := varT_new w x y A n c 27
  have hsz : (w.alloc (.cells #[.int .i64 x, .int .i64 y, .slice A n c] 27)).heap.size = w.heap.size + 1 := by simp
  have B2 := below_var (w.alloc (.cells #[.int .i64 x, .int .i64 y, .slice A n c] 27)) 0 0 none 0 0 27
  have V1 := V0.below B2
  obtain ⟨d0, d1, d2, f0, f1, f2⟩ := fresh3 (w.alloc (.cells #[.int .i64 x, .int .i64 y, .slice A n c] 27)) (.int .i64 0) (.int .i64 0) (.slice none 0 0) 27
  rw [hsz] at d0 d1 d2 f0 f1 f2
  have hlt2 : w.heap.size + 1 < ((w.alloc (.cells #[.int .i64 x, .int .i64 y, .slice A n c] 27)).alloc (.cells #[.int .i64 0, .int .i64 0, .slice none 0 0] 27)).heap.size := by simp
  have HB := Lib.hid (B1.trans (B2.mono B1.size))
  have HV1 := Lib.hid V1
  have HRES := Lib.hid (And.intro d0 (And.intro d1 (And.intro d2 (And.intro f0 (And.intro f1 f2)))))
  have HIN := Lib.hid (fun (a : Nat) (W : World) (h : a ≤ 512) => within_any (a : Int) 0 512 W)
  have HIN : Hid (∀ (a : Nat) (W : World), a ≤ 512 → Calls Try.prog 69 #[.int .i64 (a : Nat), .int .i64 0, .int .i64 512] W fun e w' => e = .returned (.bool true) ∧ W = w') := fun a W h => by
    have := HIN.out a W h
    rwa [inB_in (by omega) (by omega)] at this
  have HSD := Lib.hid (fun W => implSeed s W)
  rw [show seedB s = true from inB_in h0 h1] at HSD
  have HC := Lib.hid (fun W => implValid x y A n c W hn)
  rw [hv] at HC
  have HCP := Lib.hid (fun W h => fieldCopy_is x y A c n p W h (by omega) hn)
  have HSTK := Lib.hid (fun (A : Option Addr) (c lo hi k : Nat) (W : World) (R : RowW W lo hi A n (bo (stmF p x y n m s k))) => implStk x y A n c (stmF p x y n m s k) m (stmS p x y n m s k) hv hm (stmS_bd h0 h1 k).1 (stmS_bd h0 h1 k).2 lo hi W R)
  have HR := Lib.hid hr
  have HNY := Lib.hid (fun k => stmN_y (p := p) (x := x) (y := y) (n := n) (m := m) (s := s) (t := k))
  have HNN := Lib.hid (fun k => stmN_n (p := p) (x := x) (y := y) (n := n) (m := m) (s := s) (t := k))
  clear hr V0 V1 B1 B2 d0 d1 d2 f0 f1 f2 hsz hv h0 h1
  go_enter Try.func32, Try.ntmps32
  go_wp2_with fail
  generalize ((w.alloc (.cells #[.int .i64 x, .int .i64 y, .slice A n c] 27)).alloc (.cells #[.int .i64 0, .int .i64 0, .slice none 0 0] 27)) = b at *
  have c0 := HV1.out.c0
  have c1 := HV1.out.c1
  have c2 := HV1.out.c2
  go_wp2_with (go_at_call 69; refine (HIN.out _ _ (by omega)).mono ?_; rintro e w' ⟨rfl, rfl⟩)
  clear c0 c1 c2
  refine (HC.out b).mono ?_
  rintro e w2 ⟨rfl, hb1⟩
  have HB2 := Lib.hid (HB.out.trans (hb1.out.mono HB.out.size))
  have HK2 := Lib.hid hb1.out
  have V2 := HV1.out.below hb1.out
  have c0 := V2.c0
  have c1 := V2.c1
  have c2 := V2.c2
  clear hb1 HC
  go_wp2_with (go_at_call 70; refine (HSD.out _).mono ?_; rintro e w' ⟨rfl, rfl⟩)
  refine (HCP.out w2 ((HR.out.below HB2.out).mono HB2.out.size)).mono ?_
  rintro e w3 ⟨g, cg, rfl, hRG, hb3⟩
  have HB3 := Lib.hid (HB2.out.trans (hb3.out.mono HB2.out.size))
  have HK3 := Lib.hid (HK2.out.trans (hb3.out.mono HK2.out.size))
  clear c0 c1 c2 V2
  have hbv := below_var w3 x y (some ⟨g, 0, none⟩) n cg 27
  have VF := Lib.hid (varT_new w3 x y (some ⟨g, 0, none⟩) n cg 27)
  have HK4 := Lib.hid (HK3.out.trans (hbv.mono HK3.out.size))
  have HB4 := Lib.hid (HB3.out.trans (hbv.mono HB3.out.size))
  have HX2 : Hid (w.heap.size + 2 ≤ w2.heap.size) := Nat.le_trans hlt2 HK2.out.size
  have R4 : Hid (RowW (w3.alloc (.cells #[.int .i64 x, .int .i64 y, .slice (some ⟨g, 0, none⟩) n cg] 27)) (w2.heap.size + 2) w3.heap.size (some ⟨g, 0, none⟩) n (bo (stmF p x y n m s 0))) := hRG.out.below hbv
  have K4 : Hid (ButIn (w2.heap.size + 2) w3.heap.size (w3.alloc (.cells #[.int .i64 x, .int .i64 y, .slice (some ⟨g, 0, none⟩) n cg] 27)) (w3.alloc (.cells #[.int .i64 x, .int .i64 y, .slice (some ⟨g, 0, none⟩) n cg] 27))) := ButIn.refl _ _ _
  clear hb3 hbv HCP hRG HR
  go_wp2_with fail
  generalize w3.alloc (.cells #[.int .i64 x, .int .i64 y, .slice (some ⟨g, 0, none⟩) n cg] 27) = b4 at *
  go_loopw [3, 14, 39] (fun sd nn ix wr => ∃ (k : Nat), k ≤ cn ∧ ix = .int .i64 (k : Nat) ∧ sd = .int .i64 (stmS p x y n m s k) ∧ nn = .int .i64 (stmN p x y n m s k : Nat) ∧ Hid (VarT wr w3.heap.size x y (some ⟨g, 0, none⟩) n cg) ∧ Hid (RowW wr (w2.heap.size + 2) w3.heap.size (some ⟨g, 0, none⟩) n (bo (stmF p x y n m s k))) ∧ Hid (ButIn (w2.heap.size + 2) w3.heap.size b4 wr)) (fun _ _ ix _ => cn - (intOf ix).toNat)
  case atStart => exact ⟨0, Nat.zero_le _, rfl, rfl, rfl, VF, R4, K4⟩
  case round =>
    obtain ⟨k, hrk, rfl, rfl, rfl, hV, hRow, hK⟩ := hrel
    have hnk := HN.out k
    by_cases hlt : k < cn
    · have hlt2i : (k : Int) < cn := by omega
      cases hB : stkB (stmF p x y n m s k) x y n m (stmS p x y n m s k)
      · have HSK := Lib.hid (HSTK.out _ cg _ _ k wr hRow.out)
        rw [hB] at HSK
        have e1 := HNN.out k hB
        have E1 := Lib.hid e1
        clear hB e1
        have v0 := hV.out.c0
        have v1 := hV.out.c1
        have v2 := hV.out.c2
        go_wp2_with fail
        refine (HSK.out).mono ?_
        rintro e w5 ⟨rfl, hR5, hK5⟩
        have V5 := Lib.hid (hV.out.but hK5.out (.inr (Nat.le_refl _)))
        have K5 := Lib.hid (hK.out.trans hK5.out)
        clear hV hRow hK hK5 HSK v0 v1 v2
        go_wp2_with fail
        go_roundw
        case rel => exact ⟨k + 1, by omega, by go_num, rfl, by rw [E1.out] <;> go_num, V5, hR5, K5⟩
        case measure => simp [intOf]; omega
      · have HSK := Lib.hid (HSTK.out _ cg _ _ k wr hRow.out)
        rw [hB] at HSK
        have e1 := HNY.out k hB
        have E1 := Lib.hid e1
        clear hB e1
        have v0 := hV.out.c0
        have v1 := hV.out.c1
        have v2 := hV.out.c2
        go_wp2_with fail
        refine (HSK.out).mono ?_
        rintro e w5 ⟨rfl, hR5, hK5⟩
        have V5 := Lib.hid (hV.out.but hK5.out (.inr (Nat.le_refl _)))
        have K5 := Lib.hid (hK.out.trans hK5.out)
        clear hV hRow hK hK5 HSK v0 v1 v2
        go_wp2_with fail
        go_roundw
        case rel => exact ⟨k + 1, by omega, by go_num, rfl, by rw [E1.out] <;> go_num, V5, hR5, K5⟩
        case measure => simp [intOf]; omega
    · obtain rfl : k = cn := by omega
      skip
      obtain ⟨d0, d1, d2, f0, f1, f2⟩ := HRES.out
      have hlt4 : w.heap.size + 1 < b4.heap.size := Nat.lt_of_lt_of_le hlt2 HK4.out.size
      have eB := hK.out.block (w.heap.size + 1) hlt4 (.inl (by have := HX2.out; omega))
      have q0 := ((World.cell?_of_block (w := b4) (a := ⟨w.heap.size + 1, 0, none⟩) eB).trans (HK4.out.cell (p := ⟨w.heap.size + 1, 0, none⟩) hlt2)).trans d0
      have q1 := ((World.cell?_of_block (w := b4) (a := ⟨w.heap.size + 1, 1, none⟩) eB).trans (HK4.out.cell (p := ⟨w.heap.size + 1, 1, none⟩) hlt2)).trans d1
      have q2 := ((World.cell?_of_block (w := b4) (a := ⟨w.heap.size + 1, 2, none⟩) eB).trans (HK4.out.cell (p := ⟨w.heap.size + 1, 2, none⟩) hlt2)).trans d2
      have g0 := ((World.frozen?_of_block (w := b4) (a := ⟨w.heap.size + 1, 0, none⟩) eB).trans (HK4.out.frozen (p := ⟨w.heap.size + 1, 0, none⟩) hlt2)).trans f0
      have g1 := ((World.frozen?_of_block (w := b4) (a := ⟨w.heap.size + 1, 1, none⟩) eB).trans (HK4.out.frozen (p := ⟨w.heap.size + 1, 1, none⟩) hlt2)).trans f1
      have g2 := ((World.frozen?_of_block (w := b4) (a := ⟨w.heap.size + 1, 2, none⟩) eB).trans (HK4.out.frozen (p := ⟨w.heap.size + 1, 2, none⟩) hlt2)).trans f2
      have v0 := hV.out.c0
      have v1 := hV.out.c1
      have v2 := hV.out.c2
      have HBF := Lib.hid (HB4.out.trans (hK.out.toBelow (by have := HX2.out; omega) HB4.out.size))
      have HX3 := Lib.hid HX2.out
      clear eB d0 d1 d2 f0 f1 f2 HRES
      go_wp2_with fail
      refine bodyPost_ret (v := .tuple #[.agg #[.int .i64 x, .int .i64 y, .slice (some ⟨g, 0, none⟩) n cg], .int .i64 (stmS p x y n m s k), .int .i64 (stmN p x y n m s k : Nat), .bool true]) (by simp [results, Try.results32, go_sem, q0, q1, q2]) rfl ?_
      have a1 := ((hRow.out.store3 (Y := w.heap.size + 1) (by have := HX3.out; omega) (.int .i64 x) (.int .i64 y) (.slice (some ⟨g, 0, none⟩) n cg)).upper (hi' := (((wr.setCell ⟨w.heap.size + 1, 0, none⟩ (.int .i64 x)).setCell ⟨w.heap.size + 1, 1, none⟩ (.int .i64 y)).setCell ⟨w.heap.size + 1, 2, none⟩ (.slice (some ⟨g, 0, none⟩) n cg)).heap.size) (by have := hRow.out.le; simpa [World.setCell] using this) (Nat.le_refl _)).lower (lo' := w.heap.size) (by have := HX3.out; omega)
      have a2 := store3 HBF.out (Nat.le_succ _) (.int .i64 x) (.int .i64 y) (.slice (some ⟨g, 0, none⟩) n cg)
      first | exact ⟨some ⟨g, 0, none⟩, cg, rfl, a1, a2⟩ | exact ⟨some ⟨g, 0, none⟩, ⟨cg, rfl⟩, a1, a2⟩

theorem stmBoth (x y : Int) (n : Nat) (p : Nat → Bool) (cn mo sd : Int) (hn : n ≤ 1048576) : ∃ (b : Bool) (sq sk : Int) (fx fy : Int) (fn : Nat) (ff : Nat → Bool), fn ≤ 1048576 ∧
    (∀ (W : World) (A : Option Addr) (c : Nat), RowV W W.heap.size A n (bo p) → Calls Try.prog 31 #[.agg #[.int .i64 x, .int .i64 y, .slice A n c], .int .i64 cn, .int .i64 mo, .int .i64 sd] W fun e w' => ∃ A' c', e = .returned (.tuple #[.agg #[.int .i64 fx, .int .i64 fy, .slice A' fn c'], .int .i64 sq, .int .i64 sk, .bool b]) ∧ Hid (RowW w' W.heap.size w'.heap.size A' fn (bo ff)) ∧ Hid (Below W.heap.size W w')) ∧
    (∀ (W : World) (A : Option Addr) (c : Nat), RowV W W.heap.size A n (bo p) → Calls Try.prog 32 #[.agg #[.int .i64 x, .int .i64 y, .slice A n c], .int .i64 cn, .int .i64 mo, .int .i64 sd] W fun e w' => ∃ A' c', e = .returned (.tuple #[.agg #[.int .i64 fx, .int .i64 fy, .slice A' fn c'], .int .i64 sq, .int .i64 sk, .bool b]) ∧ Hid (RowW w' W.heap.size w'.heap.size A' fn (bo ff)) ∧ Hid (Below W.heap.size W w')) := by
  cases h : (fvB x y n && inB cn 0 512 && inB mo 0 512 && seedB sd) with
  | false => exact ⟨false, 0, 0, 0, 0, 0, fun _ => false, by omega, fun W A c hr => specMaNo x y A n c p cn mo sd W hr hn _ _ _ _ rfl rfl rfl rfl h, fun W A c hr => implMaNo x y A n c p cn mo sd W hr hn _ _ _ _ rfl rfl rfl rfl h⟩
  | true =>
    rw [Bool.and_eq_true, Bool.and_eq_true, Bool.and_eq_true] at h
    obtain ⟨⟨⟨hv, hc⟩, hm⟩, hs⟩ := h
    obtain ⟨c0, c1⟩ := inB_yes hc
    obtain ⟨m0, m1⟩ := inB_yes hm
    obtain ⟨s0, s1⟩ := inB_yes hs
    obtain ⟨k, rfl⟩ : ∃ k : Nat, cn = (k : Int) := ⟨cn.toNat, by omega⟩
    obtain ⟨m, rfl⟩ : ∃ k : Nat, mo = (k : Int) := ⟨mo.toNat, by omega⟩
    exact ⟨true, stmS p x y n m sd k, (stmN p x y n m sd k : Nat), x, y, n, stmF p x y n m sd k, hn, fun W A c hr => specMaYes x y A n c p k m sd W hr hn hv (by omega) (by omega) s0 s1, fun W A c hr => implMaYes x y A n c p k m sd W hr hn hv (by omega) (by omega) s0 s1⟩

end Go.Proofs.Ytjojhklbikgfoaa
