/-
  What is proved here: fields with drawn cells, of both packages, as walks. Conditions: none.
-/
import Derived.Test.YtcoikcdglcpmcaaFem
import Derived.Test.YtcoikcdglcpmcaaFrm
import Derived.Test.YtcoikcdglcpmcaaGrb
namespace Go.Proofs.Ytcoikcdglcpmcaa
open Flt Go.RowKit
attribute [local go_sem] run_store_bool
set_option linter.unusedVariables false

/-- whether a drawn cell is full -/
def drwC (sh : Nat) (sd : Int) (j : Nat) : Bool := ford .f32 (can .f32 (floatOfInt .f32 (drawS (itS sd j) 32768))) (fop .mul .f32 (can .f32 sh) (can .f32 1191182336)) == some .lt
theorem drwC_is {sh r j : Nat} {sd : Int} (h : can .f32 r = fop .mul .f32 (can .f32 sh) (can .f32 1191182336)) : (FloatKind.f32.format.order (floatOfInt .f32 (drawS (itS sd j) 32768)) r == some .lt) = drwC sh sd j := by
  unfold drwC
  rw [ford_can, h]
def lstB (p : Nat → Bool) : Nat → List Bool
  | 0 => []
  | k + 1 => lstB p k ++ [p k]
theorem lstB_len (p : Nat → Bool) (k : Nat) : (lstB p k).length = k := by
  induction k with
  | zero => rfl
  | succ k ih => show (lstB p k ++ [p k]).length = _; rw [List.length_append, ih]; rfl
theorem lstB_at (p : Nat → Bool) (k j : Nat) (h : j < k) : atB (lstB p k) j = p j := by
  induction k with
  | zero => exact absurd h (Nat.not_lt_zero _)
  | succ k ih =>
    show atB (lstB p k ++ [p k]) j = _
    unfold atB
    rw [List.getD_eq_getElem?_getD]
    by_cases e : j < k
    · rw [List.getElem?_append_left (by rw [lstB_len]; exact e)]
      have := ih e
      unfold atB at this
      rwa [List.getD_eq_getElem?_getD] at this
    · have : j = k := by omega
      subst this
      rw [List.getElem?_append_right (by rw [lstB_len]; omega), lstB_len]; simp

def drB (x y : Int) (sh : Nat) (sd : Int) : Bool := sidB x y && (fromB sh 0 1065353216 && seedB sd)

theorem specDrNo (x y : Int) (sh : Nat) (sd : Int) (w : World) (h : drB x y sh sd = false) :
    Calls Try.prog 33 #[.int .i64 x, .int .i64 y, .float .f32 sh, .int .i64 sd] w fun e w' => ∃ A c, e = .returned (.tuple #[.agg #[.int .i64 0, .int .i64 0, .slice A 0 c], .int .i64 0, .bool false]) ∧ Hid (RowW w' w.heap.size w'.heap.size A 0 (bo fun _ => false)) ∧ Hid (Below w.heap.size w w') := by
  have HS := Lib.hid (specSides x y)
  have HF := Lib.hid (shareS_any sh)
  have HD := Lib.hid (specSeed sd)
  have B0 := Lib.hid (below_var w 0 0 none 0 0 27)
  unfold drB at h
  cases h1 : sidB x y
  · rw [h1] at HS
    clear h h1
    go_enter Try.func33, Try.ntmps33
    go_wp2_with (first | (go_at_call 61; refine (HS.out _).mono ?_; rintro e w' ⟨rfl, rfl⟩))
    exact bodyPost_ret (v := .tuple #[.agg #[.int .i64 0, .int .i64 0, .slice none 0 0], .int .i64 0, .bool false]) (by simp [results, Try.results33, go_sem]) rfl ⟨none, 0, rfl, RowW.empty (Nat.le_refl _), B0⟩
  rw [h1, Bool.true_and] at h
  cases h2 : fromB sh 0 1065353216
  · rw [h1] at HS
    rw [h2] at HF
    clear h h1 h2
    go_enter Try.func33, Try.ntmps33
    go_wp2_with (first | (go_at_call 61; refine (HS.out _).mono ?_; rintro e w' ⟨rfl, rfl⟩) | (go_at_call 67; refine (HF.out _).mono ?_; rintro e w' ⟨rfl, rfl⟩))
    exact bodyPost_ret (v := .tuple #[.agg #[.int .i64 0, .int .i64 0, .slice none 0 0], .int .i64 0, .bool false]) (by simp [results, Try.results33, go_sem]) rfl ⟨none, 0, rfl, RowW.empty (Nat.le_refl _), B0⟩
  rw [h2, Bool.true_and] at h
  rw [h1] at HS
  rw [h2] at HF
  rw [h] at HD
  clear h h1 h2
  go_enter Try.func33, Try.ntmps33
  go_wp2_with (first | (go_at_call 61; refine (HS.out _).mono ?_; rintro e w' ⟨rfl, rfl⟩) | (go_at_call 67; refine (HF.out _).mono ?_; rintro e w' ⟨rfl, rfl⟩) | (go_at_call 68; refine (HD.out _).mono ?_; rintro e w' ⟨rfl, rfl⟩))
  exact bodyPost_ret (v := .tuple #[.agg #[.int .i64 0, .int .i64 0, .slice none 0 0], .int .i64 0, .bool false]) (by simp [results, Try.results33, go_sem]) rfl ⟨none, 0, rfl, RowW.empty (Nat.le_refl _), B0⟩

/-- a fresh variable that holds a field, behind another one -/
theorem twoB_new (w : World) (x y x2 y2 : Int) (t : TypeId) : Below w.heap.size w ((w.alloc (.cells #[.int .i64 x2, .int .i64 y2, .slice none 0 0] t)).alloc (.cells #[.int .i64 x, .int .i64 y, .slice none 0 0] t)) := ((Below.refl _ _).alloc (Nat.le_refl _) _).alloc (by simp) _
theorem fresh3 (w : World) (a0 a1 a2 : Value) (t : TypeId) : (w.alloc (.cells #[a0, a1, a2] t)).cell? ⟨w.heap.size, 0, none⟩ = some a0 ∧ (w.alloc (.cells #[a0, a1, a2] t)).cell? ⟨w.heap.size, 1, none⟩ = some a1 ∧ (w.alloc (.cells #[a0, a1, a2] t)).cell? ⟨w.heap.size, 2, none⟩ = some a2 ∧ (w.alloc (.cells #[a0, a1, a2] t)).frozen? ⟨w.heap.size, 0, none⟩ = false ∧ (w.alloc (.cells #[a0, a1, a2] t)).frozen? ⟨w.heap.size, 1, none⟩ = false ∧ (w.alloc (.cells #[a0, a1, a2] t)).frozen? ⟨w.heap.size, 2, none⟩ = false := by
  refine ⟨?_, ?_, ?_, ?_, ?_, ?_⟩ <;> simp [World.cell?, World.frozen?, World.alloc, -World.alloc_eq]

/-- a variable of a field that may be written, as the last of two -/
structure VarW (w : World) (X : Nat) (x y : Int) (A : Option Addr) (n c : Nat) : Prop where
  lt : X + 1 < w.heap.size
  c0 : w.cell? ⟨X + 1, 0, none⟩ = some (.int .i64 x)
  c1 : w.cell? ⟨X + 1, 1, none⟩ = some (.int .i64 y)
  c2 : w.cell? ⟨X + 1, 2, none⟩ = some (.slice A n c)
  f2 : w.frozen? ⟨X + 1, 2, none⟩ = false
  r0 : w.cell? ⟨X, 0, none⟩ = some (.int .i64 0)
  r1 : w.cell? ⟨X, 1, none⟩ = some (.int .i64 0)
  r2 : w.cell? ⟨X, 2, none⟩ = some (.slice none 0 0)
  g0 : w.frozen? ⟨X, 0, none⟩ = false
  g1 : w.frozen? ⟨X, 1, none⟩ = false
  g2 : w.frozen? ⟨X, 2, none⟩ = false
theorem VarW.below {w w' : World} {X : Nat} {x y : Int} {A : Option Addr} {n c : Nat} (h : VarW w X x y A n c) (hb : Below (X + 2) w w') : VarW w' X x y A n c := by
  have a : X + 1 < X + 2 := by omega
  have b : X < X + 2 := by omega
  exact ⟨Nat.lt_of_lt_of_le h.lt hb.size, by rw [hb.cell (p := ⟨X + 1, 0, none⟩) a]; exact h.c0, by rw [hb.cell (p := ⟨X + 1, 1, none⟩) a]; exact h.c1, by rw [hb.cell (p := ⟨X + 1, 2, none⟩) a]; exact h.c2, by rw [hb.frozen (p := ⟨X + 1, 2, none⟩) a]; exact h.f2, by rw [hb.cell (p := ⟨X, 0, none⟩) b]; exact h.r0, by rw [hb.cell (p := ⟨X, 1, none⟩) b]; exact h.r1, by rw [hb.cell (p := ⟨X, 2, none⟩) b]; exact h.r2, by rw [hb.frozen (p := ⟨X, 0, none⟩) b]; exact h.g0, by rw [hb.frozen (p := ⟨X, 1, none⟩) b]; exact h.g1, by rw [hb.frozen (p := ⟨X, 2, none⟩) b]; exact h.g2⟩
theorem VarW.set {w : World} {X : Nat} {x y : Int} {A B : Option Addr} {n m c d : Nat} (h : VarW w X x y A n c) : VarW (w.setCell ⟨X + 1, 2, none⟩ (.slice B m d)) X x y B m d := by
  refine ⟨by have := h.lt; simpa [World.setCell] using this, ?_, ?_, ?_, ?_, ?_, ?_, ?_, ?_, ?_, ?_⟩
  · rw [World.cell?_setCell_other w _ _ _ (by intro e; injection e with _ e _; cases e)]; exact h.c0
  · rw [World.cell?_setCell_other w _ _ _ (by intro e; injection e with _ e _; cases e)]; exact h.c1
  · exact World.cell?_setCell_same w _ _ h.c2
  · rw [World.frozen?_setCell]; exact h.f2
  · rw [World.cell?_setCell_other w _ _ _ (by intro e; injection e with e _ _; omega)]; exact h.r0
  · rw [World.cell?_setCell_other w _ _ _ (by intro e; injection e with e _ _; omega)]; exact h.r1
  · rw [World.cell?_setCell_other w _ _ _ (by intro e; injection e with e _ _; omega)]; exact h.r2
  · rw [World.frozen?_setCell]; exact h.g0
  · rw [World.frozen?_setCell]; exact h.g1
  · rw [World.frozen?_setCell]; exact h.g2
theorem VarW.drewN {w : World} {X m : Nat} {x y : Int} {A : Option Addr} {n c : Nat} (h : VarW w X x y A n c) : VarW (w.drewN m) X x y A n c := ⟨h.lt, h.c0, h.c1, h.c2, h.f2, h.r0, h.r1, h.r2, h.g0, h.g1, h.g2⟩
theorem varW_new (w : World) (x y : Int) (t : TypeId) : VarW ((w.alloc (.cells #[.int .i64 0, .int .i64 0, .slice none 0 0] t)).alloc (.cells #[.int .i64 x, .int .i64 y, .slice none 0 0] t)) w.heap.size x y none 0 0 := by
  have e1 : (w.alloc (.cells #[.int .i64 0, .int .i64 0, .slice none 0 0] t)).heap.size = w.heap.size + 1 := by simp
  obtain ⟨d0, d1, d2, f0, f1, f2⟩ := fresh3 (w.alloc (.cells #[.int .i64 0, .int .i64 0, .slice none 0 0] t)) (.int .i64 x) (.int .i64 y) (.slice none 0 0) t
  rw [e1] at d0 d1 d2 f0 f1 f2
  have B := (Below.refl (w.alloc (.cells #[.int .i64 0, .int .i64 0, .slice none 0 0] t)).heap.size (w.alloc (.cells #[.int .i64 0, .int .i64 0, .slice none 0 0] t))).alloc (Nat.le_refl _) (.cells #[.int .i64 x, .int .i64 y, .slice none 0 0] t)
  obtain ⟨e0, e2, e3, g0, g1, g2⟩ := fresh3 w (.int .i64 0) (.int .i64 0) (.slice none 0 0) t
  have b : w.heap.size < (w.alloc (.cells #[.int .i64 0, .int .i64 0, .slice none 0 0] t)).heap.size := by rw [e1]; exact Nat.lt_succ_self _
  exact ⟨by simp, d0, d1, d2, f2, by rw [B.cell (p := ⟨w.heap.size, 0, none⟩) b]; exact e0, by rw [B.cell (p := ⟨w.heap.size, 1, none⟩) b]; exact e2, by rw [B.cell (p := ⟨w.heap.size, 2, none⟩) b]; exact e3, by rw [B.frozen (p := ⟨w.heap.size, 0, none⟩) b]; exact g0, by rw [B.frozen (p := ⟨w.heap.size, 1, none⟩) b]; exact g1, by rw [B.frozen (p := ⟨w.heap.size, 2, none⟩) b]; exact g2⟩
theorem store3 {w w' : World} {X Y : Nat} (h : Below X w w') (hY : X ≤ Y) (u0 u1 u2 : Value) : Below X w (((w'.setCell ⟨Y, 0, none⟩ u0).setCell ⟨Y, 1, none⟩ u1).setCell ⟨Y, 2, none⟩ u2) := ((h.setCell hY _).setCell hY _).setCell hY _
theorem RowW.store3 {w : World} {lo hi n Y : Nat} {A : Option Addr} {V : Nat → Value} (r : RowW w lo hi A n V) (hY : Y < lo) (u0 u1 u2 : Value) : RowW (((w.setCell ⟨Y, 0, none⟩ u0).setCell ⟨Y, 1, none⟩ u1).setCell ⟨Y, 2, none⟩ u2) lo hi A n V := ((r.other (q := ⟨Y, 0, none⟩) hY u0).other (q := ⟨Y, 1, none⟩) hY u1).other (q := ⟨Y, 2, none⟩) hY u2

set_option maxHeartbeats 8000000 in
theorem specDr (x y : Int) (n : Nat) (sh : Nat) (sd : Int) (w : World) (h : drB x y sh sd = true) (e : x * y = n) :
    Calls Try.prog 33 #[.int .i64 x, .int .i64 y, .float .f32 sh, .int .i64 sd] w fun e w' => ∃ A c, e = .returned (.tuple #[.agg #[.int .i64 x, .int .i64 y, .slice A n c], .int .i64 (itS sd n), .bool true]) ∧ Hid (RowW w' w.heap.size w'.heap.size A n (bo (drwC sh sd))) ∧ Hid (Below w.heap.size w w') := by
  unfold drB at h
  rw [Bool.and_eq_true, Bool.and_eq_true] at h
  obtain ⟨h1, h2, h3⟩ := h
  have hn : n ≤ 256 := by have := sid_bd h1; omega
  have hw : IntKind.i64.wrap (x * y) = (n : Int) := by rw [sid_in h1, e]
  obtain ⟨hs0, hs1⟩ := inB_yes h3
  have HS := Lib.hid (specSides x y)
  have HF := Lib.hid (shareS_any sh)
  have HD := Lib.hid (specSeed sd)
  rw [h1] at HS
  rw [h2] at HF
  rw [h3] at HD
  have HV := Lib.hid (varW_new w x y 27)
  have HB0 := Lib.hid (twoB_new w x y 0 0 27)
  have H0 : Hid (GroB ((w.alloc (.cells #[.int .i64 0, .int .i64 0, .slice none 0 0] 27)).alloc (.cells #[.int .i64 x, .int .i64 y, .slice none 0 0] 27)) (w.heap.size + 2) (lstB (drwC sh sd) 0) none 0) := GroB.nil _ _
  clear h1 h2 h3 e
  go_enter Try.func33, Try.ntmps33
  go_wp2_with (first | (go_at_call 61; refine (HS.out _).mono ?_; rintro e w' ⟨rfl, rfl⟩) | (go_at_call 67; refine (HF.out _).mono ?_; rintro e w' ⟨rfl, rfl⟩) | (go_at_call 68; refine (HD.out _).mono ?_; rintro e w' ⟨rfl, rfl⟩))
  generalize ((w.alloc (.cells #[.int .i64 0, .int .i64 0, .slice none 0 0] 27)).alloc (.cells #[.int .i64 x, .int .i64 y, .slice none 0 0] 27)) = b at *
  clear HS HF HD
  go_loopw [3, 12] (fun s i wr => ∃ (k : Nat) (A' : Option Addr) (c' : Nat), k ≤ n ∧ s = .int .i64 (itS sd k) ∧ i = .int .i64 k ∧ Hid (VarW wr w.heap.size x y A' k c') ∧ Hid (GroB wr (w.heap.size + 2) (lstB (drwC sh sd) k) A' c') ∧ Hid (Below w.heap.size w wr)) (fun _ i _ => n - (intOf i).toNat)
  case atStart => exact ⟨0, none, 0, Nat.zero_le _, rfl, rfl, HV, H0, HB0⟩
  case round =>
    obtain ⟨k, A', c', hk, rfl, rfl, hV, hO, hB⟩ := hrel
    obtain ⟨hb0, hb1⟩ := itS_bd sd hs0 hs1 k
    have c0 := hV.out.c0
    have c1 := hV.out.c1
    have c2 := hV.out.c2
    have hlen := lstB_len (drwC sh sd) k
    have hsz : Hid (w.heap.size + 2 ≤ wr.heap.size) := hV.out.lt
    by_cases hlt : k < n
    · have HD := Lib.hid (fun W => specDraw (itS sd k) 32768 hb0 hb1 (by decide) (by decide) W)
      have hlt2 : (k : Int) < n := by omega
      go_wp2_with (first | (go_at_call 69; refine (HD.out _).mono ?_; rintro e w' ⟨rfl, rfl⟩) | ((with_reducible refine upon_bin rfl ?_); intro r1 n1 w1 e1) | (at_builtin; refine wpGroB rfl _ _ rfl (w0 := wr.drewN n1) (y := drwC sh sd k) hO.out.dn (by rw [drwC_is e1.out]) (by rw [hlen]; rfl) rfl (by omega) hsz.out ?_; rw [hlen]; intro g2 c3 w4 O4 B4; have V4 := Lib.hid (hV.out.drewN.below B4); have HO4 := Lib.hid O4; have HB4 := Lib.hid ((belowN hB.out).trans (B4.mono (Nat.le_trans (Nat.le_succ _) (Nat.le_succ _)))); have q2 := V4.out.c2; have q3 := V4.out.f2; clear O4 B4))
      have V5 := Lib.hid (V4.out.set (B := some ⟨g2, 0, none⟩) (m := k + 1) (d := c3))
      have O5 : Hid (GroB (w4.setCell ⟨w.heap.size + 1, 2, none⟩ (.slice (some ⟨g2, 0, none⟩) (k + 1) c3)) (w.heap.size + 2) (lstB (drwC sh sd) (k + 1)) (some ⟨g2, 0, none⟩) c3) :=
        GroB.but HO4.out ((ButIn.refl (w.heap.size + 1) (w.heap.size + 2) w4).set (q := ⟨w.heap.size + 1, 2, none⟩) (Nat.le_refl _) (Nat.lt_succ_self _) _) fun a ha => .inr (HO4.out.lt a ha).1
      have B5 := Lib.hid (HB4.out.setCell (p := ⟨w.heap.size + 1, 2, none⟩) (Nat.le_succ _) (.slice (some ⟨g2, 0, none⟩) (k + 1) c3))
      go_roundw
      case rel => exact ⟨k + 1, _, _, by omega, rfl, by go_num, V5, O5, B5⟩
      case measure => simp [intOf]; omega
    · obtain rfl : k = n := by omega
      have d0 := hV.out.r0
      have d1 := hV.out.r1
      have d2 := hV.out.r2
      have f0 := hV.out.g0
      have f1 := hV.out.g1
      have f2 := hV.out.g2
      have hlt2 : ¬ (k : Int) < k := by omega
      have HE : Hid (RowW wr (w.heap.size + 2) wr.heap.size A' k (bo (drwC sh sd))) := by
        have r := hO.out.rowW
        rw [hlen] at r
        exact r.ext fun j hj => by unfold bo; rw [lstB_at _ _ _ hj]
      go_wp2_with fail
      refine bodyPost_ret (v := .tuple #[.agg #[.int .i64 x, .int .i64 y, .slice A' k c'], .int .i64 (itS sd k), .bool true]) (by simp [results, Try.results33, go_sem, d0, d1, d2]) rfl ?_
      have a1 := ((HE.out.store3 (Y := w.heap.size) (by omega) (.int .i64 x) (.int .i64 y) (.slice A' k c')).top (by simp [World.setCell])).lower (lo' := w.heap.size) (by omega)
      have a2 := store3 hB.out (Nat.le_refl _) (.int .i64 x) (.int .i64 y) (.slice A' k c')
      first | exact ⟨A', c', rfl, a1, a2⟩ | exact ⟨A', ⟨c', rfl⟩, a1, a2⟩

set_option maxHeartbeats 2000000 in
theorem implDrNo1 (x y : Int) (sh : Nat) (sd : Int) (w : World) (h1 : sidB x y = false) :
    Calls Try.prog 34 #[.int .i64 x, .int .i64 y, .float .f32 sh, .int .i64 sd] w fun e w' => ∃ A c, e = .returned (.tuple #[.agg #[.int .i64 0, .int .i64 0, .slice A 0 c], .int .i64 0, .bool false]) ∧ Hid (RowW w' w.heap.size w'.heap.size A 0 (bo (fun _ => false))) ∧ Hid (Below w.heap.size w w') := by
  have HE := Lib.hid (fun W => implEmpNo x y W h1)
  obtain ⟨d0, d1, d2, f0, f1, f2⟩ := fresh3 w (.int .i64 0) (.int .i64 0) (.slice none 0 0) 27
  have B0 := below_var w 0 0 none 0 0 27
  have hlt : w.heap.size < (w.alloc (.cells #[.int .i64 0, .int .i64 0, .slice none 0 0] 27)).heap.size := by simp
  have hsz1 : Hid ((w.alloc (.cells #[.int .i64 0, .int .i64 0, .slice none 0 0] 27)).heap.size = w.heap.size + 1) := by show _ = _; simp
  have HB0 := Lib.hid B0
  clear h1 B0
  go_enter Try.func34, Try.ntmps34
  go_wp2_with fail
  generalize w.alloc (.cells #[.int .i64 0, .int .i64 0, .slice none 0 0] 27) = b at *
  refine (HE.out b).mono ?_
  rintro e w1 ⟨Ae, ce, rfl, hR, hb⟩
  have q0 := (hb.out.cell (p := ⟨w.heap.size, 0, none⟩) hlt).trans d0
  have q1 := (hb.out.cell (p := ⟨w.heap.size, 1, none⟩) hlt).trans d1
  have q2 := (hb.out.cell (p := ⟨w.heap.size, 2, none⟩) hlt).trans d2
  have g0 := (hb.out.frozen (p := ⟨w.heap.size, 0, none⟩) hlt).trans f0
  have g1 := (hb.out.frozen (p := ⟨w.heap.size, 1, none⟩) hlt).trans f1
  have g2 := (hb.out.frozen (p := ⟨w.heap.size, 2, none⟩) hlt).trans f2
  have hlt1 : w.heap.size < w1.heap.size := Nat.lt_of_lt_of_le hlt hb.out.size
  have HB1 := Lib.hid (HB0.out.trans (hb.out.mono HB0.out.size))
  clear hb d0 d1 d2 f0 f1 f2 HE HB0 hlt
  go_wp2_with fail
  refine bodyPost_ret (v := .tuple #[.agg #[.int .i64 0, .int .i64 0, .slice none 0 0], .int .i64 0, .bool false]) (by simp [results, Try.results34, go_sem, q0, q1, q2, hlt1]) rfl ?_
  have a2 := (store3 HB1.out (Nat.le_refl _) (.int .i64 0) (.int .i64 0) (.slice none 0 0)).alloc (by have := HB1.out.size; simpa [World.setCell] using this) (.cells #[.int .i64 0, .int .i64 0, .slice Ae 0 ce] 27)
  first | exact ⟨none, 0, rfl, RowW.empty (Nat.le_refl _), a2⟩ | exact ⟨none, ⟨0, rfl⟩, RowW.empty (Nat.le_refl _), a2⟩

set_option maxHeartbeats 2000000 in
theorem implDrNo2 (x y : Int) (n : Nat) (sh : Nat) (sd : Int) (w : World) (h1 : sidB x y = true) (e : x * y = n) (h2 : fromB sh 0 1065353216 = false ∨ (fromB sh 0 1065353216 = true ∧ seedB sd = false)) :
    Calls Try.prog 34 #[.int .i64 x, .int .i64 y, .float .f32 sh, .int .i64 sd] w fun e w' => ∃ A c, e = .returned (.tuple #[.agg #[.int .i64 0, .int .i64 0, .slice A 0 c], .int .i64 0, .bool false]) ∧ Hid (RowW w' w.heap.size w'.heap.size A 0 (bo (fun _ => false))) ∧ Hid (Below w.heap.size w w') := by
  have HE := Lib.hid (fun W => implEmpYes x y n W h1 e)
  have HF := Lib.hid (fun W => from_any sh 0 1065353216 W)
  have HD := Lib.hid (implSeed sd)
  obtain ⟨d0, d1, d2, f0, f1, f2⟩ := fresh3 w (.int .i64 0) (.int .i64 0) (.slice none 0 0) 27
  have B0 := below_var w 0 0 none 0 0 27
  have hlt : w.heap.size < (w.alloc (.cells #[.int .i64 0, .int .i64 0, .slice none 0 0] 27)).heap.size := by simp
  have hsz1 : Hid ((w.alloc (.cells #[.int .i64 0, .int .i64 0, .slice none 0 0] 27)).heap.size = w.heap.size + 1) := by show _ = _; simp
  have HB0 := Lib.hid B0
  clear h1 B0 e
  rcases h2 with h2 | ⟨h2, h3⟩
  · rw [h2] at HF
    clear h2
    go_enter Try.func34, Try.ntmps34
    go_wp2_with fail
    generalize w.alloc (.cells #[.int .i64 0, .int .i64 0, .slice none 0 0] 27) = b at *
    refine (HE.out b).mono ?_
    rintro e w1 ⟨Ae, ce, rfl, hR, hb⟩
    have q0 := (hb.out.cell (p := ⟨w.heap.size, 0, none⟩) hlt).trans d0
    have q1 := (hb.out.cell (p := ⟨w.heap.size, 1, none⟩) hlt).trans d1
    have q2 := (hb.out.cell (p := ⟨w.heap.size, 2, none⟩) hlt).trans d2
    have g0 := (hb.out.frozen (p := ⟨w.heap.size, 0, none⟩) hlt).trans f0
    have g1 := (hb.out.frozen (p := ⟨w.heap.size, 1, none⟩) hlt).trans f1
    have g2 := (hb.out.frozen (p := ⟨w.heap.size, 2, none⟩) hlt).trans f2
    have hlt1 : w.heap.size < w1.heap.size := Nat.lt_of_lt_of_le hlt hb.out.size
    have HB1 := Lib.hid (HB0.out.trans (hb.out.mono HB0.out.size))
    clear hb d0 d1 d2 f0 f1 f2 HE HB0 hlt
    have hbv := below_var w1 x y Ae n ce 27
    have p0 := (hbv.cell (p := ⟨w.heap.size, 0, none⟩) hlt1).trans q0
    have p1 := (hbv.cell (p := ⟨w.heap.size, 1, none⟩) hlt1).trans q1
    have p2 := (hbv.cell (p := ⟨w.heap.size, 2, none⟩) hlt1).trans q2
    have r0 := (hbv.frozen (p := ⟨w.heap.size, 0, none⟩) hlt1).trans g0
    have r1 := (hbv.frozen (p := ⟨w.heap.size, 1, none⟩) hlt1).trans g1
    have r2 := (hbv.frozen (p := ⟨w.heap.size, 2, none⟩) hlt1).trans g2
    have V1 := varT_new w1 x y Ae n ce 27
    have v0 := V1.c0
    have v1 := V1.c1
    have v2 := V1.c2
    have HB2 := Lib.hid (HB1.out.trans (hbv.mono HB1.out.size))
    clear hbv q0 q1 q2 g0 g1 g2 HB1 V1 hR
    go_wp2_with fail
    generalize w1.alloc (.cells #[.int .i64 x, .int .i64 y, .slice Ae n ce] 27) = b1 at *
    go_wp2_with (first | (go_at_call 70; refine (HF.out _).mono ?_; rintro e w' ⟨rfl, rfl⟩) | (go_at_call 71; refine (HD.out _).mono ?_; rintro e w' ⟨rfl, rfl⟩))
    refine bodyPost_ret (v := .tuple #[.agg #[.int .i64 0, .int .i64 0, .slice none 0 0], .int .i64 0, .bool false]) (by simp [results, Try.results34, go_sem, p0, p1, p2]) rfl ?_
    have a2 := store3 HB2.out (Nat.le_refl _) (.int .i64 0) (.int .i64 0) (.slice none 0 0)
    first | exact ⟨none, 0, rfl, RowW.empty (Nat.le_refl _), a2⟩ | exact ⟨none, ⟨0, rfl⟩, RowW.empty (Nat.le_refl _), a2⟩
  · rw [h2] at HF
    rw [h3] at HD
    clear h2 h3
    go_enter Try.func34, Try.ntmps34
    go_wp2_with fail
    generalize w.alloc (.cells #[.int .i64 0, .int .i64 0, .slice none 0 0] 27) = b at *
    refine (HE.out b).mono ?_
    rintro e w1 ⟨Ae, ce, rfl, hR, hb⟩
    have q0 := (hb.out.cell (p := ⟨w.heap.size, 0, none⟩) hlt).trans d0
    have q1 := (hb.out.cell (p := ⟨w.heap.size, 1, none⟩) hlt).trans d1
    have q2 := (hb.out.cell (p := ⟨w.heap.size, 2, none⟩) hlt).trans d2
    have g0 := (hb.out.frozen (p := ⟨w.heap.size, 0, none⟩) hlt).trans f0
    have g1 := (hb.out.frozen (p := ⟨w.heap.size, 1, none⟩) hlt).trans f1
    have g2 := (hb.out.frozen (p := ⟨w.heap.size, 2, none⟩) hlt).trans f2
    have hlt1 : w.heap.size < w1.heap.size := Nat.lt_of_lt_of_le hlt hb.out.size
    have HB1 := Lib.hid (HB0.out.trans (hb.out.mono HB0.out.size))
    clear hb d0 d1 d2 f0 f1 f2 HE HB0 hlt
    have hbv := below_var w1 x y Ae n ce 27
    have p0 := (hbv.cell (p := ⟨w.heap.size, 0, none⟩) hlt1).trans q0
    have p1 := (hbv.cell (p := ⟨w.heap.size, 1, none⟩) hlt1).trans q1
    have p2 := (hbv.cell (p := ⟨w.heap.size, 2, none⟩) hlt1).trans q2
    have r0 := (hbv.frozen (p := ⟨w.heap.size, 0, none⟩) hlt1).trans g0
    have r1 := (hbv.frozen (p := ⟨w.heap.size, 1, none⟩) hlt1).trans g1
    have r2 := (hbv.frozen (p := ⟨w.heap.size, 2, none⟩) hlt1).trans g2
    have V1 := varT_new w1 x y Ae n ce 27
    have v0 := V1.c0
    have v1 := V1.c1
    have v2 := V1.c2
    have HB2 := Lib.hid (HB1.out.trans (hbv.mono HB1.out.size))
    clear hbv q0 q1 q2 g0 g1 g2 HB1 V1 hR
    go_wp2_with fail
    generalize w1.alloc (.cells #[.int .i64 x, .int .i64 y, .slice Ae n ce] 27) = b1 at *
    go_wp2_with (first | (go_at_call 70; refine (HF.out _).mono ?_; rintro e w' ⟨rfl, rfl⟩) | (go_at_call 71; refine (HD.out _).mono ?_; rintro e w' ⟨rfl, rfl⟩))
    refine bodyPost_ret (v := .tuple #[.agg #[.int .i64 0, .int .i64 0, .slice none 0 0], .int .i64 0, .bool false]) (by simp [results, Try.results34, go_sem, p0, p1, p2]) rfl ?_
    have a2 := store3 HB2.out (Nat.le_refl _) (.int .i64 0) (.int .i64 0) (.slice none 0 0)
    first | exact ⟨none, 0, rfl, RowW.empty (Nat.le_refl _), a2⟩ | exact ⟨none, ⟨0, rfl⟩, RowW.empty (Nat.le_refl _), a2⟩

set_option maxHeartbeats 8000000 in
theorem implDr (x y : Int) (n : Nat) (sh : Nat) (sd : Int) (w : World) (h : drB x y sh sd = true) (e : x * y = n) :
    Calls Try.prog 34 #[.int .i64 x, .int .i64 y, .float .f32 sh, .int .i64 sd] w fun e w' => ∃ A c, e = .returned (.tuple #[.agg #[.int .i64 x, .int .i64 y, .slice A n c], .int .i64 (itS sd n), .bool true]) ∧ Hid (RowW w' w.heap.size w'.heap.size A n (bo (drwC sh sd))) ∧ Hid (Below w.heap.size w w') := by
  unfold drB at h
  rw [Bool.and_eq_true, Bool.and_eq_true] at h
  obtain ⟨h1, h2, h3⟩ := h
  have hn : n ≤ 256 := by have := sid_bd h1; omega
  have hn0 : 0 < n := by have := sid_bd h1; omega
  obtain ⟨hs0, hs1⟩ := inB_yes h3
  have HE := Lib.hid (fun W => implEmpYes x y n W h1 e)
  have HF := Lib.hid (fun W => from_any sh 0 1065353216 W)
  have HD := Lib.hid (implSeed sd)
  rw [h2] at HF
  rw [h3] at HD
  obtain ⟨d0, d1, d2, f0, f1, f2⟩ := fresh3 w (.int .i64 0) (.int .i64 0) (.slice none 0 0) 27
  have B0 := below_var w 0 0 none 0 0 27
  have hlt : w.heap.size < (w.alloc (.cells #[.int .i64 0, .int .i64 0, .slice none 0 0] 27)).heap.size := by simp
  have hsz1 : Hid ((w.alloc (.cells #[.int .i64 0, .int .i64 0, .slice none 0 0] 27)).heap.size = w.heap.size + 1) := by show _ = _; simp
  have HB0 := Lib.hid B0
  clear h1 h2 h3 B0 e
  go_enter Try.func34, Try.ntmps34
  go_wp2_with fail
  generalize w.alloc (.cells #[.int .i64 0, .int .i64 0, .slice none 0 0] 27) = b at *
  refine (HE.out b).mono ?_
  rintro e w1 ⟨Ae, ce, rfl, hR, hb⟩
  have q0 := (hb.out.cell (p := ⟨w.heap.size, 0, none⟩) hlt).trans d0
  have q1 := (hb.out.cell (p := ⟨w.heap.size, 1, none⟩) hlt).trans d1
  have q2 := (hb.out.cell (p := ⟨w.heap.size, 2, none⟩) hlt).trans d2
  have g0 := (hb.out.frozen (p := ⟨w.heap.size, 0, none⟩) hlt).trans f0
  have g1 := (hb.out.frozen (p := ⟨w.heap.size, 1, none⟩) hlt).trans f1
  have g2 := (hb.out.frozen (p := ⟨w.heap.size, 2, none⟩) hlt).trans f2
  have hlt1 : w.heap.size < w1.heap.size := Nat.lt_of_lt_of_le hlt hb.out.size
  have HB1 := Lib.hid (HB0.out.trans (hb.out.mono HB0.out.size))
  have V1 := Lib.hid (varT_new w1 x y Ae n ce 27)
  have hbv := below_var w1 x y Ae n ce 27
  have R1 : Hid (RowW (w1.alloc (.cells #[.int .i64 x, .int .i64 y, .slice Ae n ce] 27)) (w.heap.size + 1) w1.heap.size Ae n (bo (copB (drwC sh sd) 0))) := ((hR.out.lower (Nat.le_of_eq hsz1.out.symm)).below hbv).ext fun j _ => by unfold bo copB; rw [if_neg (Nat.not_lt_zero _)]
  have HB2 := Lib.hid (HB1.out.trans (hbv.mono HB1.out.size))
  have K1 : Hid (ButIn (w.heap.size + 1) w1.heap.size (w1.alloc (.cells #[.int .i64 x, .int .i64 y, .slice Ae n ce] 27)) (w1.alloc (.cells #[.int .i64 x, .int .i64 y, .slice Ae n ce] 27))) := ButIn.refl _ _ _
  have p0 := (hbv.cell (p := ⟨w.heap.size, 0, none⟩) hlt1).trans q0
  have p1 := (hbv.cell (p := ⟨w.heap.size, 1, none⟩) hlt1).trans q1
  have p2 := (hbv.cell (p := ⟨w.heap.size, 2, none⟩) hlt1).trans q2
  have r0 := (hbv.frozen (p := ⟨w.heap.size, 0, none⟩) hlt1).trans g0
  have r1 := (hbv.frozen (p := ⟨w.heap.size, 1, none⟩) hlt1).trans g1
  have r2 := (hbv.frozen (p := ⟨w.heap.size, 2, none⟩) hlt1).trans g2
  clear hb d0 d1 d2 f0 f1 f2 HE HB0 hlt hbv q0 q1 q2 g0 g1 g2 HB1 hR hsz1
  go_wp2_with (first | (go_at_call 70; refine (HF.out _).mono ?_; rintro e w' ⟨rfl, rfl⟩) | (go_at_call 71; refine (HD.out _).mono ?_; rintro e w' ⟨rfl, rfl⟩))
  generalize w1.alloc (.cells #[.int .i64 x, .int .i64 y, .slice Ae n ce] 27) = b1 at *
  clear HF HD
  go_loopw [3, 38] (fun s i wr => ∃ (k : Nat), k ≤ n ∧ s = .int .i64 (itS sd k) ∧ i = .int .i64 k ∧ Hid (VarT wr w1.heap.size x y Ae n ce) ∧ Hid (RowW wr (w.heap.size + 1) w1.heap.size Ae n (bo (copB (drwC sh sd) k))) ∧ Hid (ButIn (w.heap.size + 1) w1.heap.size b1 wr)) (fun _ i _ => n - (intOf i).toNat)
  case atStart => exact ⟨0, Nat.zero_le _, rfl, rfl, V1, R1, K1⟩
  case round =>
    obtain ⟨k, hk, rfl, rfl, hV, hR, hK⟩ := hrel
    obtain ⟨hb0, hb1⟩ := itS_bd sd hs0 hs1 k
    have c0 := hV.out.c0
    have c1 := hV.out.c1
    have c2 := hV.out.c2
    by_cases hlt : k < n
    · obtain ⟨bb, off, rfl, hl1, hl2, hcell, hfree⟩ := hR.out.row hn0
      have hc := hcell k hlt
      unfold bo at hc
      have hf := hfree k hlt
      have HD := Lib.hid (fun W => implDraw (itS sd k) 32768 hb0 hb1 (by decide) (by decide) W)
      have hL1 := Lib.hid hl1
      have hL2 := Lib.hid hl2
      clear hcell hfree hl1 hl2
      go_wp2_with (first | (go_at_call 72; refine (HD.out _).mono ?_; rintro e w' ⟨rfl, m1, rfl⟩) | ((with_reducible refine upon_bin rfl ?_); intro r1 n1 wz e1))
      have E1 := drwC_is (j := k) (sd := sd) e1.out
      have R2 : Hid (RowW ((wr.drewN (m1 + n1)).setCell ⟨bb, off + k, none⟩ (.bool (FloatKind.f32.format.order (floatOfInt .f32 (drawS (itS sd k) 32768)) r1 == some .lt))) (w.heap.size + 1) w1.heap.size (some ⟨bb, off, none⟩) n (bo (copB (drwC sh sd) (k + 1)))) :=
        ((hR.out.drewN (m := m1 + n1)).setW (u := .bool (FloatKind.f32.format.order (floatOfInt .f32 (drawS (itS sd k) 32768)) r1 == some .lt)) hlt).ext (U := bo (copB (drwC sh sd) (k + 1))) fun j _ => by rw [E1]; exact copB_put (drwC sh sd) k j
      have V2 := Lib.hid ((hV.out.drewN (m := m1 + n1)).but ((ButIn.refl bb (bb + 1) (wr.drewN (m1 + n1))).set (q := ⟨bb, off + k, none⟩) (Nat.le_refl _) (Nat.lt_succ_self _) (.bool (FloatKind.f32.format.order (floatOfInt .f32 (drawS (itS sd k) 32768)) r1 == some .lt))) (.inr (by have := hL2.out; omega)))
      have K2 := Lib.hid ((hK.out.drewN (n := m1 + n1)).set (q := ⟨bb, off + k, none⟩) hL1.out hL2.out (.bool (FloatKind.f32.format.order (floatOfInt .f32 (drawS (itS sd k) 32768)) r1 == some .lt)))
      go_roundw
      case rel => exact ⟨k + 1, by omega, rfl, by go_num, V2, R2, K2⟩
      case measure => simp [intOf]; omega
    · obtain rfl : k = n := by omega
      have hXX : w.heap.size < b1.heap.size := by have := HB2.out.size; have := V1.out.lt; omega
      have eB := hK.out.block w.heap.size hXX (.inl (Nat.lt_succ_self _))
      have d0 := (World.cell?_of_block (w := b1) (a := ⟨w.heap.size, 0, none⟩) eB).trans p0
      have d1 := (World.cell?_of_block (w := b1) (a := ⟨w.heap.size, 1, none⟩) eB).trans p1
      have d2 := (World.cell?_of_block (w := b1) (a := ⟨w.heap.size, 2, none⟩) eB).trans p2
      have f0 := (World.frozen?_of_block (w := b1) (a := ⟨w.heap.size, 0, none⟩) eB).trans r0
      have f1 := (World.frozen?_of_block (w := b1) (a := ⟨w.heap.size, 1, none⟩) eB).trans r1
      have f2 := (World.frozen?_of_block (w := b1) (a := ⟨w.heap.size, 2, none⟩) eB).trans r2
      have hlt2 : ¬ (k : Int) < k := by omega
      have HE : Hid (RowW wr (w.heap.size + 1) w1.heap.size Ae k (bo (drwC sh sd))) := hR.out.ext fun j hj => by unfold bo copB; rw [if_pos hj]
      have HBF := Lib.hid (HB2.out.trans (hK.out.toBelow (Nat.le_succ _) (Nat.le_of_lt hXX)))
      clear eB p0 p1 p2 r0 r1 r2
      go_wp2_with fail
      refine bodyPost_ret (v := .tuple #[.agg #[.int .i64 x, .int .i64 y, .slice Ae k ce], .int .i64 (itS sd k), .bool true]) (by simp [results, Try.results34, go_sem, d0, d1, d2]) rfl ?_
      have a1 := ((HE.out.store3 (Y := w.heap.size) (Nat.lt_succ_self _) (.int .i64 x) (.int .i64 y) (.slice Ae k ce)).upper (hi' := (((wr.setCell ⟨w.heap.size, 0, none⟩ (.int .i64 x)).setCell ⟨w.heap.size, 1, none⟩ (.int .i64 y)).setCell ⟨w.heap.size, 2, none⟩ (.slice Ae k ce)).heap.size) (by have := HE.out.le; simpa [World.setCell] using this) (Nat.le_refl _)).lower (lo' := w.heap.size) (Nat.le_succ _)
      have a2 := store3 HBF.out (Nat.le_refl _) (.int .i64 x) (.int .i64 y) (.slice Ae k ce)
      first | exact ⟨Ae, ce, rfl, a1, a2⟩ | exact ⟨Ae, ⟨ce, rfl⟩, a1, a2⟩

theorem drwBoth (x y : Int) (sh : Nat) (sd : Int) : ∃ (sq : Int) (b : Bool) (fx fy : Int) (fn : Nat) (ff : Nat → Bool), fn ≤ 1048576 ∧
    (∀ (w : World), Calls Try.prog 33 #[.int .i64 x, .int .i64 y, .float .f32 sh, .int .i64 sd] w fun e w' => ∃ A c, e = .returned (.tuple #[.agg #[.int .i64 fx, .int .i64 fy, .slice A fn c], .int .i64 sq, .bool b]) ∧ Hid (RowW w' w.heap.size w'.heap.size A fn (bo ff)) ∧ Hid (Below w.heap.size w w')) ∧
    (∀ (w : World), Calls Try.prog 34 #[.int .i64 x, .int .i64 y, .float .f32 sh, .int .i64 sd] w fun e w' => ∃ A c, e = .returned (.tuple #[.agg #[.int .i64 fx, .int .i64 fy, .slice A fn c], .int .i64 sq, .bool b]) ∧ Hid (RowW w' w.heap.size w'.heap.size A fn (bo ff)) ∧ Hid (Below w.heap.size w w')) := by
  cases h : drB x y sh sd with
  | false =>
    refine ⟨0, false, 0, 0, 0, fun _ => false, by omega, fun w => specDrNo x y sh sd w h, fun w => ?_⟩
    cases h1 : sidB x y with
    | false => exact implDrNo1 x y sh sd w h1
    | true =>
      have hb := sid_bd h1
      have e : x * y = ((x * y).toNat : Int) := by omega
      refine implDrNo2 x y _ sh sd w h1 e ?_
      unfold drB at h
      rw [h1, Bool.true_and] at h
      cases h2 : fromB sh 0 1065353216 with
      | false => exact .inl rfl
      | true => rw [h2, Bool.true_and] at h; exact .inr ⟨rfl, h⟩
  | true =>
    have h1 : sidB x y = true := by unfold drB at h; rw [Bool.and_eq_true] at h; exact h.1
    have hb := sid_bd h1
    have e : x * y = ((x * y).toNat : Int) := by omega
    exact ⟨_, true, x, y, (x * y).toNat, drwC sh sd, by omega, fun w => specDr x y _ sh sd w h e, fun w => implDr x y _ sh sd w h e⟩

end Go.Proofs.Ytcoikcdglcpmcaa
