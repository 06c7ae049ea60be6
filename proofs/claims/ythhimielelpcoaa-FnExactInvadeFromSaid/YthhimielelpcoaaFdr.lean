/-
  What is proved here: fields with drawn cells, of both packages, as walks. Conditions: none.
-/
import Derived.Test.YthhimielelpcoaaFem
import Derived.Test.YthhimielelpcoaaFrm
import Derived.Test.YthhimielelpcoaaGrb
namespace Go.Proofs.Ythhimielelpcoaa
open Flt Go.RowKit
attribute [local go_sem] run_store_bool
set_option linter.unusedVariables false

/-- whether a drawn cell is full -/
def drwC (sh : Nat) (sd : Int) (j : Nat) : Bool := ford .f32 (can .f32 (floatOfInt .f32 (drawS (itS sd j) 32768))) (fop .mul .f32 (can .f32 sh) (can .f32 1191182336)) == some .lt
theorem drwC_is {sh r j : Nat} {sd : Int} (h : can .f32 r = fop .mul .f32 (can .f32 sh) (can .f32 1191182336)) : (FloatKind.f32.format.order (floatOfInt .f32 (drawS (itS sd j) 32768)) r == some .lt) = drwC sh sd j := by
  unfold drwC
  rw [ford_can, h]
def lstB (p : Nat → Bool) : Nat → List Bool
  | 0 => []
  | k + 1 => lstB p k ++ [p k]
theorem lstB_len (p : Nat → Bool) (k : Nat) : (lstB p k).length = k := by
  induction k with
  | zero => rfl
  | succ k ih => show (lstB p k ++ [p k]).length = _; rw [List.length_append, ih]; rfl
theorem lstB_at (p : Nat → Bool) (k j : Nat) (h : j < k) : atB (lstB p k) j = p j := by
  induction k with
  | zero => exact absurd h (Nat.not_lt_zero _)
  | succ k ih =>
    show atB (lstB p k ++ [p k]) j = _
    unfold atB
    rw [List.getD_eq_getElem?_getD]
    by_cases e : j < k
    · rw [List.getElem?_append_left (by rw [lstB_len]; exact e)]
      have := ih e
      unfold atB at this
      rwa [List.getD_eq_getElem?_getD] at this
    · have : j = k := by omega
      subst this
      rw [List.getElem?_append_right (by rw [lstB_len]; omega), lstB_len]; simp

def drB (x y : Int) (sh : Nat) (sd : Int) : Bool := sidB x y && (fromB sh 0 1065353216 && seedB sd)


/-- a fresh variable that holds a field, behind another one -/
theorem twoB_new (w : World) (x y x2 y2 : Int) (t : TypeId) : Below w.heap.size w ((w.alloc (.cells #[.int .i64 x2, .int .i64 y2, .slice none 0 0] t)).alloc (.cells #[.int .i64 x, .int .i64 y, .slice none 0 0] t)) := ((Below.refl _ _).alloc (Nat.le_refl _) _).alloc (by simp) _
theorem fresh3 (w : World) (a0 a1 a2 : Value) (t : TypeId) : (w.alloc (.cells #[a0, a1, a2] t)).cell? ⟨w.heap.size, 0, none⟩ = some a0 ∧ (w.alloc (.cells #[a0, a1, a2] t)).cell? ⟨w.heap.size, 1, none⟩ = some a1 ∧ (w.alloc (.cells #[a0, a1, a2] t)).cell? ⟨w.heap.size, 2, none⟩ = some a2 ∧ (w.alloc (.cells #[a0, a1, a2] t)).frozen? ⟨w.heap.size, 0, none⟩ = false ∧ (w.alloc (.cells #[a0, a1, a2] t)).frozen? ⟨w.heap.size, 1, none⟩ = false ∧ (w.alloc (.cells #[a0, a1, a2] t)).frozen? ⟨w.heap.size, 2, none⟩ = false := by
  refine ⟨?_, ?_, ?_, ?_, ?_, ?_⟩ <;> simp [World.cell?, World.frozen?, World.alloc, -World.alloc_eq]

/-- a variable of a field that may be written, as the last of two -/
structure VarW (w : World) (X : Nat) (x y : Int) (A : Option Addr) (n c : Nat) : Prop where
  lt : X + 1 < w.heap.size
  c0 : w.cell? ⟨X + 1, 0, none⟩ = some (.int .i64 x)
  c1 : w.cell? ⟨X + 1, 1, none⟩ = some (.int .i64 y)
  c2 : w.cell? ⟨X + 1, 2, none⟩ = some (.slice A n c)
  f2 : w.frozen? ⟨X + 1, 2, none⟩ = false
  r0 : w.cell? ⟨X, 0, none⟩ = some (.int .i64 0)
  r1 : w.cell? ⟨X, 1, none⟩ = some (.int .i64 0)
  r2 : w.cell? ⟨X, 2, none⟩ = some (.slice none 0 0)
  g0 : w.frozen? ⟨X, 0, none⟩ = false
  g1 : w.frozen? ⟨X, 1, none⟩ = false
  g2 : w.frozen? ⟨X, 2, none⟩ = false
theorem VarW.below {w w' : World} {X : Nat} {x y : Int} {A : Option Addr} {n c : Nat} (h : VarW w X x y A n c) (hb : Below (X + 2) w w') : VarW w' X x y A n c := by
  have a : X + 1 < X + 2 := by omega
  have b : X < X + 2 := by omega
  exact ⟨Nat.lt_of_lt_of_le h.lt hb.size, by rw [hb.cell (p := ⟨X + 1, 0, none⟩) a]; exact h.c0, by rw [hb.cell (p := ⟨X + 1, 1, none⟩) a]; exact h.c1, by rw [hb.cell (p := ⟨X + 1, 2, none⟩) a]; exact h.c2, by rw [hb.frozen (p := ⟨X + 1, 2, none⟩) a]; exact h.f2, by rw [hb.cell (p := ⟨X, 0, none⟩) b]; exact h.r0, by rw [hb.cell (p := ⟨X, 1, none⟩) b]; exact h.r1, by rw [hb.cell (p := ⟨X, 2, none⟩) b]; exact h.r2, by rw [hb.frozen (p := ⟨X, 0, none⟩) b]; exact h.g0, by rw [hb.frozen (p := ⟨X, 1, none⟩) b]; exact h.g1, by rw [hb.frozen (p := ⟨X, 2, none⟩) b]; exact h.g2⟩
theorem VarW.set {w : World} {X : Nat} {x y : Int} {A B : Option Addr} {n m c d : Nat} (h : VarW w X x y A n c) : VarW (w.setCell ⟨X + 1, 2, none⟩ (.slice B m d)) X x y B m d := by
  refine ⟨by have := h.lt; simpa [World.setCell] using this, ?_, ?_, ?_, ?_, ?_, ?_, ?_, ?_, ?_, ?_⟩
  · rw [World.cell?_setCell_other w _ _ _ (by intro e; injection e with _ e _; cases e)]; exact h.c0
  · rw [World.cell?_setCell_other w _ _ _ (by intro e; injection e with _ e _; cases e)]; exact h.c1
  · exact World.cell?_setCell_same w _ _ h.c2
  · rw [World.frozen?_setCell]; exact h.f2
  · rw [World.cell?_setCell_other w _ _ _ (by intro e; injection e with e _ _; omega)]; exact h.r0
  · rw [World.cell?_setCell_other w _ _ _ (by intro e; injection e with e _ _; omega)]; exact h.r1
  · rw [World.cell?_setCell_other w _ _ _ (by intro e; injection e with e _ _; omega)]; exact h.r2
  · rw [World.frozen?_setCell]; exact h.g0
  · rw [World.frozen?_setCell]; exact h.g1
  · rw [World.frozen?_setCell]; exact h.g2
theorem VarW.drewN {w : World} {X m : Nat} {x y : Int} {A : Option Addr} {n c : Nat} (h : VarW w X x y A n c) : VarW (w.drewN m) X x y A n c := ⟨h.lt, h.c0, h.c1, h.c2, h.f2, h.r0, h.r1, h.r2, h.g0, h.g1, h.g2⟩
theorem varW_new (w : World) (x y : Int) (t : TypeId) : VarW ((w.alloc (.cells #[.int .i64 0, .int .i64 0, .slice none 0 0] t)).alloc (.cells #[.int .i64 x, .int .i64 y, .slice none 0 0] t)) w.heap.size x y none 0 0 := by
  have e1 : (w.alloc (.cells #[.int .i64 0, .int .i64 0, .slice none 0 0] t)).heap.size = w.heap.size + 1 := by simp
  obtain ⟨d0, d1, d2, f0, f1, f2⟩ := fresh3 (w.alloc (.cells #[.int .i64 0, .int .i64 0, .slice none 0 0] t)) (.int .i64 x) (.int .i64 y) (.slice none 0 0) t
  rw [e1] at d0 d1 d2 f0 f1 f2
  have B := (Below.refl (w.alloc (.cells #[.int .i64 0, .int .i64 0, .slice none 0 0] t)).heap.size (w.alloc (.cells #[.int .i64 0, .int .i64 0, .slice none 0 0] t))).alloc (Nat.le_refl _) (.cells #[.int .i64 x, .int .i64 y, .slice none 0 0] t)
  obtain ⟨e0, e2, e3, g0, g1, g2⟩ := fresh3 w (.int .i64 0) (.int .i64 0) (.slice none 0 0) t
  have b : w.heap.size < (w.alloc (.cells #[.int .i64 0, .int .i64 0, .slice none 0 0] t)).heap.size := by rw [e1]; exact Nat.lt_succ_self _
  exact ⟨by simp, d0, d1, d2, f2, by rw [B.cell (p := ⟨w.heap.size, 0, none⟩) b]; exact e0, by rw [B.cell (p := ⟨w.heap.size, 1, none⟩) b]; exact e2, by rw [B.cell (p := ⟨w.heap.size, 2, none⟩) b]; exact e3, by rw [B.frozen (p := ⟨w.heap.size, 0, none⟩) b]; exact g0, by rw [B.frozen (p := ⟨w.heap.size, 1, none⟩) b]; exact g1, by rw [B.frozen (p := ⟨w.heap.size, 2, none⟩) b]; exact g2⟩
theorem store3 {w w' : World} {X Y : Nat} (h : Below X w w') (hY : X ≤ Y) (u0 u1 u2 : Value) : Below X w (((w'.setCell ⟨Y, 0, none⟩ u0).setCell ⟨Y, 1, none⟩ u1).setCell ⟨Y, 2, none⟩ u2) := ((h.setCell hY _).setCell hY _).setCell hY _
theorem RowW.store3 {w : World} {lo hi n Y : Nat} {A : Option Addr} {V : Nat → Value} (r : RowW w lo hi A n V) (hY : Y < lo) (u0 u1 u2 : Value) : RowW (((w.setCell ⟨Y, 0, none⟩ u0).setCell ⟨Y, 1, none⟩ u1).setCell ⟨Y, 2, none⟩ u2) lo hi A n V := ((r.other (q := ⟨Y, 0, none⟩) hY u0).other (q := ⟨Y, 1, none⟩) hY u1).other (q := ⟨Y, 2, none⟩) hY u2




end Go.Proofs.Ythhimielelpcoaa
