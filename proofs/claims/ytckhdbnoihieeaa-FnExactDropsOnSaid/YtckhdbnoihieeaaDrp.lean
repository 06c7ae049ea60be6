/-
  What is proved here: what a drop takes and leaves on a sheet, told as functions of places, up to not-a-numbers. Conditions: none but those that each theorem names. Own text.
-/
import Derived.Test.YtckhdbnoihieeaaTac
namespace Go.Proofs.Ytckhdbnoihieeaa
open Flt Go.RowKit
set_option linter.unusedVariables false

def ltO (a b : Option Nat) : Bool := ford .f32 a b == some .lt
theorem ltO_eq {r s : Nat} {a b : Option Nat} (h : can .f32 r = a) (g : can .f32 s = b) : ltO a b = (FloatKind.f32.format.order r s == some .lt) := by
  unfold ltO; rw [← h, ← g, ← ford_can]
/-- the lowest of a place and so many of a list -/
def lowF (f : Nat → Option Nat) (L : List Int) (a : Nat) : Nat → Nat
  | 0 => a
  | k + 1 => if ltO (f (atI L k).toNat) (f (lowF f L a k)) = true then (atI L k).toNat else lowF f L a k
def lowB (f : Nat → Option Nat) (x y : Int) (a : Nat) : Nat := lowF f (Fk.sidL x y (a : Int)) a (Fk.sidL x y (a : Int)).length
theorem lowF_lt {f : Nat → Option Nat} {L : List Int} {a n : Nat} (ha : a < n) (hL : ∀ m, m < L.length → ∃ j : Nat, atI L m = j ∧ j < n) : ∀ k, k ≤ L.length → lowF f L a k < n := by
  intro k
  induction k with
  | zero => intro _; exact ha
  | succ k ih =>
    intro hk
    unfold lowF
    split
    · obtain ⟨j, h1, h2⟩ := hL k (by omega)
      rw [h1]; exact h2
    · exact ih (by omega)

structure DrS where
  f : Nat → Option Nat
  c : Option Nat
  a : Nat
  n : Nat
def drX (tk : Nat) (b : Nat) (s : DrS) : Option Nat := fop .mul .f32 (can .f32 tk) (fop .sub .f32 (s.f s.a) (s.f b))
def drC (tk : Nat) (b : Nat) (s : DrS) : Option Nat := fop .add .f32 s.c (drX tk b s)
def drY (tk lv : Nat) (b : Nat) (s : DrS) : Option Nat := fop .mul .f32 (can .f32 lv) (drC tk b s)
def drG (tk : Nat) (b : Nat) (s : DrS) : Nat → Option Nat := updO s.f s.a (fop .sub .f32 (s.f s.a) (drX tk b s))
/-- a step of a drop to a lower place -/
def drT (tk lv : Nat) (b : Nat) (s : DrS) : DrS :=
  ⟨updO (drG tk b s) s.a (fop .add .f32 (drG tk b s s.a) (drY tk lv b s)), fop .sub .f32 (drC tk b s) (drY tk lv b s), b, s.n + 1⟩
def drI (tk lv : Nat) (x y : Int) (s0 : DrS) : Nat → DrS
  | 0 => s0
  | k + 1 => if (drI tk lv x y s0 k).n = k ∧ lowB (drI tk lv x y s0 k).f x y (drI tk lv x y s0 k).a ≠ (drI tk lv x y s0 k).a then drT tk lv (lowB (drI tk lv x y s0 k).f x y (drI tk lv x y s0 k).a) (drI tk lv x y s0 k) else drI tk lv x y s0 k
theorem drI_go {tk lv : Nat} {x y : Int} {s0 : DrS} {k : Nat} (h : (drI tk lv x y s0 k).n = k) (g : lowB (drI tk lv x y s0 k).f x y (drI tk lv x y s0 k).a ≠ (drI tk lv x y s0 k).a) : drI tk lv x y s0 (k + 1) = drT tk lv (lowB (drI tk lv x y s0 k).f x y (drI tk lv x y s0 k).a) (drI tk lv x y s0 k) := by
  show (if _ then _ else _) = _
  rw [if_pos ⟨h, g⟩]
theorem drI_stop {tk lv : Nat} {x y : Int} {s0 : DrS} {k : Nat} (h : (drI tk lv x y s0 k).n = k) (g : lowB (drI tk lv x y s0 k).f x y (drI tk lv x y s0 k).a = (drI tk lv x y s0 k).a) : ∀ j, drI tk lv x y s0 (k + j) = drI tk lv x y s0 k := by
  intro j
  induction j with
  | zero => rfl
  | succ j ih =>
    have ih' : drI tk lv x y s0 (k.add j) = drI tk lv x y s0 k := ih
    show (if _ then _ else _) = _
    rw [ih']
    rw [if_neg]
    rintro ⟨_, h2⟩
    exact h2 g
/-- what the drop still carries falls where it is -/
def drF (s : DrS) : Nat → Option Nat := updO s.f s.a (fop .add .f32 (s.f s.a) s.c)
def dr0 (zs : List Nat) (a : Nat) : DrS := ⟨fun j => can .f32 (at0 zs j), can .f32 0, a, 0⟩

/-- take and leave are such -/
def ruleB (tk lv : Nat) : Bool := fromB tk 0 1056964608 && fromB lv 0 1065353216
def drpA (x y : Int) (zs : List Nat) (px py steps : Int) (tk lv : Nat) : Bool := shB x y zs && (inB px 0 (x - 1) && (inB py 0 (y - 1) && (inB steps 0 128 && ruleB tk lv)))
def drpS (x y : Int) (zs : List Nat) (px py steps : Int) (tk lv : Nat) : DrS := drI tk lv x y (dr0 zs (py * x + px).toNat) steps.toNat
def drpB (x y : Int) (zs : List Nat) (px py steps : Int) (tk lv : Nat) : Bool := drpA x y zs px py steps tk lv && toldB (drF (drpS x y zs px py steps tk lv)) zs.length
theorem drpB_no {x y : Int} {zs : List Nat} {px py steps : Int} {tk lv : Nat} (h : drpA x y zs px py steps tk lv = false) : drpB x y zs px py steps tk lv = false := by unfold drpB; rw [h]; rfl
theorem drpA_1 {x y : Int} {zs : List Nat} {px py steps : Int} {tk lv : Nat} (h : shB x y zs = false) : drpA x y zs px py steps tk lv = false := by unfold drpA; rw [h]; rfl
theorem shB_xy {x y : Int} {zs : List Nat} (h : shB x y zs = true) : (1 ≤ x ∧ x ≤ 17) ∧ (1 ≤ y ∧ y ≤ 17) := Fk.sidesB_yes (shB_sides h).1
theorem drpA_2 {x y : Int} {zs : List Nat} {px py steps : Int} {tk lv : Nat} (h : shB x y zs = true) (g : inB px 0 (wrap64 (x - 1)) = false) : drpA x y zs px py steps tk lv = false := by
  have := shB_xy h
  rw [IntWalk.wrap64_in _ (by omega)] at g
  unfold drpA; rw [h, g]; rfl
theorem drpA_3 {x y : Int} {zs : List Nat} {px py steps : Int} {tk lv : Nat} (h : shB x y zs = true) (g : inB py 0 (wrap64 (y - 1)) = false) : drpA x y zs px py steps tk lv = false := by
  have := shB_xy h
  rw [IntWalk.wrap64_in _ (by omega)] at g
  unfold drpA; rw [h, g]
  cases inB px 0 (x - 1) <;> rfl
theorem drpA_4 {x y : Int} {zs : List Nat} {px py steps : Int} {tk lv : Nat} (g : inB steps 0 128 = false) : drpA x y zs px py steps tk lv = false := by
  unfold drpA; rw [g]
  cases shB x y zs <;> cases inB px 0 (x - 1) <;> cases inB py 0 (y - 1) <;> rfl
theorem drpA_5 {x y : Int} {zs : List Nat} {px py steps : Int} {tk lv : Nat} (g : ruleB tk lv = false) : drpA x y zs px py steps tk lv = false := by
  unfold drpA; rw [g]
  cases shB x y zs <;> cases inB px 0 (x - 1) <;> cases inB py 0 (y - 1) <;> cases inB steps 0 128 <;> rfl
theorem drpA_yes {x y : Int} {zs : List Nat} {px py steps : Int} {tk lv : Nat} (h : shB x y zs = true) (g1 : inB px 0 (wrap64 (x - 1)) = true) (g2 : inB py 0 (wrap64 (y - 1)) = true) (g4 : inB steps 0 128 = true) (g5 : ruleB tk lv = true) : drpA x y zs px py steps tk lv = true := by
  have := shB_xy h
  rw [IntWalk.wrap64_in (x - 1) (by omega)] at g1
  rw [IntWalk.wrap64_in (y - 1) (by omega)] at g2
  unfold drpA; rw [h, g1, g2, g4, g5]; rfl
theorem drpS_eq {x y : Int} {zs : List Nat} {px py : Int} {sn a tk lv : Nat} (h : py * x + px = (a : Int)) : drpS x y zs px py (sn : Int) tk lv = drI tk lv x y (dr0 zs a) sn := by
  unfold drpS
  rw [h, Int.toNat_natCast, Int.toNat_natCast]
/-- the place of a drop -/
theorem drp_place {x y : Int} {zs : List Nat} {px py : Int} (h : shB x y zs = true) (g1 : inB px 0 (wrap64 (x - 1)) = true) (g2 : inB py 0 (wrap64 (y - 1)) = true) :
    ∃ (a : Nat) (t : Int), a < zs.length ∧ py * x + px = (a : Int) ∧ IntKind.i64.wrap (py * x) = t ∧ IntKind.i64.wrap (t + px) = (a : Int) := by
  have hxy := shB_xy h
  have hl := (shB_sides h).2.2
  rw [IntWalk.wrap64_in (x - 1) (by omega)] at g1
  rw [IntWalk.wrap64_in (y - 1) (by omega)] at g2
  obtain ⟨p0, p1⟩ := inB_yes g1
  obtain ⟨q0, q1⟩ := inB_yes g2
  have m0 : 0 ≤ py * x := Int.mul_nonneg q0 (by omega)
  have m1 : py * x ≤ (y - 1) * x := Int.mul_le_mul_of_nonneg_right q1 (by omega)
  have m2 : (y - 1) * x = x * y - x := by rw [Int.sub_mul, Int.one_mul, Int.mul_comm y x]
  have m3 := (Fk.sides_bd (shB_sides h).1).2
  refine ⟨(py * x + px).toNat, py * x, by omega, by omega, IntWalk.i64_in _ (by omega), ?_⟩
  rw [IntWalk.i64_in _ (by omega)]; omega
/-- what a function gives that returns a sheet and an integer -/
def TPostN (p q : Int) (ys : List Nat) (s : Int) (b : Bool) (w : World) (e : Ending) (w' : World) : Prop :=
  ∃ A c, e = .returned (.tuple #[.agg #[.int .i64 p, .int .i64 q, .slice A ys.length c], .int .i64 s, .bool b]) ∧ Hid (RowIn w' w.heap.size w'.heap.size A ys) ∧ Hid (Below w.heap.size w w')
theorem tpostN_no {B : Bool} {x y s : Int} {ys : List Nat} {w w' : World} (hb : B = false) (h : Below w.heap.size w w') : TPostN (gN B x) (gN B y) (gY B ys) (gN B s) B w (.returned (.tuple #[.agg #[.int .i64 0, .int .i64 0, .slice none 0 0], .int .i64 0, .bool false])) w' := by
  subst hb
  exact ⟨none, 0, rfl, RowIn.empty (Nat.le_refl _), h⟩
theorem tpostN_yes {B : Bool} {x y s s' : Int} {ys : List Nat} {n c : Nat} {A : Option Addr} {w w' : World} (hb : B = true) (hl : ys.length = n) (hs : s = s') (hr : RowIn w' w.heap.size w'.heap.size A ys) (h : Below w.heap.size w w') : TPostN (gN B x) (gN B y) (gY B ys) (gN B s) B w (.returned (.tuple #[.agg #[.int .i64 x, .int .i64 y, .slice A n c], .int .i64 s', .bool true])) w' := by
  subst hb hl hs
  exact ⟨A, c, rfl, hr, h⟩

end Go.Proofs.Ytckhdbnoihieeaa
