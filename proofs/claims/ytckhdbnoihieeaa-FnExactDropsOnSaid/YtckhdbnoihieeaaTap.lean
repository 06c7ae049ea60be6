/-
  What is proved here: what slides on a sheet, told as functions of places, up to not-a-numbers. Conditions: none but those that each theorem names. Own text.
-/
import Derived.Test.YtckhdbnoihieeaaFkb
import Derived.Test.YtckhdbnoihieeaaNrm
import Derived.Test.YtckhdbnoihieeaaOct
namespace Go.Proofs.Ytckhdbnoihieeaa
open Flt Go.RowKit
set_option linter.unusedVariables false

/-- what is told, with another number at one place -/
def updO (f : Nat → Option Nat) (k : Nat) (v : Option Nat) (j : Nat) : Option Nat := if j = k then v else f j
theorem Told.upd {f : Nat → Option Nat} {n k r : Nat} {v : Option Nat} {ws : List Nat} (h : Told f n n ws) (hk : k < n) (hr : can .f32 r = v) : Told (updO f k v) n n (ws.set k r) := by
  refine ⟨by rw [List.length_set]; exact h.1, fun j hj => ?_⟩
  rw [at0_set (by rw [h.1]; exact hj)]
  unfold updO
  by_cases e : j = k
  · rw [if_pos e, if_pos e]; exact hr
  · rw [if_neg e, if_neg e]; exact h.2 j hj
/-- greater than nothing -/
def gtO (o : Option Nat) : Bool := ford .f32 o (can .f32 0) == some .gt
theorem gtO_yes {r : Nat} {o : Option Nat} (h : can .f32 r = o) (g : FloatKind.f32.format.order r 0 = some .gt) : gtO o = true := by
  unfold gtO; rw [← h, ← ford_can, g]; rfl
theorem gtO_no {r : Nat} {o : Option Nat} (h : can .f32 r = o) (g : FloatKind.f32.format.order r 0 ≠ some .gt) : gtO o = false := by
  unfold gtO; rw [← h, ← ford_can]
  cases e : FloatKind.f32.format.order r 0 with
  | none => rfl
  | some c => cases c with
    | gt => exact absurd e g
    | lt => rfl
    | eq => rfl

/-- by how much a place is too high above another, and what slides then -/
def talD (zs : List Nat) (st i j : Nat) : Option Nat := fop .sub .f32 (fop .sub .f32 (can .f32 (at0 zs i)) (can .f32 (at0 zs j))) (can .f32 st)
def talX (zs : List Nat) (st sh i j : Nat) : Option Nat := fop .mul .f32 (can .f32 sh) (talD zs st i j)
abbrev TalS := (Nat → Option Nat) × Option Nat
def talT (zs : List Nat) (st sh i j : Nat) (s : TalS) : TalS :=
  if gtO (talD zs st i j) = true then
    (updO (updO s.1 i (fop .sub .f32 (s.1 i) (talX zs st sh i j))) j (fop .add .f32 (updO s.1 i (fop .sub .f32 (s.1 i) (talX zs st sh i j)) j) (talX zs st sh i j)), fop .add .f32 s.2 (talX zs st sh i j))
  else s
def talI (zs : List Nat) (st sh i : Nat) (L : List Int) (s : TalS) : Nat → TalS
  | 0 => s
  | k + 1 => talT zs st sh i (atI L k).toNat (talI zs st sh i L s k)
def talO (zs : List Nat) (st sh : Nat) (x y : Int) : Nat → TalS
  | 0 => (fun j => can .f32 (at0 zs j), can .f32 0)
  | i + 1 => talI zs st sh i (Fk.sidL x y i) (talO zs st sh x y i) (Fk.sidL x y i).length
theorem talT_no {zs : List Nat} {st sh i j : Nat} {s : TalS} (h : gtO (talD zs st i j) = false) : talT zs st sh i j s = s := by unfold talT; rw [h]; rfl
theorem talT_yes {zs : List Nat} {st sh i j : Nat} {s : TalS} (h : gtO (talD zs st i j) = true) : talT zs st sh i j s = (updO (updO s.1 i (fop .sub .f32 (s.1 i) (talX zs st sh i j))) j (fop .add .f32 (updO s.1 i (fop .sub .f32 (s.1 i) (talX zs st sh i j)) j) (talX zs st sh i j)), fop .add .f32 s.2 (talX zs st sh i j)) := by unfold talT; rw [h]; rfl

/-- the sheet, the steepness and the share are ones that something may slide with -/
def leastB (x : Nat) : Bool := finB .f32 x && geO (FloatKind.f32.format.order x 0)
def talA (x y : Int) (zs : List Nat) (st sh : Nat) : Bool := shB x y zs && (leastB st && fromB sh 0 1040187392)
def talB (x y : Int) (zs : List Nat) (st sh : Nat) : Bool := talA x y zs st sh && (toldB (talO zs st sh x y zs.length).1 zs.length && finO (talO zs st sh x y zs.length).2)
/-- what a function gives that returns a sheet and a number -/
def TPostF (p q : Int) (ys : List Nat) (s : Nat) (b : Bool) (w : World) (e : Ending) (w' : World) : Prop :=
  ∃ A c, e = .returned (.tuple #[.agg #[.int .i64 p, .int .i64 q, .slice A ys.length c], .float .f32 s, .bool b]) ∧ Hid (RowIn w' w.heap.size w'.heap.size A ys) ∧ Hid (Below w.heap.size w w')
def gV (b : Bool) (o : Option Nat) : Nat := if b = true then o.getD 0 else 0
theorem tpostF_no {B : Bool} {x y : Int} {ys : List Nat} {o : Option Nat} {w w' : World} (hb : B = false) (h : Below w.heap.size w w') : TPostF (gN B x) (gN B y) (gY B ys) (gV B o) B w (.returned (.tuple #[.agg #[.int .i64 0, .int .i64 0, .slice none 0 0], .float .f32 0, .bool false])) w' := by
  subst hb
  exact ⟨none, 0, rfl, RowIn.empty (Nat.le_refl _), h⟩
theorem tpostF_yes {B : Bool} {x y : Int} {ys : List Nat} {n c s : Nat} {o : Option Nat} {A : Option Addr} {w w' : World} (hb : B = true) (hl : ys.length = n) (hs : o.getD 0 = s) (hr : RowIn w' w.heap.size w'.heap.size A ys) (h : Below w.heap.size w w') : TPostF (gN B x) (gN B y) (gY B ys) (gV B o) B w (.returned (.tuple #[.agg #[.int .i64 x, .int .i64 y, .slice A n c], .float .f32 s, .bool true])) w' := by
  subst hb hl hs
  exact ⟨A, c, rfl, hr, h⟩
theorem finO_word {r : Nat} {o : Option Nat} (h : can .f32 r = o) (hf : finO o = true) : o.getD 0 = r := by
  cases o with
  | none => cases hf
  | some v => obtain ⟨_, e⟩ := can_eq_some h; exact e.symm
theorem toldB_get {f : Nat → Option Nat} {n j : Nat} (h : toldB f n = true) (hj : j < n) : finO (f j) = true := List.all_eq_true.1 h j (List.mem_range.2 hj)

end Go.Proofs.Ytckhdbnoihieeaa
