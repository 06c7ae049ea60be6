/-
  What is proved here: sizes, copies, comparisons, marks and looks of fields, as walks; how a field that came in is read. Conditions: at most 1048576 cells.
-/
import Derived.Test.YtnhcmloaanamnaaCel
namespace Go.Proofs.Ytnhcmloaanamnaa
open Go.RowKit Go.ChangeShapes Go.WideShapes
set_option linter.unusedVariables false

/-- what is left behind so many -/
def szN (n left : Nat) : Int := if n ≤ left then (left : Int) - n else -1
theorem szN_lt {n left : Nat} (h : ¬ szN n left < 0) : n ≤ left := by
  unfold szN at h
  split at h
  · assumption
  · omega
theorem szN_no {n left : Nat} (h : szN n left < 0) : ¬ n ≤ left := by
  unfold szN at h
  split at h
  · omega
  · assumption
theorem szN_eq {n left : Nat} (h : n ≤ left) : szN n left = ((left - n : Nat) : Int) := by
  unfold szN
  rw [if_pos h]; omega



/-- a local variable that holds a field -/
structure VarT (w : World) (v : Nat) (x y : Int) (A : Option Addr) (n c : Nat) : Prop where
  lt : v < w.heap.size
  c0 : w.cell? ⟨v, 0, none⟩ = some (.int .i64 x)
  c1 : w.cell? ⟨v, 1, none⟩ = some (.int .i64 y)
  c2 : w.cell? ⟨v, 2, none⟩ = some (.slice A n c)

theorem varT_new (w : World) (x y : Int) (A : Option Addr) (n c : Nat) (t : TypeId) : VarT (w.alloc (.cells #[.int .i64 x, .int .i64 y, .slice A n c] t)) w.heap.size x y A n c := by
  refine ⟨by simp, ?_, ?_, ?_⟩ <;> simp [World.cell?, World.alloc, -World.alloc_eq]
theorem VarT.but {w w' : World} {v l h : Nat} {x y : Int} {A : Option Addr} {n c : Nat} (r : VarT w v x y A n c) (hb : ButIn l h w w') (hd : v < l ∨ h ≤ v) : VarT w' v x y A n c := by
  have e : w'.heap[v]? = w.heap[v]? := hb.block v r.lt hd
  exact ⟨Nat.lt_of_lt_of_le r.lt hb.size, by rw [World.cell?_of_block (w := w) e]; exact r.c0, by rw [World.cell?_of_block (w := w) e]; exact r.c1, by rw [World.cell?_of_block (w := w) e]; exact r.c2⟩
theorem VarT.below {w w' : World} {v : Nat} {x y : Int} {A : Option Addr} {n c : Nat} (h : VarT w v x y A n c) (hb : Below w.heap.size w w') : VarT w' v x y A n c := h.but (ButIn.of hb) (.inr (Nat.zero_le _))
theorem VarT.drewN {w : World} {v m : Nat} {x y : Int} {A : Option Addr} {n c : Nat} (h : VarT w v x y A n c) : VarT (w.drewN m) v x y A n c := ⟨h.lt, h.c0, h.c1, h.c2⟩
theorem below_var (w : World) (x y : Int) (A : Option Addr) (n c : Nat) (t : TypeId) : Below w.heap.size w (w.alloc (.cells #[.int .i64 x, .int .i64 y, .slice A n c] t)) := (Below.refl _ _).alloc (Nat.le_refl _) _

theorem RowW.other {w : World} {lo hi n : Nat} {A : Option Addr} {V : Nat → Value} (r : RowW w lo hi A n V) {q : Addr} (hq : q.block < lo) (u : Value) : RowW (w.setCell q u) lo hi A n V :=
  r.but ((ButIn.refl q.block (q.block + 1) w).set (Nat.le_refl _) (by omega) u) (.inr (by omega))
theorem RowW.top {w : World} {lo hi n : Nat} {A : Option Addr} {V : Nat → Value} (r : RowW w lo hi A n V) (e : w.heap.size = hi) : RowW w lo w.heap.size A n V := by subst e; exact r





/-- the cells of a local variable stand behind more memory -/
theorem keepT {W wa wb : World} {v : Nat} {x y : Int} {A : Option Addr} {n c : Nat} (hb : Below wa.heap.size wa wb) (h0 : wa.cell? ⟨v, 0, none⟩ = some (.int .i64 x)) (h1 : wa.cell? ⟨v, 1, none⟩ = some (.int .i64 y)) (h2 : wa.cell? ⟨v, 2, none⟩ = some (.slice A n c)) (hB : Hid (Below W.heap.size W wa)) (hx : v < W.heap.size) :
    wb.cell? ⟨v, 0, none⟩ = some (.int .i64 x) ∧ wb.cell? ⟨v, 1, none⟩ = some (.int .i64 y) ∧ wb.cell? ⟨v, 2, none⟩ = some (.slice A n c) := by
  have := Nat.lt_of_lt_of_le hx hB.out.size
  exact ⟨by rw [hb.cell (p := ⟨v, 0, none⟩) this]; exact h0, by rw [hb.cell (p := ⟨v, 1, none⟩) this]; exact h1, by rw [hb.cell (p := ⟨v, 2, none⟩) this]; exact h2⟩

end Go.Proofs.Ytnhcmloaanamnaa
