/-
  What is proved here: a growing field's edge tells of its cells alone; the model's GrowEdge for all that it may be given. Conditions: at most 1048576 cells.
-/
import Derived.Test.YthhimielelpcoaaEds
namespace Go.Proofs.Ythhimielelpcoaa
open Go.RowKit
set_option linter.unusedVariables false
set_option linter.unusedSimpArgs false

theorem edg_ext {x y : Int} {n : Nat} {p q : Nat → Bool} (hx : 1 ≤ x) (hn : (n : Int) = x * y) (h : ∀ k, k < n → p k = q k) : ∀ k, k < n → edg x y p k = edg x y q k := fun k hk => by
  unfold edg
  rw [h k hk]
  congr 1
  rw [decide_eq_decide, fulS_pos, fulS_pos]
  constructor
  · rintro ⟨s, h1, h2⟩
    have h3 := sidL_mem hx (by omega) (by omega) _ h1
    exact ⟨s, h1, by rw [← h s.toNat (by omega)]; exact h2⟩
  · rintro ⟨s, h1, h2⟩
    have h3 := sidL_mem hx (by omega) (by omega) _ h1
    exact ⟨s, h1, by rw [h s.toNat (by omega)]; exact h2⟩
theorem Frt.ext {w : World} {FB B m n : Nat} {x y : Int} {p q : Nat → Bool} (r : Frt w FB B m x y n p) (hx : 1 ≤ x) (hn : (n : Int) = x * y) (h : ∀ k, k < n → p k = q k) : Frt w FB B m x y n q :=
  ⟨r.row.ext fun j hj => by unfold bo; rw [h j hj], r.ed.ext (edg_ext hx hn h)⟩
/-- the field as the program begins with it: its full cells, filled -/
theorem Frt.start {w : World} {FB B m n : Nat} {x y : Int} {p : Nat → Bool} (r : Frt w FB B m x y n (frQ (fulL p n))) (hx : 1 ≤ x) (hn : (n : Int) = x * y) : Frt w FB B m x y n p := r.ext hx hn fun k hk => frQ_ful hk
theorem Frt.mono {w : World} {FB B m m' n : Nat} {x y : Int} {p : Nat → Bool} (r : Frt w FB B m x y n p) (h : m ≤ m') : Frt w FB B m' x y n p := ⟨r.row, r.ed.mono h⟩
theorem Frt.below {w w' : World} {FB B m n : Nat} {x y : Int} {p : Nat → Bool} (r : Frt w FB B m x y n p) (h : Below w.heap.size w w') : Frt w' FB B m x y n p := ⟨r.row.below h, r.ed.below h⟩
/-- the front's fill, a round of GrowEdge -/
theorem implFilR (x y : Int) (n f m FB B lo hi k : Nat) (p : Nat → Bool) (s : Int) (w : World) (hv : sidB x y = true) (hn : (n : Int) = x * y) (hm : m ≤ 1000000) (h1 : lo ≤ FB) (h2 : FB < hi) (h3 : lo ≤ B) (h4 : B < hi) (h5 : FB ≠ B) (h6 : hi ≤ w.heap.size)
    (hl : 0 < (edL x y n (grJ x y n p s k).1).length) (hr : Frt w FB B m x y n (grJ x y n p s k).1) :
    Calls Try.prog 59 #[.agg #[.int .i64 x, .int .i64 y, .slice (some ⟨FB, 0, none⟩) n f, .map (some B)], .int .i64 (edC x y n (grJ x y n p s k).1 (grJ x y n p s k).2 : Int)] w fun en w' => en = .returned (.tuple #[]) ∧ Hid (Frt w' FB B (m + 4) x y n (grJ x y n p s (k + 1)).1) ∧ Hid (ButIn lo hi w w') := by
  have hc := (edC_lt (s := (grJ x y n p s k).2) hl (drawS_bd _ (by omega))).1
  refine (implFil2 x y n f m FB B (edC x y n (grJ x y n p s k).1 (grJ x y n p s k).2) lo hi (grJ x y n p s k).1 (grJ x y n p s (k + 1)).1 w hv hn hc hm h1 h2 h3 h4 h5 h6 hr fun _ _ => rfl).mono ?_
  rintro en w' ⟨he, a, b, d⟩
  exact ⟨he, ⟨a.out, b.out⟩, d⟩
end Go.Proofs.Ythhimielelpcoaa
