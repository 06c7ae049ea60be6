/-
  What is proved here: letters counted again and again, by the model, as a walk. Conditions: a valid grammar; texts of at most 32 letters.
-/
import Derived.Test.YtckhdbnoihieeaaLtA
namespace Go.Proofs.Ytckhdbnoihieeaa
open Go.RowKit

/-- a block of integers of its own, wherever it lies -/
structure OneI (w : World) (G n : Nat) (f : Nat → Int) : Prop where
  size : G < w.heap.size
  cell : ∀ j, j < n → w.cell? ⟨G, j, none⟩ = some (.int .i64 (f j))
  free : ∀ j, w.frozen? ⟨G, j, none⟩ = false
theorem OneRow.i {w : World} {G n : Nat} {f : Nat → Int} (h : OneRow w G n f) : OneI w G n f := ⟨by have := h.size; omega, h.cell, h.free⟩
theorem OneI.below {w w' : World} {G n : Nat} {f : Nat → Int} (h : OneI w G n f) (hb : Below w.heap.size w w') : OneI w' G n f :=
  ⟨Nat.lt_of_lt_of_le h.size hb.size, fun j hj => by rw [hb.cell h.size]; exact h.cell j hj, fun j => by rw [hb.frozen h.size]; exact h.free j⟩
theorem OneI.step {w : World} {G n k : Nat} {f g : Nat → Int} {x : Int} (h : OneI w G n f) (hk : k < n) (hg : g = fun j => if j = k then x else f j) : OneI (w.setCell ⟨G, k, none⟩ (.int .i64 x)) G n g := by
  subst hg
  refine ⟨by have := h.size; simpa [World.setCell] using this, fun j hj => ?_, fun j => by rw [World.frozen?_setCell]; exact h.free j⟩
  by_cases e : j = k
  · subst e
    rw [World.cell?_setCell_same w _ _ (h.cell j hj), if_pos rfl]
  · rw [World.cell?_setCell_other w _ _ _ (by intro h; injection h with _ h2 _; omega), h.cell j hj, if_neg e]
theorem OneI.other {w : World} {G n : Nat} {f : Nat → Int} (h : OneI w G n f) {q : Addr} (hq : q.block ≠ G) (u : Value) : OneI (w.setCell q u) G n f := by
  have e : (w.setCell q u).heap[G]? = w.heap[G]? := Below.heap_setCell _ _ _ _ (fun h => hq h.symm)
  exact ⟨by have := h.size; simpa [World.setCell] using this, fun j hj => by rw [World.cell?_of_block (w := w) e]; exact h.cell j hj, fun j => by rw [World.frozen?_of_block (w := w) e]; exact h.free j⟩
theorem OneI.ext {w : World} {G n : Nat} {f g : Nat → Int} (h : OneI w G n f) (e : ∀ j, j < n → f j = g j) : OneI w G n g := ⟨h.size, fun j hj => by rw [h.cell j hj, e j hj], h.free⟩

/-- the capital at a place -/
def capU (i : Nat) : UInt8 := UInt8.ofNat (65 + i)
/-- how many letters j a letter i becomes -/
def byF (ss : List ByteArray) (n i j : Nat) : Int := ltC (tx ss n (capU i)).data.toList j
/-- the sum over the first letters -/
def nxP (now : Nat → Int) (by_ : Nat → Nat → Int) : Nat → Nat → Int
  | 0, j => if j = 26 then now 26 else 0
  | i + 1, j => nxP now by_ i j + now i * by_ i j
def stepF (ss : List ByteArray) (n : Nat) (now : Nat → Int) (j : Nat) : Int := nxP now (byF ss n) 26 j
def okF (f : Nat → Int) : Bool := decide (∀ j : Fin 27, f j.val ≤ 1000000000000)
/-- the counts after so many times -/
def afN (ss : List ByteArray) (n : Nat) (st : ByteArray) : Nat → Option (Nat → Int)
  | 0 => some (ltC st.data.toList)
  | k + 1 => (afN ss n st k).bind fun f => if okF (stepF ss n f) = true then some (stepF ss n f) else none

theorem afN_none {ss : List ByteArray} {n : Nat} {st : ByteArray} {k : Nat} (h : afN ss n st k = none) : ∀ m, k ≤ m → afN ss n st m = none := by
  intro m hm
  obtain ⟨d, rfl⟩ : ∃ d, m = k + d := ⟨m - k, by omega⟩
  clear hm
  induction d with
  | zero => exact h
  | succ d ih =>
    show afN ss n st (k + d + 1) = none
    unfold afN
    rw [ih]; rfl
theorem afN_yes {ss : List ByteArray} {n : Nat} {st : ByteArray} {f : Nat → Int} {k : Nat} (h : afN ss n st k = some f) (ho : okF (stepF ss n f) = true) : afN ss n st (k + 1) = some (stepF ss n f) := by
  unfold afN; rw [h]; show (if okF (stepF ss n f) = true then _ else _) = _; rw [if_pos ho]
theorem afN_no {ss : List ByteArray} {n : Nat} {st : ByteArray} {f : Nat → Int} {k : Nat} (h : afN ss n st k = some f) (ho : okF (stepF ss n f) = false) : afN ss n st (k + 1) = none := by
  unfold afN; rw [h]; show (if okF (stepF ss n f) = true then _ else _) = _; rw [if_neg (by rw [ho]; exact Bool.false_ne_true)]
theorem okF_no {f : Nat → Int} {j : Nat} (h : j < 27) (g : 1000000000000 < f j) : okF f = false := decide_eq_false fun h2 => by have := h2 ⟨j, h⟩; simp at this; omega
theorem okF_yes {f : Nat → Int} (h : ∀ j, j < 27 → f j ≤ 1000000000000) : okF f = true := decide_eq_true fun j => h j.val j.isLt

/-- bounds -/
def Bd (f : Nat → Int) : Prop := ∀ j, j < 27 → 0 ≤ f j ∧ f j ≤ 1000000000000
theorem nxP_bd {now : Nat → Int} {by_ : Nat → Nat → Int} (h : Bd now) (hb : ∀ i j, 0 ≤ by_ i j ∧ by_ i j ≤ 32) : ∀ i, i ≤ 26 → ∀ j, 0 ≤ nxP now by_ i j ∧ nxP now by_ i j ≤ 1000000000000 + i * 32000000000000
  | 0, _, j => by
    unfold nxP
    have := h 26 (by omega)
    split <;> omega
  | i + 1, hi, j => by
    unfold nxP
    have h1 := nxP_bd h hb i (by omega) j
    have h2 := h i (by omega)
    have h3 := hb i j
    have h4 : 0 ≤ now i * by_ i j := Int.mul_nonneg h2.1 h3.1
    have h5 : now i * by_ i j ≤ 1000000000000 * 32 := Int.mul_le_mul h2.2 h3.2 h3.1 (by omega)
    push_cast
    omega

end Go.Proofs.Ytckhdbnoihieeaa
