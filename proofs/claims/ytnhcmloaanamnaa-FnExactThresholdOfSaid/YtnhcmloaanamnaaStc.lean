/-
  What is proved here: a row whose block alone is written; two of its cells swapped. Conditions: none but those that each theorem names.
-/
import Derived.Test.YtnhcmloaanamnaaStb
namespace Go.Proofs.Ytnhcmloaanamnaa
open Go.RowKit
set_option linter.unusedVariables false

theorem run_store_fS (P : Program) (w : World) (a : Addr) (m : Mode) (k : FloatKind) (b : Nat) : (store a (.float k b) m).run P w = stored P w a (.float k b) m := run_store P w a _ m rfl
/-- nothing but one block has changed, and nothing was made -/
structure sBut (g : Nat) (w w' : World) : Prop where
  os : w'.os = w.os
  tape : w'.tape = w.tape
  output : w'.output = w.output
  size : w'.heap.size = w.heap.size
  block : ∀ k, k ≠ g → w'.heap[k]? = w.heap[k]?
theorem sBut.refl (g : Nat) (w : World) : sBut g w w := ⟨rfl, rfl, rfl, rfl, fun _ _ => rfl⟩
theorem sBut.trans {g : Nat} {a b c : World} (h : sBut g a b) (k : sBut g b c) : sBut g a c := ⟨k.os.trans h.os, k.tape.trans h.tape, k.output.trans h.output, k.size.trans h.size, fun j hj => (k.block j hj).trans (h.block j hj)⟩
theorem sBut.dn {g n : Nat} {a b : World} (h : sBut g a b) : sBut g a (b.drewN n) := ⟨h.os, h.tape, h.output, h.size, h.block⟩
theorem sBut.eqh {g : Nat} {a b c : World} (h : sBut g a b) (e : c.heap = b.heap) (o : c.os = b.os) (t : c.tape = b.tape) (u : c.output = b.output) : sBut g a c :=
  ⟨o.trans h.os, t.trans h.tape, u.trans h.output, by rw [e]; exact h.size, fun j hj => by rw [e]; exact h.block j hj⟩
theorem sBut.dr {g : Nat} {a b : World} (h : sBut g a b) : sBut g a b.drew := ⟨h.os, h.tape, h.output, h.size, h.block⟩
theorem sBut.set {g k : Nat} {a b : World} (h : sBut g a b) (u : Value) : sBut g a (b.setCell ⟨g, k, none⟩ u) := ⟨h.os, h.tape, h.output, by simpa [World.setCell] using h.size, fun j hj => by
  rw [Below.heap_setCell _ _ _ _ (by exact hj)]; exact h.block j hj⟩
/-- a row of n values at a block's head -/
structure sRw (w : World) (g n : Nat) (V : Nat → Value) : Prop where
  lt : g < w.heap.size
  cell : ∀ j, j < n → w.cell? ⟨g, j, none⟩ = some (V j)
  free : ∀ j, j < n → w.frozen? ⟨g, j, none⟩ = false
theorem sRw.dn {w : World} {g n k : Nat} {V : Nat → Value} (r : sRw w g n V) : sRw (w.drewN k) g n V := ⟨r.lt, r.cell, r.free⟩
theorem sRw.eqh {w w' : World} {g n : Nat} {V : Nat → Value} (r : sRw w g n V) (e : w'.heap = w.heap) : sRw w' g n V :=
  ⟨by rw [e]; exact r.lt, fun j hj => by rw [World.cell?_of_block (w := w) (congrArg (·[g]?) e)]; exact r.cell j hj, fun j hj => by rw [World.frozen?_of_block (w := w) (congrArg (·[g]?) e)]; exact r.free j hj⟩
theorem sRw.dr {w : World} {g n : Nat} {V : Nat → Value} (r : sRw w g n V) : sRw w.drew g n V := ⟨r.lt, r.cell, r.free⟩
theorem sRw.but {w w' : World} {g h n : Nat} {V : Nat → Value} (r : sRw w g n V) (hb : sBut h w w') (hd : g ≠ h) : sRw w' g n V := by
  have e := hb.block g hd
  exact ⟨by rw [hb.size]; exact r.lt, fun j hj => by rw [World.cell?_of_block (w := w) e]; exact r.cell j hj, fun j hj => by rw [World.frozen?_of_block (w := w) e]; exact r.free j hj⟩
theorem sRw.ext {w : World} {g n : Nat} {V U : Nat → Value} (r : sRw w g n V) (h : ∀ j, j < n → V j = U j) : sRw w g n U := ⟨r.lt, fun j hj => by rw [← h j hj]; exact r.cell j hj, r.free⟩
theorem sRw.swap {T : Nat → Value} {w : World} {g n p q : Nat} {f : Nat → Nat} (r : sRw w g n (fun j => T (f j))) (hp : p < n) (hq : q < n) (hn : p ≠ q) :
    sRw ((w.setCell ⟨g, p, none⟩ (T (f q))).setCell ⟨g, q, none⟩ (T (f p))) g n (fun j => T (sSw f p q j)) := by
  refine ⟨by have := r.lt; simpa [World.setCell] using this, fun j hj => ?_, fun j hj => ?_⟩
  · have cp := r.cell p hp
    have cq := r.cell q hq
    have n1 : (⟨g, p, none⟩ : Addr) ≠ ⟨g, q, none⟩ := by intro h; injection h with _ h2 _; exact hn h2
    unfold sSw
    by_cases e1 : j = q
    · subst e1
      rw [World.cell?_setCell_same _ _ _ (by rw [World.cell?_setCell_other _ _ _ _ n1]; exact cq), if_neg (fun h => hn h.symm), if_pos rfl]
    · rw [World.cell?_setCell_other _ _ _ _ (by intro h; injection h with _ h2 _; omega)]
      by_cases e2 : j = p
      · subst e2
        rw [World.cell?_setCell_same _ _ _ cp, if_pos rfl]
      · rw [World.cell?_setCell_other _ _ _ _ (by intro h; injection h with _ h2 _; omega), if_neg e2, if_neg e1]
        exact r.cell j hj
  · rw [World.frozen?_setCell, World.frozen?_setCell]; exact r.free j hj
theorem sSam.bd {f g : Nat → Nat} {a b n : Nat} (h : sSam f g a b) (hb : b ≤ n) (hf : ∀ j, j < n → f j < n) : ∀ j, j < n → g j < n := fun j hj => by
  by_cases e : a ≤ j ∧ j < b
  · obtain ⟨i, i1, i2, e2⟩ := h.fro j e.1 e.2
    rw [e2]; exact hf i (by omega)
  · rw [h.out j e]; exact hf j hj
end Go.Proofs.Ytnhcmloaanamnaa
