/-
  What is proved here: sizes, copies, comparisons, marks and looks of sheets, as walks. Conditions: at most 1048576 heights.
-/
import Derived.Test.YthhimielelpcoaaOwnF
import Derived.ProofKit
import Derived.Lib.SmallJoins
import Derived.Deep.Fields
import Derived.ChangeSame
import Derived.Deep.RegionHeld3
namespace Go.Proofs.Ythhimielelpcoaa
open Flt Go.RowKit

theorem bcell {W w1 : World} (hb : Below W.heap.size W w1) : (∀ b o, b < W.heap.size → w1.cell? ⟨b, o, none⟩ = W.cell? ⟨b, o, none⟩) ∧ (∀ b o, b < W.heap.size → w1.frozen? ⟨b, o, none⟩ = W.frozen? ⟨b, o, none⟩) :=
  ⟨fun b o h => hb.cell (p := ⟨b, o, none⟩) h, fun b o h => hb.frozen (p := ⟨b, o, none⟩) h⟩
theorem RowF.carry {w w' : World} {A : Option Addr} {zs : List Nat} (h : RowF w w.heap.size A zs) (hb : Below w.heap.size w w') : RowF w' w'.heap.size A zs := (h.below hb).mono hb.size
theorem RowF.low {w : World} {B : Nat} {A : Option Addr} {zs : List Nat} (h : RowF w B A zs) {q : Addr} (hq : B ≤ q.block) (u : Value) : RowF (w.setCell q u) B A zs := by
  intro h0
  obtain ⟨b, off, hA, hlt, hc⟩ := h h0
  have e : (w.setCell q u).heap[b]? = w.heap[b]? := Below.heap_setCell _ _ _ _ (by omega)
  exact ⟨b, off, hA, hlt, fun j hj => by rw [World.cell?_of_block (w := w) e]; exact hc j hj⟩
theorem OwnF.setLow {w : World} {B : Nat} {A : Option Addr} {zs : List Nat} (h : OwnF w B A zs) {q : Addr} (hq : q.block < B) (u : Value) : OwnF (w.setCell q u) B A zs := by
  intro h0
  obtain ⟨b, off, hA, hle, hlt, hc, hf⟩ := h h0
  have e : (w.setCell q u).heap[b]? = w.heap[b]? := Below.heap_setCell _ _ _ _ (by omega)
  exact ⟨b, off, hA, hle, by simpa [World.setCell] using hlt, fun j hj => by rw [World.cell?_of_block (w := w) e]; exact hc j hj, fun j hj => by rw [World.frozen?_of_block (w := w) e]; exact hf j hj⟩

theorem RowF.other {w : World} {g off : Nat} {zs : List Nat} (h : RowF w w.heap.size (some ⟨g, off, none⟩) zs) {q : Addr} (hq : q.block ≠ g) (u : Value) : RowF (w.setCell q u) (w.setCell q u).heap.size (some ⟨g, off, none⟩) zs := by
  intro h0
  obtain ⟨b, off', hA, hlt, hc⟩ := h h0
  injection hA with hA
  injection hA with e1 e2 _
  subst e1 e2
  have e : (w.setCell q u).heap[g]? = w.heap[g]? := Below.heap_setCell _ _ _ _ (fun h => hq h.symm)
  exact ⟨g, off, rfl, by simpa [World.setCell] using hlt, fun j hj => by rw [World.cell?_of_block (w := w) e]; exact hc j hj⟩

/-- what is left behind so many -/
def szN (n left : Nat) : Int := if n ≤ left then (left : Int) - n else -1



theorem szN_lt {n left : Nat} (h : ¬ szN n left < 0) : n ≤ left := by
  unfold szN at h
  split at h
  · assumption
  · omega





end Go.Proofs.Ythhimielelpcoaa
