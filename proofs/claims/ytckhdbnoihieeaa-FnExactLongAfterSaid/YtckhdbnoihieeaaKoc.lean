/-
  What is proved here: the three grammars that are given, and their laws, as walks. Conditions: none.
-/
import Derived.Test.YtckhdbnoihieeaaGrm
namespace Go.Proofs.Ytckhdbnoihieeaa
open Go.RowKit

def GivenG (st : ByteArray) (n : Nat) (ss : List ByteArray) (w : World) (e : Ending) (w' : World) : Prop :=
  ∃ g, e = .returned (.agg #[.string st, .slice (some ⟨g, 0, none⟩) n n]) ∧ w.heap.size ≤ g ∧ g < w'.heap.size ∧ Hid (OwnU w' g (some ⟨g, 0, none⟩) ss) ∧ Hid (Below w.heap.size w w')

/-- two blocks that are made, the second one of texts -/
theorem givenG_two {w : World} {st : ByteArray} {n : Nat} {ss : List ByteArray} {t u : TypeId} {v : Array Value} (hv : ∀ j, j < ss.length → v[j]? = some (.string (atS ss j))) :
    GivenG st n ss w (.returned (.agg #[.string st, .slice (some ⟨w.heap.size + 1, 0, none⟩) n n])) ((w.alloc (.cells #[.string st, .slice (some ⟨w.heap.size + 1, 0, none⟩) n n] t)).alloc (.cells v u)) := by
  refine ⟨w.heap.size + 1, rfl, by omega, by simp, ?_, ((Below.refl _ _).alloc (Nat.le_refl _) _).alloc (by simp) _⟩
  intro _
  refine ⟨w.heap.size + 1, 0, rfl, Nat.le_refl _, by simp, fun j hj => ?_, fun j hj => ?_⟩
  · rw [World.cell?_alloc2_new, Nat.zero_add, hv j hj]
  · have h := World.frozen?_alloc_new (w.alloc (.cells #[.string st, .slice (some ⟨w.heap.size + 1, 0, none⟩) n n] t)) v u (0 + j)
    rw [show (w.alloc (.cells #[.string st, .slice (some ⟨w.heap.size + 1, 0, none⟩) n n] t)).heap.size = w.heap.size + 1 by simp] at h
    exact h

/-- a local variable that holds a grammar -/
structure VarG (w : World) (x : Nat) (st : ByteArray) (A : Option Addr) (n c : Nat) : Prop where
  lt : x < w.heap.size
  c0 : w.cell? ⟨x, 0, none⟩ = some (.string st)
  c1 : w.cell? ⟨x, 1, none⟩ = some (.slice A n c)

theorem varG_new (w : World) (st : ByteArray) (A : Option Addr) (n c : Nat) (t : TypeId) : VarG (w.alloc (.cells #[.string st, .slice A n c] t)) w.heap.size st A n c := by
  refine ⟨by simp, ?_, ?_⟩ <;> simp [World.cell?, World.alloc, -World.alloc_eq]
theorem VarG.below {w w' : World} {x : Nat} {st : ByteArray} {A : Option Addr} {n c : Nat} (h : VarG w x st A n c) (hb : Below w.heap.size w w') : VarG w' x st A n c :=
  ⟨Nat.lt_of_lt_of_le h.lt hb.size, by rw [hb.cell h.lt]; exact h.c0, by rw [hb.cell h.lt]; exact h.c1⟩
theorem VarG.butG {w w' : World} {x B g : Nat} {st : ByteArray} {A : Option Addr} {n c : Nat} (h : VarG w x st A n c) (hb : ButG B (some ⟨g, 0, none⟩) w w') (hx : x ≠ g) : VarG w' x st A n c := by
  have e : w'.heap[x]? = w.heap[x]? := hb.block x h.lt fun a ha => by injection ha with ha; subst ha; exact hx
  exact ⟨Nat.lt_of_lt_of_le h.lt hb.size, by rw [World.cell?_of_block (w := w) e]; exact h.c0, by rw [World.cell?_of_block (w := w) e]; exact h.c1⟩

def kochL : List ByteArray := [⟨#[70]⟩, ⟨#[70, 43, 70, 45, 45, 70, 43, 70]⟩]



def dragonL : List ByteArray := [⟨#[88]⟩, ⟨#[88, 43, 89, 70, 43]⟩, ⟨#[89]⟩, ⟨#[45, 70, 88, 45, 89]⟩]



def bushL : List ByteArray := [⟨#[70]⟩, ⟨#[70, 91, 43, 70, 93, 70, 91, 45, 70, 93, 70]⟩]



end Go.Proofs.Ytckhdbnoihieeaa
