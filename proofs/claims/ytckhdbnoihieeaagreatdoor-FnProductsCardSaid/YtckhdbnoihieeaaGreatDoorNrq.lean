/-
  What is proved here: the program's ReadNumbers, and the law, as walks. Conditions: the text is one that a machine can hold; the library's variable holds a length.
-/
import Derived.Test.YtckhdbnoihieeaaGreatDoorNrl
namespace Go.Proofs.YtckhdbnoihieeaaGreatDoor
open Flt Go.RowKit
attribute [local go_sem] run_store_float

/-- the length that the library measured -/
def Most (w : World) : Prop := ∃ m, w.cell? ⟨1, 0, none⟩ = some (.int .i64 m)
theorem Most.below {w w' : World} (h : Most w) (hb : Below w.heap.size w w') : Most w' := by
  obtain ⟨m, hm⟩ := h
  refine ⟨m, ?_⟩
  have hlt : 1 < w.heap.size := by
    rcases Nat.lt_or_ge 1 w.heap.size with h | h
    · exact h
    · exfalso; simp [World.cell?, Array.getElem?_eq_none h] at hm
  rw [hb.cell hlt]; exact hm

/-- what the library cuts -/
def partsF (s : ByteArray) : List ByteArray := Lib.splitB ⟨#[44]⟩ 0 (min (256 + 1) (s.size + 1) - 1) s

/-- a row of texts, at a block -/
def TextsF (w : World) (B g : Nat) (P : List ByteArray) : Prop := B ≤ g ∧ g < w.heap.size ∧ ∀ j x, P[j]? = some x → w.cell? ⟨g, j, none⟩ = some (.string x)
theorem TextsF.below {w w' : World} {B g : Nat} {P : List ByteArray} (h : TextsF w B g P) (hb : Below w.heap.size w w') : TextsF w' B g P :=
  ⟨h.1, Nat.lt_of_lt_of_le h.2.1 hb.size, fun j x hx => by rw [hb.cell h.2.1]; exact h.2.2 j x hx⟩

theorem splitCallF (s : ByteArray) (hs : s.size ≤ 1048576) (w : World) (hm : Most w) :
    Calls Tryz.prog 59 #[.string s, .string ⟨#[44]⟩, .int .i64 257] w fun e w' => ∃ g c, e = .returned (.slice (some ⟨g, 0, none⟩) (partsF s).length c) ∧ Hid (TextsF w' w.heap.size g (partsF s)) ∧ Hid (Below w.heap.size w w') := by
  obtain ⟨m, hm⟩ := hm
  refine (Go.Proofs.Tryz.strings_SplitN s ⟨#[44]⟩ 257 m w (by omega) hm (by decide) (by decide) (by decide)).mono ?_
  rintro e w' ⟨rfl, rfl⟩
  refine ⟨w.heap.size, _, rfl, ⟨Nat.le_refl _, by simp, fun j x hx => ?_⟩, (Below.refl _ _).alloc (Nat.le_refl _) _⟩
  have hj : j < (partsF s).length := (List.getElem?_eq_some_iff.1 hx).1
  have h : (Lib.cellsOf (partsF s) (min 257 (s.size + 1)))[j]? = some (.string x) := by
    unfold Lib.cellsOf
    rw [List.getElem?_toArray, List.getElem?_append_left (by simpa using hj), List.getElem?_map, hx]; rfl
  show (w.alloc (.cells (Lib.cellsOf (partsF s) (min 257 (s.size + 1))) 9)).cell? _ = _
  simp [World.cell?, World.alloc, -World.alloc_eq, h]

theorem partsF_many {s : ByteArray} (h : 256 < (partsF s).length) : ¬ (cutB s).length ≤ 256 := by
  intro h2
  have := (split_most s 256).1 h2
  unfold partsF at h
  rw [this] at h
  omega
theorem partsF_few {s : ByteArray} (h : (partsF s).length ≤ 256) : partsF s = cutB s ∧ (cutB s).length ≤ 256 := by
  rcases Nat.lt_or_ge 256 (cutB s).length with h2 | h2
  · have := (split_most s 256).2 h2
    unfold partsF at h
    rw [this] at h
    omega
  · exact ⟨(split_most s 256).1 h2, h2⟩

/-- a block of 32-bit numbers of its own -/
structure FRow (w : World) (G n : Nat) (f : Nat → Nat) : Prop where
  size : G < w.heap.size
  cell : ∀ j, j < n → w.cell? ⟨G, j, none⟩ = some (.float .f32 (f j))
  free : ∀ j, w.frozen? ⟨G, j, none⟩ = false

theorem fRow_start (w : World) (n : Nat) : FRow (w.alloc (.cells (madeCells #[.float .f32 0] n) 28)) w.heap.size n (fun _ => 0) := by
  refine ⟨by simp, fun j hj => ?_, fun j => ?_⟩
  · have h : (madeCells #[.float .f32 0] n)[j]? = some (.float .f32 0) := by simp [madeCells, hj, Nat.mod_one]
    simp [World.cell?, World.alloc, -World.alloc_eq, h]
  · simp [World.frozen?, World.alloc, -World.alloc_eq]
theorem FRow.below {w w' : World} {G n : Nat} {f : Nat → Nat} (h : FRow w G n f) (hb : Below w.heap.size w w') : FRow w' G n f :=
  ⟨Nat.lt_of_lt_of_le h.size hb.size, fun j hj => by rw [hb.cell h.size]; exact h.cell j hj, fun j => by rw [hb.frozen h.size]; exact h.free j⟩
theorem FRow.step {w : World} {G n k : Nat} {f g : Nat → Nat} {x : Nat} (h : FRow w G n f) (_ : k < n) (hg : g = fun j => if j = k then x else f j) : FRow (w.setCell ⟨G, k, none⟩ (.float .f32 x)) G n g := by
  subst hg
  refine ⟨by have := h.size; simpa [World.setCell] using this, fun j hj => ?_, fun j => by rw [World.frozen?_setCell]; exact h.free j⟩
  by_cases e : j = k
  · subst e
    rw [World.cell?_setCell_same w _ _ (h.cell j hj), if_pos rfl]
  · rw [World.cell?_setCell_other w _ _ _ (by intro h; injection h with _ h2 _; omega), h.cell j hj, if_neg e]

/-- the first of them, and then nothing -/
def inToF (f : Nat → Nat) (k j : Nat) : Nat := if j < k then f j else 0
theorem inToF_succ (f : Nat → Nat) (k : Nat) : inToF f (k + 1) = fun j => if j = k then f k else inToF f k j := by
  funext j
  unfold inToF
  by_cases e : j = k
  · subst e; rw [if_pos (by omega), if_pos rfl]
  · rw [if_neg e]
    by_cases h : j < k
    · rw [if_pos h, if_pos (by omega)]
    · rw [if_neg h, if_neg (by omega)]

theorem implNum2 (s : ByteArray) (w : World) : Calls Tryz.prog 60 #[.string s] w fun e w' => e = .returned (.tuple #[.float .f32 (rdFN s), .bool (rdFB s)]) ∧ Below w.heap.size w w' := implNum s w



theorem nlL_short (s : ByteArray) : (nlL s).length ≤ 1048576 := by
  unfold nlL
  split
  · simp
  · rename_i h
    split
    · rename_i hb
      unfold nlB at hb
      rw [if_neg h, Bool.and_eq_true] at hb
      have := of_decide_eq_true hb.1
      rw [rdNsF_length]; omega
    · simp





end Go.Proofs.YtckhdbnoihieeaaGreatDoor
