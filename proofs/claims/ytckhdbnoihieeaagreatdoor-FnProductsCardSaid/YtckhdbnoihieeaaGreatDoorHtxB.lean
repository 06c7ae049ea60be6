/-
  What is proved here: the program's texts of lists of 32-bit numbers, and the law NumbersText, as walks. Conditions: the list is one that a machine can hold; the library's table holds what it lays.
-/
import Derived.Test.YtckhdbnoihieeaaGreatDoorHtx
namespace Go.Proofs.YtckhdbnoihieeaaGreatDoor
open Flt Go.RowKit

/-- a block of texts of its own -/
structure SRowF (w : World) (G n : Nat) (f : Nat → ByteArray) : Prop where
  size : G < w.heap.size
  cell : ∀ j, j < n → w.cell? ⟨G, j, none⟩ = some (.string (f j))
  free : ∀ j, w.frozen? ⟨G, j, none⟩ = false

theorem info_strF : (Tryz.prog.info? 9).map (fun i => (i.zero, i.size, i.bytes)) = some (some (.string ⟨#[]⟩), 1, 16) := by kernel_rfl

theorem sRowF_start (w : World) (n : Nat) : SRowF (w.alloc (.cells (madeCells #[.string ⟨#[]⟩] n) 9)) w.heap.size n (fun _ => ⟨#[]⟩) := by
  refine ⟨by simp, fun j hj => ?_, fun j => ?_⟩
  · have h : (madeCells #[.string ⟨#[]⟩] n)[j]? = some (.string ⟨#[]⟩) := by simp [madeCells, hj, Nat.mod_one]
    simp [World.cell?, World.alloc, -World.alloc_eq, h]
  · simp [World.frozen?, World.alloc, -World.alloc_eq]
theorem SRowF.below {w w' : World} {G n : Nat} {f : Nat → ByteArray} (h : SRowF w G n f) (hb : Below w.heap.size w w') : SRowF w' G n f :=
  ⟨Nat.lt_of_lt_of_le h.size hb.size, fun j hj => by rw [hb.cell h.size]; exact h.cell j hj, fun j => by rw [hb.frozen h.size]; exact h.free j⟩
theorem SRowF.step {w : World} {G n k : Nat} {f g : Nat → ByteArray} {x : ByteArray} (h : SRowF w G n f) (_ : k < n) (hg : g = fun j => if j = k then x else f j) : SRowF (w.setCell ⟨G, k, none⟩ (.string x)) G n g := by
  subst hg
  refine ⟨by have := h.size; simpa [World.setCell] using this, fun j hj => ?_, fun j => by rw [World.frozen?_setCell]; exact h.free j⟩
  by_cases e : j = k
  · subst e
    rw [World.cell?_setCell_same w _ _ (h.cell j hj), if_pos rfl]
  · rw [World.cell?_setCell_other w _ _ _ (by intro h; injection h with _ h2 _; omega), h.cell j hj, if_neg e]

/-- texts of a list of things -/
def txF (f : Nat → ByteArray) (k j : Nat) : ByteArray := if j < k then f j else ⟨#[]⟩
theorem txF_succ (f : Nat → ByteArray) (k : Nat) : txF f (k + 1) = fun j => if j = k then f k else txF f k j := by
  funext j
  unfold txF
  by_cases e : j = k
  · subst e; rw [if_pos (by omega), if_pos rfl]
  · rw [if_neg e]
    by_cases h : j < k
    · rw [if_pos h, if_pos (by omega)]
    · rw [if_neg h, if_neg (by omega)]

def hexT (zs : List Nat) (j : Nat) : ByteArray := ⟨(hexB (at0 zs j)).toArray⟩

theorem join_hex (zs : List Nat) : Lib.join ((zs.map fun z => (⟨(hexB z).toArray⟩ : ByteArray)).map (·.data.toList)) (⟨#[44]⟩ : ByteArray).data.toList = joinH zs := by
  unfold joinH
  rw [List.map_map]
  rfl

theorem numTxt2 (z : Nat) (hz : WF .f32 z) (w : World) (ht : Tz w) : Calls Tryz.prog 58 #[.float .f32 z] w fun e w' => e = .returned (.string ⟨(hexB z).toArray⟩) ∧ Below w.heap.size w w' := numTxt z hz w ht



/-- words of 32 bits, in a list that came in -/
structure ListW (w : World) (A : Option Addr) (len : Nat) (zs : List Nat) : Prop where
  list : ListF w A len zs
  all : AllW zs

theorem open_floats_w {H : Type} {enc : TypeId × Value → H} {P : Program} {w : World} {spare : Nat → Bool} {held : Bool} {t e : TypeId} {A : Option Addr} {len cap : Nat} {d : DataW H} {ps : List MemPlace} (ht : P.underlying t = some (.slice e)) (he : P.underlying e = some (.float .f32)) (hc : P.cellsOf e = 1)
    (h : DataW.Trod enc P w 0 spare held t (.slice A len cap) d ps) : ∃ zs, ListW w A len zs := by
  obtain ⟨zs, hl⟩ := open_floats ht he hc h
  refine ⟨zs, hl, fun z hz => ?_⟩
  obtain ⟨fuel, hf⟩ := h
  obtain ⟨j, hj, rfl⟩ := List.getElem_of_mem hz
  have hrow := hl.row (by omega)
  obtain ⟨b, off, rfl, hb, hcell⟩ := hrow
  rcases Go.Deep.open_slice1 ht hc hf with ⟨hcs, _⟩ | ⟨a, l, c, m, n, V, D, Pl, hcs, _, hl2, hm, hmm, _, hx⟩
  · simp [Value.cells] at hcs
  · simp [Value.cells] at hcs
    obtain ⟨rfl, rfl, rfl⟩ := hcs
    have hlen := hl.size
    obtain ⟨h1, h2⟩ := hx j (by rw [hmm]; split <;> omega)
    have hcj := hcell j hj
    rw [Go.WideShapes.add_plain] at h1
    rw [hcj] at h1
    injection h1 with h1
    rw [← h1] at h2
    have hat : at0 zs j = zs[j] := by simp [at0, List.getD, hj]
    rw [hat] at h2
    cases n with
    | zero => cases h2
    | succ n =>
      simp only [DataW.trod, he] at h2
      split at h2
      · rename_i hw
        exact wf32 hw.2
      · cases h2


end Go.Proofs.YtckhdbnoihieeaaGreatDoor
