/-
  What is proved here: how the model reads a list of complex numbers, as a walk. Conditions: the text has at most 1048576 bytes.
-/
import Derived.Test.YtckhdbnoihieeaaGreatDoorNrq
import Derived.Test.YtckhdbnoihieeaaGreatDoorOwnCb
namespace Go.Proofs.YtckhdbnoihieeaaGreatDoor
open Flt Go.RowKit
attribute [local go_sem] run_store_complex


/-- both halves of a text -/
def lo8 (s : ByteArray) : ByteArray := s.extract 0 8
def hi8 (s : ByteArray) : ByteArray := s.extract 8 s.size
theorem lo8_size {s : ByteArray} (h : s.size = 16) : (lo8 s).size = 8 := by unfold lo8; rw [ByteArray.size_extract]; omega
theorem hi8_size {s : ByteArray} (h : s.size = 16) : (hi8 s).size = 8 := by unfold hi8; rw [ByteArray.size_extract]; omega

/-- the complex number with a text -/
def rdCB (s : ByteArray) : Bool := decide (s.size = 16) && (rdFB (lo8 s) && rdFB (hi8 s))
def rdCN (s : ByteArray) : Nat × Nat := if rdCB s = true then (rdFN (lo8 s), rdFN (hi8 s)) else (0, 0)
theorem rdC_long {s : ByteArray} (h : ¬ s.size = 16) : rdCB s = false := by unfold rdCB; rw [decide_eq_false h]; rfl
theorem rdC_of {s : ByteArray} (h : s.size = 16) : rdCB s = (rdFB (lo8 s) && rdFB (hi8 s)) := by unfold rdCB; rw [decide_eq_true h]; rfl

def rdNsC (P : List ByteArray) : List (Nat × Nat) := P.map rdCN
def rdOkC (P : List ByteArray) : Bool := P.all rdCB
def clB (s : ByteArray) : Bool := if s.data.toList = noneT then true else decide ((cutB s).length ≤ 256) && rdOkC (cutB s)
def clL (s : ByteArray) : List (Nat × Nat) := if s.data.toList = noneT then [] else if clB s = true then rdNsC (cutB s) else []

def CLPost (L : List (Nat × Nat)) (b : Bool) (w : World) (e : Ending) (w' : World) : Prop :=
  ∃ A c, e = .returned (.tuple #[.slice A L.length c, .bool b]) ∧ Hid (OwnC w' w.heap.size A L) ∧ Hid (Below w.heap.size w w')
theorem clpost_no {L : List (Nat × Nat)} {b : Bool} {w w' : World} {A : Option Addr} {c : Nat} (hL : L = []) (hb : Below w.heap.size w w') : CLPost L b w (.returned (.tuple #[.slice A 0 c, .bool b])) w' := by
  subst hL
  exact ⟨A, c, rfl, fun h => absurd h (Nat.lt_irrefl 0), hb⟩

def rdToC (P : List ByteArray) (k : Nat) : Prop := ∀ j, j < k → rdCB (P.getD j ⟨#[]⟩) = true
theorem rdToC_all {P : List ByteArray} (h : rdToC P P.length) : rdOkC P = true := by
  unfold rdOkC
  rw [List.all_eq_true]
  intro x hx
  obtain ⟨j, hj, rfl⟩ := List.getElem_of_mem hx
  have := h j hj
  rwa [show P.getD j ⟨#[]⟩ = P[j] by simp [List.getD, hj]] at this
theorem rdOkC_not {P : List ByteArray} {k : Nat} (h : k < P.length) (hm : rdCB (P.getD k ⟨#[]⟩) = false) : rdOkC P = false := by
  unfold rdOkC
  rw [List.all_eq_false]
  refine ⟨P[k], List.getElem_mem h, ?_⟩
  rw [show P.getD k ⟨#[]⟩ = P[k] by simp [List.getD, h]] at hm
  rw [hm]; simp
theorem rdNsC_length (P : List ByteArray) : (rdNsC P).length = P.length := by simp [rdNsC]
theorem rdNsC_at {P : List ByteArray} {j : Nat} (h : j < P.length) : atC (rdNsC P) j = rdCN (P.getD j ⟨#[]⟩) := by
  unfold atC rdNsC
  simp [List.getD, h]
theorem rdNsC_snoc {P : List ByteArray} {k : Nat} (h : k < P.length) : (rdNsC P).take (k + 1) = (rdNsC P).take k ++ [rdCN (P.getD k ⟨#[]⟩)] := by
  rw [List.take_succ_eq_append_getElem (by rw [rdNsC_length]; exact h)]
  congr 2
  rw [← rdNsC_at h]; simp [atC, List.getD, rdNsC_length, h]
theorem clL_none {s : ByteArray} (h : s.data.toList = noneT) : clL s = [] ∧ clB s = true := by unfold clL clB; rw [if_pos h, if_pos h]; exact ⟨rfl, rfl⟩
theorem clL_no {s : ByteArray} (h : ¬ s.data.toList = noneT) (h2 : (decide ((cutB s).length ≤ 256) && rdOkC (cutB s)) = false) : clL s = [] ∧ clB s = false := by
  have hb : clB s = false := by unfold clB; rw [if_neg h, h2]
  unfold clL
  rw [if_neg h, hb]
  exact ⟨rfl, rfl⟩
theorem clL_yes {s : ByteArray} (h : ¬ s.data.toList = noneT) (h1 : (cutB s).length ≤ 256) (h2 : rdOkC (cutB s) = true) : clL s = rdNsC (cutB s) ∧ clB s = true := by
  have hb : clB s = true := by unfold clB; rw [if_neg h, h2, decide_eq_true h1]; rfl
  unfold clL
  rw [if_neg h, hb]
  exact ⟨rfl, rfl⟩

/-- complex numbers that the call owns -/
def OwnLC (w : World) (G : Nat) (L : List (Nat × Nat)) (g c : Nat) : Prop := w.ownsRow G 24 1 (.slice (some ⟨g, 0, none⟩) L.length c) L.length (L.map cV)
theorem OwnLC.of {w : World} {G n : Nat} {v : Value} {L : List (Nat × Nat)} (h : w.ownsRow G 24 1 v n (L.map cV)) (hn : n = L.length) (hv : v ≠ .slice none 0 0) : ∃ g c, v = .slice (some ⟨g, 0, none⟩) L.length c ∧ OwnLC w G L g c := by
  subst hn
  rcases h.2 with ⟨h1, _⟩ | ⟨g, cap, cur, rfl, _⟩
  · exact absurd h1 hv
  · exact ⟨g, cap, rfl, h⟩
theorem OwnLC.own {w : World} {G g c : Nat} {L : List (Nat × Nat)} (h : OwnLC w G L g c) : OwnC w G (some ⟨g, 0, none⟩) L := by
  intro h0
  obtain ⟨h1, h2⟩ := World.ownsRow.lt h g rfl
  refine ⟨g, 0, rfl, h1, h2, fun j hj => ?_, fun j hj => World.ownsRow.frozenAt h _⟩
  rw [Nat.zero_add, World.ownsRow.cellAt h j (by omega), List.getElem?_map]
  simp [atC, List.getD, hj]
theorem own_apartC {w : World} {G H g h c d : Nat} {L : List (Nat × Nat)} {P : List ByteArray} (a : OwnLC w G L g c) (b : OwnS w H P h d) : g ≠ h := by
  intro e
  subst e
  rcases a.2 with ⟨h1, _⟩ | ⟨g1, _, _, h1, _, h2, _⟩
  · cases h1
  · rcases b.2 with ⟨h3, _⟩ | ⟨g2, _, _, h3, _, h4, _⟩
    · cases h3
    · injection h1 with h1 _ _
      injection h1 with h1
      injection h1 with h1 _ _
      injection h3 with h3 _ _
      injection h3 with h3
      injection h3 with h3 _ _
      subst h1
      subst h3
      rw [h2] at h4
      injection h4 with h4
      injection h4 with _ h5 _
      revert h5
      decide
theorem info_c64 : (Tryz.prog.info? 24).map (fun i => (i.zero, i.size, i.bytes)) = some (some (.complex .f32 0 0), 1, 8) := by kernel_rfl


end Go.Proofs.YtckhdbnoihieeaaGreatDoor
