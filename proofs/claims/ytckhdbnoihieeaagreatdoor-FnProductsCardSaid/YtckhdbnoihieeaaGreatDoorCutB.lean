/-
  What is proved here: the model's cutting of a text at commas, as a walk. Conditions: the text has at most 1048576 bytes.
-/
import Derived.Test.YtckhdbnoihieeaaGreatDoorCut
namespace Go.Proofs.YtckhdbnoihieeaaGreatDoor
open Go.RowKit

theorem size_list (s : ByteArray) : s.data.toList.length = s.size := by simp

/-- how far a text has been cut -/
def CutSt (s : ByteArray) (P : List ByteArray) (f k : Nat) : Prop :=
  (k ≤ s.size ∧ f ≤ k ∧ cutF s.data.toList = P.map (·.data.toList) ++ cutF (s.data.toList.drop f) ∧ plain ((s.data.toList.drop f).take (k - f))) ∨
  (k = s.size + 1 ∧ f = k ∧ cutF s.data.toList = P.map (·.data.toList))

theorem drop_take (l : List UInt8) (f k : Nat) (h : f ≤ k) : l.drop f = (l.drop f).take (k - f) ++ l.drop k := by
  have := (List.take_append_drop (k - f) (l.drop f)).symm
  rwa [List.drop_drop, show f + (k - f) = k by omega] at this
theorem drop_at (s : ByteArray) (k : Nat) (h : k < s.size) : s.data.toList.drop k = (s[k]'h) :: s.data.toList.drop (k + 1) := by
  rw [List.drop_eq_getElem_cons (by rw [size_list]; exact h)]; rfl

theorem CutSt.other {s : ByteArray} {P : List ByteArray} {f k : Nat} (h : CutSt s P f k) (hk : k < s.size) (hc : ¬ (s[k]'hk).toNat = 44) : CutSt s P f (k + 1) := by
  rcases h with ⟨h1, h2, h3, h4⟩ | ⟨h1, _⟩
  · left
    refine ⟨hk, by omega, h3, ?_⟩
    have e : (s.data.toList.drop f).take (k + 1 - f) = (s.data.toList.drop f).take (k - f) ++ [s[k]'hk] := by
      have hl : k - f < (s.data.toList.drop f).length := by rw [List.length_drop, size_list]; omega
      rw [show k + 1 - f = (k - f) + 1 by omega, List.take_succ_eq_append_getElem hl]
      congr 2
      rw [List.getElem_drop]
      show s.data.toList[f + (k - f)]'_ = s.data.toList[k]'_
      congr 1; omega
    rw [e]
    intro x hx
    rcases List.mem_append.1 hx with hx | hx
    · exact h4 x hx
    · rw [List.mem_singleton.1 hx]
      intro e; exact hc (by rw [e]; rfl)
  · omega
theorem CutSt.hit {s : ByteArray} {P : List ByteArray} {f k : Nat} (h : CutSt s P f k) (hk : k < s.size) (hc : (s[k]'hk).toNat = 44) : CutSt s (P ++ [s.extract f k]) (k + 1) (k + 1) := by
  rcases h with ⟨h1, h2, h3, h4⟩ | ⟨h1, _⟩
  · left
    refine ⟨hk, Nat.le_refl _, ?_, by rw [Nat.sub_self, List.take_zero]; intro x hx; simp at hx⟩
    have e44 : s[k]'hk = 44 := UInt8.toNat_inj.1 (by rw [hc]; rfl)
    rw [h3, drop_take _ f k h2, drop_at s k hk, e44, cutF_hit h4, List.map_append, List.map_cons, List.map_nil, Lib.extract_data]
    simp
  · omega
theorem CutSt.last {s : ByteArray} {P : List ByteArray} {f : Nat} (h : CutSt s P f s.size) : CutSt s (P ++ [s.extract f s.size]) (s.size + 1) (s.size + 1) := by
  rcases h with ⟨h1, h2, h3, h4⟩ | ⟨h1, _⟩
  · right
    refine ⟨rfl, rfl, ?_⟩
    have e : (s.data.toList.drop f).take (s.size - f) = s.data.toList.drop f := List.take_of_length_le (by rw [List.length_drop, size_list]; exact Nat.le_refl _)
    rw [e] at h4
    rw [h3, cutF_end h4, List.map_append, List.map_cons, List.map_nil, Lib.extract_data, e]
  · omega
theorem CutSt.room {s : ByteArray} {P : List ByteArray} {f k : Nat} (h : CutSt s P f k) : P.length ≤ s.size + 1 := by
  have hl := cutF_len s.data.toList
  rw [size_list] at hl
  rcases h with ⟨_, _, h3, _⟩ | ⟨_, _, h3⟩
  · rw [h3, List.length_append, List.length_map] at hl; omega
  · rw [h3, List.length_map] at hl; exact hl
theorem CutSt.done {s : ByteArray} {P : List ByteArray} {f k : Nat} (h : CutSt s P f k) (hk : s.size < k) : P = cutB s := by
  rcases h with ⟨h1, _⟩ | ⟨_, _, h3⟩
  · omega
  · unfold cutB; rw [h3, list_back]

/-- texts that the call owns -/
def OwnS (w : World) (G : Nat) (P : List ByteArray) (g c : Nat) : Prop := w.ownsRow G 9 1 (.slice (some ⟨g, 0, none⟩) P.length c) P.length (P.map Value.string)

theorem OwnS.of {w : World} {G n : Nat} {v : Value} {P : List ByteArray} (h : w.ownsRow G 9 1 v n (P.map Value.string)) (hn : n = P.length) (hv : v ≠ .slice none 0 0) : ∃ g c, v = .slice (some ⟨g, 0, none⟩) P.length c ∧ OwnS w G P g c := by
  subst hn
  rcases h.2 with ⟨h1, _⟩ | ⟨g, cap, cur, rfl, _⟩
  · exact absurd h1 hv
  · exact ⟨g, cap, rfl, h⟩
theorem OwnS.cell {w : World} {G g c : Nat} {P : List ByteArray} (h : OwnS w G P g c) {j : Nat} {x : ByteArray} (hx : P[j]? = some x) : w.cell? ⟨g, j, none⟩ = some (.string x) := by
  have hj : j < P.length := (List.getElem?_eq_some_iff.1 hx).1
  rw [World.ownsRow.cellAt h j (by omega), List.getElem?_map, hx]; rfl

theorem info_str2 : (Tryz.prog.info? 9).map (fun i => (i.zero, i.size, i.bytes)) = some (some (.string ⟨#[]⟩), 1, 16) := by kernel_rfl


end Go.Proofs.YtckhdbnoihieeaaGreatDoor
