/-
  What is proved here: how the model reads a list of numbers, as a walk. Conditions: the text has at most 1048576 bytes.
-/
import Derived.Test.YtckhdbnoihieeaaGreatDoorCutB
import Derived.Test.YtckhdbnoihieeaaGreatDoorShelfD
import Derived.Test.YtckhdbnoihieeaaGreatDoorNrd
import Derived.Test.YtckhdbnoihieeaaGreatDoorOwnF
namespace Go.Proofs.YtckhdbnoihieeaaGreatDoor
open Flt Go.RowKit

theorem getD_some {P : List ByteArray} {k : Nat} (h : k < P.length) : P[k]? = some (P.getD k ⟨#[]⟩) := by simp [List.getD, h]
theorem none_eq {s : ByteArray} (h : s.data.toList = noneT) : (s.toList == [110, 111, 110, 101]) = true := by rw [Go.ByteArray.toList_eq, h]; rfl
theorem none_ne {s : ByteArray} (h : ¬ s.data.toList = noneT) : (s.toList == [110, 111, 110, 101]) = false := by rw [beq_eq_false_iff_ne, Go.ByteArray.toList_eq]; exact h

theorem own_below {w w' : World} {G n size : Nat} {e : TypeId} {v : Value} {xs : List Value} (h : w.ownsRow G e size v n xs) (hb : Below w.heap.size w w') : w'.ownsRow G e size v n xs := by
  refine ⟨h.1, ?_⟩
  rcases h.2 with h1 | ⟨g, cap, cur, rfl, h2, h3, h4⟩
  · exact .inl h1
  · refine .inr ⟨g, cap, cur, rfl, h2, ?_, h4⟩
    have hlt : g < w.heap.size := by
      rcases Nat.lt_or_ge g w.heap.size with h | h
      · exact h
      · rw [Array.getElem?_eq_none h] at h3; cases h3
    rw [hb.block g hlt]; exact h3

def rdNsF (P : List ByteArray) : List Nat := P.map rdFN
def rdOkF (P : List ByteArray) : Bool := P.all rdFB
def nlB (s : ByteArray) : Bool := if s.data.toList = noneT then true else decide ((cutB s).length ≤ 256) && rdOkF (cutB s)
def nlL (s : ByteArray) : List Nat := if s.data.toList = noneT then [] else if nlB s = true then rdNsF (cutB s) else []

/-- what both give: a list and whether there is one -/
def NLPost (L : List Nat) (b : Bool) (w : World) (e : Ending) (w' : World) : Prop :=
  ∃ A c, e = .returned (.tuple #[.slice A L.length c, .bool b]) ∧ Hid (OwnF w' w.heap.size A L) ∧ Hid (Below w.heap.size w w')

theorem nlpost_no {L : List Nat} {b : Bool} {w w' : World} {A : Option Addr} {c : Nat} (hL : L = []) (hb : Below w.heap.size w w') : NLPost L b w (.returned (.tuple #[.slice A 0 c, .bool b])) w' := by
  subst hL
  exact ⟨A, c, rfl, fun h => absurd h (Nat.lt_irrefl 0), hb⟩

/-- all have been read, before a place -/
def rdToF (P : List ByteArray) (k : Nat) : Prop := ∀ j, j < k → rdFB (P.getD j ⟨#[]⟩) = true
theorem rdToF_all {P : List ByteArray} (h : rdToF P P.length) : rdOkF P = true := by
  unfold rdOkF
  rw [List.all_eq_true]
  intro x hx
  obtain ⟨j, hj, rfl⟩ := List.getElem_of_mem hx
  have := h j hj
  rwa [show P.getD j ⟨#[]⟩ = P[j] by simp [List.getD, hj]] at this
theorem rdOkF_not {P : List ByteArray} {k : Nat} (h : k < P.length) (hm : rdFB (P.getD k ⟨#[]⟩) = false) : rdOkF P = false := by
  unfold rdOkF
  rw [List.all_eq_false]
  refine ⟨P[k], List.getElem_mem h, ?_⟩
  rw [show P.getD k ⟨#[]⟩ = P[k] by simp [List.getD, h]] at hm
  rw [hm]; simp
theorem rdNsF_length (P : List ByteArray) : (rdNsF P).length = P.length := by simp [rdNsF]
theorem rdNsF_at {P : List ByteArray} {j : Nat} (h : j < P.length) : at0 (rdNsF P) j = rdFN (P.getD j ⟨#[]⟩) := by
  unfold at0 rdNsF
  simp [List.getD, h]
theorem rdNsF_snoc {P : List ByteArray} {k : Nat} (h : k < P.length) : (rdNsF P).take (k + 1) = (rdNsF P).take k ++ [rdFN (P.getD k ⟨#[]⟩)] := by
  rw [List.take_succ_eq_append_getElem (by rw [rdNsF_length]; exact h)]
  congr 2
  rw [← rdNsF_at h]; simp [at0, List.getD, rdNsF_length, h]

theorem nlL_none {s : ByteArray} (h : s.data.toList = noneT) : nlL s = [] ∧ nlB s = true := by unfold nlL nlB; rw [if_pos h, if_pos h]; exact ⟨rfl, rfl⟩
theorem nlL_no {s : ByteArray} (h : ¬ s.data.toList = noneT) (h2 : (decide ((cutB s).length ≤ 256) && rdOkF (cutB s)) = false) : nlL s = [] ∧ nlB s = false := by
  have hb : nlB s = false := by unfold nlB; rw [if_neg h, h2]
  unfold nlL
  rw [if_neg h, hb]
  exact ⟨rfl, rfl⟩
theorem nlL_yes {s : ByteArray} (h : ¬ s.data.toList = noneT) (h1 : (cutB s).length ≤ 256) (h2 : rdOkF (cutB s) = true) : nlL s = rdNsF (cutB s) ∧ nlB s = true := by
  have hb : nlB s = true := by unfold nlB; rw [if_neg h, h2, decide_eq_true h1]; rfl
  unfold nlL
  rw [if_neg h, hb]
  exact ⟨rfl, rfl⟩

/-- 32-bit numbers that the call owns -/
def OwnLF (w : World) (G : Nat) (L : List Nat) (g c : Nat) : Prop := w.ownsRow G 28 1 (.slice (some ⟨g, 0, none⟩) L.length c) L.length (L.map (Value.float .f32))
theorem OwnLF.of {w : World} {G n : Nat} {v : Value} {L : List Nat} (h : w.ownsRow G 28 1 v n (L.map (Value.float .f32))) (hn : n = L.length) (hv : v ≠ .slice none 0 0) : ∃ g c, v = .slice (some ⟨g, 0, none⟩) L.length c ∧ OwnLF w G L g c := by
  subst hn
  rcases h.2 with ⟨h1, _⟩ | ⟨g, cap, cur, rfl, _⟩
  · exact absurd h1 hv
  · exact ⟨g, cap, rfl, h⟩
theorem OwnLF.own {w : World} {G g c : Nat} {L : List Nat} (h : OwnLF w G L g c) : OwnF w G (some ⟨g, 0, none⟩) L := by
  intro h0
  obtain ⟨h1, h2⟩ := World.ownsRow.lt h g rfl
  refine ⟨g, 0, rfl, h1, h2, fun j hj => ?_, fun j hj => World.ownsRow.frozenAt h _⟩
  rw [Nat.zero_add, World.ownsRow.cellAt h j (by omega), List.getElem?_map]
  simp [at0, List.getD, hj]

theorem own_apartF {w : World} {G H g h c d : Nat} {L : List Nat} {P : List ByteArray} (a : OwnLF w G L g c) (b : OwnS w H P h d) : g ≠ h := by
  intro e
  subst e
  rcases a.2 with ⟨h1, _⟩ | ⟨g1, _, _, h1, _, h2, _⟩
  · cases h1
  · rcases b.2 with ⟨h3, _⟩ | ⟨g2, _, _, h3, _, h4, _⟩
    · cases h3
    · injection h1 with h1 _ _
      injection h1 with h1
      injection h1 with h1 _ _
      injection h3 with h3 _ _
      injection h3 with h3
      injection h3 with h3 _ _
      subst h1
      subst h3
      rw [h2] at h4
      injection h4 with h4
      injection h4 with _ h5 _
      revert h5
      decide

theorem info_f32b : (Tryz.prog.info? 28).map (fun i => (i.zero, i.size, i.bytes)) = some (some (.float .f32 0), 1, 4) := by kernel_rfl

theorem specFrom1 (n : Nat) (h : (n : Int) ≤ 4294967295) (w : World) :
    Calls Tryz.prog 41 #[.int .i64 n] w fun e w' => e = .returned (.float .f32 n) ∧ w = w' := by
  have hb := f32frombits
  have h0 : (0 : Int) ≤ n := by omega
  go_enter Tryz.func41, Tryz.ntmps41
  go_wp2
  go_ret
  exact ⟨rfl, rfl⟩
theorem specBits1 (n : Nat) (h : (n : Int) ≤ 4294967295) (w : World) :
    Calls Tryz.prog 54 #[.float .f32 n] w fun e w' => e = .returned (.int .i64 (bitsN n)) ∧ w = w' := by
  have := specBits n ⟨by show n < 2 ^ 32; omega⟩ w
  rw [bitsV_N] at this
  exact this.mono fun _ _ ⟨h1, h2⟩ => ⟨h1, h2.symm⟩

/-- five kinds of bytes -/
theorem five (c : UInt8) : (48 ≤ c.toNat ∧ c.toNat ≤ 57 ∧ valH c = some (c.toNat - 48)) ∨ (97 ≤ c.toNat ∧ c.toNat ≤ 102 ∧ valH c = some (c.toNat - 87)) ∨ (c.toNat < 48 ∧ valH c = none) ∨ (57 < c.toNat ∧ c.toNat < 97 ∧ valH c = none) ∨ (102 < c.toNat ∧ valH c = none) := by
  unfold valH
  by_cases a : 48 ≤ c.toNat ∧ c.toNat ≤ 57
  · left; rw [if_pos a]; exact ⟨a.1, a.2, rfl⟩
  · rw [if_neg a]
    by_cases b : 97 ≤ c.toNat ∧ c.toNat ≤ 102
    · right; left; rw [if_pos b]; exact ⟨b.1, b.2, rfl⟩
    · rw [if_neg b]
      right; right
      rcases (show c.toNat < 48 ∨ (57 < c.toNat ∧ c.toNat < 97) ∨ 102 < c.toNat by omega) with h | h | h
      · left; exact ⟨h, rfl⟩
      · right; left; exact ⟨h.1, h.2, rfl⟩
      · right; right; exact ⟨h, rfl⟩


end Go.Proofs.YtckhdbnoihieeaaGreatDoor
