/-
  What is proved here: the texts of lists of 32-bit numbers, and the law NumbersText, as walks. Conditions: the list is one that a machine can hold; the library's table holds what it lays.
-/
import Derived.Test.YtckhdbnoihieeaaGreatDoorHexC
import Derived.Test.YtckhdbnoihieeaaGreatDoorRep
import Derived.Test.YtckhdbnoihieeaaGreatDoorSumB
import Derived.Test.YtckhdbnoihieeaaGreatDoorShelfC
import Derived.Lib.Join
import Derived.Laws.Concat
namespace Go.Proofs.YtckhdbnoihieeaaGreatDoor
open Flt Go.RowKit

/-- words of 32 bits, all of them -/
def AllW (zs : List Nat) : Prop := ∀ z ∈ zs, WF .f32 z
theorem at0_mem {zs : List Nat} {j : Nat} (h : j < zs.length) : at0 zs j ∈ zs := by
  rw [show at0 zs j = zs[j] by simp [at0, List.getD, h]]; exact List.getElem_mem h

/-- a number's text -/
def hexB (z : Nat) : List UInt8 := hexN 8 (bitsN z)
theorem hexB_length (z : Nat) : (hexB z).length = 8 := hexN_length 8 _

def joinH (zs : List Nat) : List UInt8 := Lib.join (zs.map hexB) [44]
def ntB (zs : List Nat) : Bool := decide (zs.length ≤ 256)
def ntT (zs : List Nat) : List UInt8 := if ntB zs = true then (if zs.length = 0 then [110, 111, 110, 101] else joinH zs) else []

theorem joinH_one (z : Nat) : joinH [z] = hexB z := Lib.join_one _ _
theorem joinH_snoc (zs : List Nat) (z : Nat) (h : zs ≠ []) : joinH (zs ++ [z]) = joinH zs ++ (44 :: hexB z) := by
  cases zs with
  | nil => exact absurd rfl h
  | cons x r =>
    unfold joinH
    rw [List.cons_append, List.map_cons, List.map_cons, Lib.join_cons, Lib.join_cons]
    unfold Lib.joinTail
    simp
theorem joinH_len (zs : List Nat) : (joinH zs).length ≤ 9 * zs.length := by
  have key : ∀ (r : List Nat), (Lib.joinTail [44] (r.map hexB)).length ≤ 9 * r.length := by
    intro r
    induction r with
    | nil => simp [Lib.joinTail]
    | cons z r ih =>
      have h1 := hexB_length z
      unfold Lib.joinTail at ih ⊢
      simp at ih ⊢
      omega
  cases zs with
  | nil => simp [joinH, Lib.join_nil]
  | cons z r =>
    have h1 := hexB_length z
    have h2 := key r
    unfold joinH
    rw [List.map_cons, Lib.join_cons, List.length_append, List.length_cons]
    omega

theorem take_snoc0 (zs : List Nat) (k : Nat) (h : k < zs.length) : zs.take (k + 1) = zs.take k ++ [at0 zs k] := by
  rw [List.take_succ_eq_append_getElem h]; simp [at0, List.getD, h]

/-- the text of the first of them -/
def hexTo (zs : List Nat) (k : Nat) : ByteArray := ⟨(joinH (zs.take k)).toArray⟩

theorem add_commaH (z : Nat) (W : World) : (Op.stringOp .add ⟨#[44]⟩ ⟨(hexB z).toArray⟩).run Tryz.prog W = .ok (.string ⟨(44 :: hexB z).toArray⟩) W := by
  have h := hexB_length z
  rw [run_string_add_sum W _ _ (by show (#[(44 : UInt8)]).size + (hexB z).toArray.size ≤ _; simp; omega)]
  congr 2

theorem add_nextH (zs : List Nat) (k : Nat) (h0 : 0 < k) (h : k < zs.length) (h64 : zs.length ≤ 256) (W : World) :
    (Op.stringOp .add (hexTo zs k) ⟨(44 :: hexB (at0 zs k)).toArray⟩).run Tryz.prog W = .ok (.string (hexTo zs (k + 1))) W := by
  have h1 := hexB_length (at0 zs k)
  have h2 := joinH_len (zs.take k)
  have h3 : (zs.take k).length ≤ 256 := Nat.le_trans (List.length_take_le' _ _) h64
  rw [run_string_add_sum W _ _ (by show (joinH (zs.take k)).toArray.size + (44 :: hexB (at0 zs k)).toArray.size ≤ _; simp; omega)]
  congr 2
  unfold hexTo
  rw [ByteArray.mk_append_mk, take_snoc0 zs k h, joinH_snoc _ _ (by intro e; have := congrArg List.length e; rw [List.length_take, List.length_nil] at this; omega)]



/-- what both functions give -/
def NPost (zs : List Nat) (w : World) (e : Ending) (w' : World) : Prop := e = .returned (.tuple #[.string ⟨(ntT zs).toArray⟩, .bool (ntB zs)]) ∧ Below w.heap.size w w'

theorem npost_no {zs : List Nat} {w w' : World} (h : ntB zs = false) (hb : Below w.heap.size w w') : NPost zs w (.returned (.tuple #[.string ⟨#[]⟩, .bool false])) w' := by
  refine ⟨?_, hb⟩
  unfold ntT
  rw [h]; rfl
theorem npost_none {zs : List Nat} {w w' : World} (h : ntB zs = true) (h0 : zs.length = 0) (hb : Below w.heap.size w w') : NPost zs w (.returned (.tuple #[.string ⟨#[110, 111, 110, 101]⟩, .bool true])) w' := by
  refine ⟨?_, hb⟩
  unfold ntT
  rw [if_pos h, if_pos h0, h]
theorem npost_yes {zs : List Nat} {w w' : World} (h : ntB zs = true) (h0 : ¬ zs.length = 0) (hb : Below w.heap.size w w') : NPost zs w (.returned (.tuple #[.string (hexTo zs zs.length), .bool true])) w' := by
  refine ⟨?_, hb⟩
  unfold ntT hexTo
  rw [if_pos h, if_neg h0, h, List.take_length]


end Go.Proofs.YtckhdbnoihieeaaGreatDoor
