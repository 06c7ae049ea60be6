/-
  What is proved here: the map of what letters become, as a walk. Conditions: letters of one byte each; at most 1048576 rules.
-/
import Derived.Test.YtckhdbnoihieeaaRwB
import Derived.Maps.OwnSet
import Derived.Maps.StringElems
import Derived.WalkArith
namespace Go.Proofs.Ytckhdbnoihieeaa
open Go.RowKit Go.Maps

theorem lawK : Keyed Try.prog 21 := int_keyed Try.underlying21
theorem zeroS (w : World) : (zeroValue 9).run Try.prog w = .ok (.string ⟨#[]⟩) w := by kernel_rfl

/-- the letter's number -/
def lcode (a : ByteArray) : Nat := (a.data.getD 0 0).toNat
theorem lcode_eq {a : ByteArray} (h : 0 < a.size) : (a[0]'h).toNat = lcode a := by
  unfold lcode
  rw [Array.getD_eq_getD_getElem?, Array.getElem?_eq_getElem (show 0 < a.data.size from h)]
  rfl
theorem lcode_lt (a : ByteArray) : lcode a < 256 := by unfold lcode; exact UInt8.toNat_lt _

/-- the map after k rules -/
def Dt (ss : List ByteArray) : Nat → DataW Unit
  | 0 => .map []
  | k + 1 => (Dt ss k).put (.int .i32 (lcode (ltr ss k))) (.lit (.string (txt ss k).data.toList))

theorem ownsMap_heap {H : Type} {w w' : World} {P : Program} {k : TypeId} {R : Value → Option (DataW H × List MemPlace)} {b n : Nat} {D : DataW H} (h : w.ownsMap P k R b n D) (e : w'.heap[b]? = w.heap[b]?) : w'.ownsMap P k R b n D := by
  obtain ⟨es, clock, hb, F, hs, hD⟩ := h
  exact ⟨es, clock, e.trans hb, F, hs, hD⟩
theorem ownsMap_below {H : Type} {w w' : World} {P : Program} {k : TypeId} {R : Value → Option (DataW H × List MemPlace)} {b n : Nat} {D : DataW H} (h : w.ownsMap P k R b n D) (hb : Below w.heap.size w w') : w'.ownsMap P k R b n D :=
  ownsMap_heap h (hb.block b h.lt)

theorem letterOf_n (a b : ByteArray) (h1 : a.size = 1) (w : World) :
    Calls Try.prog 114 #[.agg #[.string a, .string b]] w fun e w' => e = .returned (.int .i32 (lcode a)) ∧ Below w.heap.size w w' :=
  (letterOf_is a b (by omega) w).mono fun e w' ⟨he, hb⟩ => ⟨by rw [he, lcode_eq], hb⟩

/-- a map of what letters become -/
def TxM (w : World) (B n : Nat) (ss : List ByteArray) : Prop := w.ownsMap Try.prog 21 (plainElem Try.prog 9) B n (Dt ss n)


end Go.Proofs.Ytckhdbnoihieeaa
