/-
  What is proved here: the model's digits of a number, as a walk. Conditions: the word is a 32-bit one.
-/
import Derived.Test.YtckhdbnoihieeaaGreatDoorHex
import Derived.Test.YtckhdbnoihieeaaGreatDoorDec
import Derived.Test.YtckhdbnoihieeaaGreatDoorNum
namespace Go.Proofs.YtckhdbnoihieeaaGreatDoor
open Flt Go.RowKit

/-- a number's bits, those of not-a-numbers as one -/
def bitsN (x : Nat) : Nat := if nanW .f32 x = true then 2143289344 else x
theorem bitsV_N (x : Nat) : bitsV x = (bitsN x : Int) := by unfold bitsV bitsN; split <;> rfl
theorem bitsN_lt {x : Nat} (h : WF .f32 x) : bitsN x < 4294967296 := by
  have := h.lt32
  unfold bitsN; split <;> omega

theorem digH_at (m : Nat) (h : m < 16) (h2 : m < (⟨#[48, 49, 50, 51, 52, 53, 54, 55, 56, 57, 97, 98, 99, 100, 101, 102]⟩ : ByteArray).size) :
    ((⟨#[48, 49, 50, 51, 52, 53, 54, 55, 56, 57, 97, 98, 99, 100, 101, 102]⟩ : ByteArray)[m]'h2).toNat = (digH m).toNat := by
  have e : (((⟨#[48, 49, 50, 51, 52, 53, 54, 55, 56, 57, 97, 98, 99, 100, 101, 102]⟩ : ByteArray)[m]'h2).toNat : Int) = Lib.hexDigit m := Lib.lowerhex_at m h2
  have e2 := digH_val h
  unfold Lib.hexDigit at e
  split at e <;> split at e2 <;> omega

theorem mask15 (a : Nat) (h : a < 9223372036854775808) : bits .and .i64 (a : Int) 15 = ((a % 16 : Nat) : Int) := by
  have h2 : a &&& 15 ≤ a := Nat.and_le_left
  show IntKind.i64.wrap ((BitVec.ofInt 64 (a : Int) &&& BitVec.ofInt 64 (15 : Int)).toNat : Int) = _
  have e1 : (BitVec.ofInt 64 (a : Int)).toNat = a := by rw [BitVec.ofInt_natCast, BitVec.toNat_ofNat]; exact Nat.mod_eq_of_lt (by omega)
  have e2 : (BitVec.ofInt 64 (15 : Int)).toNat = 15 := by decide
  rw [BitVec.toNat_and, e1, e2, IntWalk.i64_in _ (by omega)]
  rw [show 15 = 2 ^ 4 - 1 from rfl, Nat.and_two_pow_sub_one_eq_mod]


end Go.Proofs.YtckhdbnoihieeaaGreatDoor
