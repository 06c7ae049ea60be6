/-
  What is proved here: the law's comparison, marks and looks of rows of complex numbers, as walks. Conditions: at most 256 numbers.
-/
import Derived.Test.YtckhdbnoihieeaaGreatDoorOwnC
namespace Go.Proofs.YtckhdbnoihieeaaGreatDoor
open Flt Go.RowKit
attribute [local go_sem] run_store_complex

theorem widc_same {a r s : Nat} {c : Nat} (h1 : Hid (can .f64 r = wid (can .f32 a))) (h2 : Hid (can .f64 s = wid (can .f32 c))) (h : a = c) : can .f64 r = can .f64 s := by rw [h1.out, h2.out, h]





end Go.Proofs.YtckhdbnoihieeaaGreatDoor
