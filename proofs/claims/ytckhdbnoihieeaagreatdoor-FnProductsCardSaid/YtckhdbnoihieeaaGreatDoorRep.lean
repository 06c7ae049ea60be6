/-
  What is proved here: the program's text of a number, as a walk. Conditions: the word is a 32-bit one; the library's table holds what it lays.
-/
import Derived.Test.YtckhdbnoihieeaaGreatDoorHexC
import Derived.Test.YtckhdbnoihieeaaGreatDoorShelfE
import Derived.Test.YtckhdbnoihieeaaGreatDoorSimA
import Derived.Laws.Concat
namespace Go.Proofs.YtckhdbnoihieeaaGreatDoor
open Flt Go.RowKit

theorem repeat0 : ∀ (c : Nat), Lib.repeatL [48] c = List.replicate c 48
  | 0 => rfl
  | c + 1 => by
    show [48] ++ Lib.repeatL [48] c = _
    rw [repeat0 c]; rfl

theorem numTxt (x : Nat) (hx : WF .f32 x) (w : World) (ht : Tz w) :
    Calls Tryz.prog 58 #[.float .f32 x] w fun e w' => e = .returned (.string ⟨(hexN 8 (bitsN x)).toArray⟩) ∧ Below w.heap.size w w' := by
  have HB : Hid (Calls Tryz.prog 20 #[.float .f32 x] w fun e w' => e = .returned (.int .i64 (bitsN x)) ∧ ∃ n, w' = w.drewN n) := by
    have := implBits x hx w
    rwa [bitsV_N] at this
  have HF : Hid (∀ n, Calls Tryz.prog 69 #[.int .i64 (bitsN x), .int .i64 16] (w.drewN n) fun e w' => e = .returned (.string ⟨(hexMin (bitsN x)).toArray⟩) ∧ Below (w.drewN n).heap.size (w.drewN n) w') :=
    fun n => fmt16 _ (bitsN_lt hx) _ ht
  obtain ⟨h1, h2⟩ := hexMin_length 7 (bitsN x) (by have := bitsN_lt hx; simpa using this)
  have HP : Hid (hexN 8 (bitsN x) = Lib.repeatL [48] (8 - (hexMin (bitsN x)).length) ++ hexMin (bitsN x)) := by
    show _ = _
    rw [repeat0]; exact hexN_pad 7 _ (by have := bitsN_lt hx; simpa using this)
  generalize hexMin (bitsN x) = D at *
  generalize hexN 8 (bitsN x) = E at *
  generalize bitsN x = N at *
  obtain ⟨c, hc⟩ : ∃ c : Nat, (8 : Int) - (D.length : Int) = c := ⟨8 - D.length, by omega⟩
  have hc2 : 8 - D.length = c := by omega
  rw [hc2] at HP
  have hsz : (⟨D.toArray⟩ : ByteArray).size = D.length := by simp [ByteArray.size]
  have HR : Hid (∀ W, Calls Tryz.prog 70 #[.string ⟨#[48]⟩, .int .i64 c] W fun e w' => e = .returned (.string ⟨(Lib.repeatL [48] c).toArray⟩) ∧ Below W.heap.size W w') :=
    fun W => Go.Proofs.Tryz.strings_Repeat ⟨#[48]⟩ c W (by omega) (by show 1 * c ≤ _; omega)
  have hlen : (Lib.repeatL [48] c).length ≤ 8 := by rw [repeat0, List.length_replicate]; omega
  have hadd : ∀ W, (Op.stringOp .add ⟨(Lib.repeatL [48] c).toArray⟩ ⟨D.toArray⟩).run Tryz.prog W = .ok (.string ⟨E.toArray⟩) W := by
    intro W
    rw [run_string_add_sum W _ _ (by show (Lib.repeatL [48] c).toArray.size + D.toArray.size ≤ _; simp; omega), HP.out, ByteArray.mk_append_mk]
  clear hlen hc2
  go_enter Tryz.func58, Tryz.ntmps58
  go_wp2_with (first | (go_at_call 20; refine HB.out.mono ?_; rintro e w' ⟨rfl, n, rfl⟩) | (go_at_call 69; refine (HF.out _).mono ?_; rintro e w1 ⟨rfl, hb1⟩; have HB1 := Lib.hid hb1; clear hb1) | (go_at_call 70; refine (HR.out _).mono ?_; rintro e w2 ⟨rfl, hb2⟩; have HB2 := Lib.hid hb2; clear hb2))
  go_ret
  exact ⟨rfl, (show Below w.heap.size w _ from ⟨HB1.out.os, HB1.out.tape, HB1.out.output, HB1.out.size, HB1.out.block⟩).trans (HB2.out.mono HB1.out.size)⟩

end Go.Proofs.YtckhdbnoihieeaaGreatDoor
