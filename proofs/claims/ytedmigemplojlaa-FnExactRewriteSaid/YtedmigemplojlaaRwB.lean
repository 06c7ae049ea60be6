/-
  What is proved here: RewriteOnce of the model, as a walk. Conditions: texts of at most 1048576 letters.
-/
import Derived.Test.YtedmigemplojlaaRwA
namespace Go.Proofs.Ytedmigemplojlaa
open Go.RowKit

/-- RewriteOnce: whether, and what -/
def roB (st : ByteArray) (n : Nat) (ss : List ByteArray) (t : ByteArray) : Bool := (validB st n ss && wordB t 4000) && onceB ss n t
def roT (st : ByteArray) (n : Nat) (ss : List ByteArray) (t : ByteArray) : ByteArray := if (validB st n ss && wordB t 4000) = true then onceT ss n t else ⟨#[]⟩
theorem ro_no {st : ByteArray} {n : Nat} {ss : List ByteArray} {t : ByteArray} (h : (validB st n ss && wordB t 4000) = false) : roB st n ss t = false ∧ roT st n ss t = ⟨#[]⟩ := by
  unfold roB roT; rw [h]; exact ⟨rfl, rfl⟩
theorem ro_yes {st : ByteArray} {n : Nat} {ss : List ByteArray} {t : ByteArray} (h1 : validB st n ss = true) (h2 : wordB t 4000 = true) : roB st n ss t = onceB ss n t ∧ roT st n ss t = onceT ss n t := by
  unfold roB roT; rw [h1, h2]; exact ⟨rfl, rfl⟩
theorem wordB_size {t : ByteArray} {n : Nat} (h : wordB t n = true) : t.size ≤ n := by
  unfold wordB at h; simp at h; exact h.1

theorem specRO (n c : Nat) (A : Option Addr) (st : ByteArray) (ss : List ByteArray) (t : ByteArray) (w : World) (hr : RowS w w.heap.size A ss) (hn : ss.length = 2 * n) (hN : n ≤ 1048576) (hst : st.size ≤ 9223372036854775807) (hS : ∀ j, (atS ss j).size ≤ 1048576) (ht : t.size ≤ 9223372036854775807) :
    Calls Try.prog 36 #[.agg #[.string st, .slice A n c], .string t] w fun e w' => e = .returned (.tuple #[.string (roT st n ss t), .bool (roB st n ss t)]) ∧ Hid (Below w.heap.size w w') := by
  have B0 : Below w.heap.size w (w.alloc (.cells #[.string st, .slice A n c] 30)) := (Below.refl _ _).alloc (Nat.le_refl _) _
  have V0 := varG_new w st A n c 30
  have HC := Lib.hid (specIs w.heap.size n c A st ss _ V0 (hr.carry B0) hn hN hst (fun j _ => Nat.le_trans (hS j) (by decide)))
  have HB := Lib.hid B0
  have HV := Lib.hid V0
  have HR := Lib.hid hr
  have HL := Lib.hid hn
  have HS := Lib.hid hS
  clear hr hn hS B0 V0
  cases h1 : validB st n ss
  · have N := ro_no (t := t) (by rw [h1]; rfl : (validB st n ss && wordB t 4000) = false)
    have N1 := Lib.hid N.1
    have N2 := Lib.hid N.2
    rw [h1] at HC
    clear N h1
    go_enter Try.func36, Try.ntmps36
    go_wp2_with fail
    refine HC.out.mono ?_
    rintro e w1 ⟨rfl, hb⟩
    have HE : Hid (Below w.heap.size w w1) := HB.out.trans (hb.out.mono HB.out.size)
    clear hb HC
    go_wp2_with fail
    go_ret2
    exact ⟨by rw [N1.out, N2.out]; rfl, HE⟩
  · rw [h1] at HC
    have HW := fun W => specIsWord t ht W
    cases h2 : wordB t 4000
    · have N := ro_no (t := t) (by rw [h1, h2]; rfl : (validB st n ss && wordB t 4000) = false)
      have N1 := Lib.hid N.1
      have N2 := Lib.hid N.2
      rw [h2] at HW
      have HW2 := Lib.hid HW
      clear N h1 h2 HW
      go_enter Try.func36, Try.ntmps36
      go_wp2_with fail
      refine HC.out.mono ?_
      rintro e w1 ⟨rfl, hb⟩
      have HE : Hid (Below w.heap.size w w1) := HB.out.trans (hb.out.mono HB.out.size)
      clear hb HC
      go_wp2_with (go_at_call 15; refine (HW2.out _).mono ?_; rintro e w' ⟨rfl, rfl⟩)
      go_ret2
      exact ⟨by rw [N1.out, N2.out]; rfl, HE⟩
    · have N := ro_yes h1 h2
      have N1 := Lib.hid N.1
      have N2 := Lib.hid N.2
      have h3 := wordB_size h2
      rw [h2] at HW
      have HW2 := Lib.hid HW
      clear N h1 h2 HW
      go_enter Try.func36, Try.ntmps36
      go_wp2_with fail
      refine HC.out.mono ?_
      rintro e w1 ⟨rfl, hb⟩
      have HE : Hid (Below w.heap.size w w1) := HB.out.trans (hb.out.mono HB.out.size)
      have H1 := Lib.hid (specOnce w.heap.size n c A st ss t w1 (HV.out.below hb.out) ((HR.out.carry HB.out).carry hb.out) HL.out hN (fun k => HS.out _) (by omega))
      clear hb HC
      go_wp2_with (first | (go_at_call 15; refine (HW2.out _).mono ?_; rintro e w' ⟨rfl, rfl⟩) | (go_at_call 69; refine H1.out.mono ?_; rintro e w' ⟨rfl, rfl⟩))
      go_ret2
      exact ⟨by rw [N1.out, N2.out]; rfl, HE⟩

end Go.Proofs.Ytedmigemplojlaa
