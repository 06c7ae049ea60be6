/-
  What is proved here: RewriteOnce of the program, as a walk. Conditions: texts of at most 1048576 letters.
-/
import Derived.Test.YtedmigemplojlaaRew
namespace Go.Proofs.Ytedmigemplojlaa
open Go.RowKit

theorem validB_all {st : ByteArray} {n : Nat} {ss : List ByteArray} (h : validB st n ss = true) : ∀ k, k < n → okAt ss k = true := by
  unfold validB at h
  simp at h
  exact fun k hk => h.2.2 ⟨k, hk⟩

theorem implRO (n c : Nat) (A : Option Addr) (st : ByteArray) (ss : List ByteArray) (t : ByteArray) (w : World) (hr : RowS w w.heap.size A ss) (hn : ss.length = 2 * n) (hN : n ≤ 1048576) (hS : ∀ j, (atS ss j).size ≤ 1048576) :
    Calls Try.prog 37 #[.agg #[.string st, .slice A n c], .string t] w fun e w' => e = .returned (.tuple #[.string (roT st n ss t), .bool (roB st n ss t)]) ∧ Hid (Below w.heap.size w w') := by
  have B0 : Below w.heap.size w (w.alloc (.cells #[.string st, .slice A n c] 30)) := (Below.refl _ _).alloc (Nat.le_refl _) _
  have V0 := varG_new w st A n c 30
  have HC := Lib.hid (implValid n c A st ss _ (hr.carry B0) hn hN)
  have HB := Lib.hid B0
  have HV := Lib.hid V0
  have HR := Lib.hid hr
  have HL := Lib.hid hn
  have HS := Lib.hid hS
  clear hr hn hS B0 V0
  cases h1 : validB st n ss
  · have N := ro_no (t := t) (by rw [h1]; rfl : (validB st n ss && wordB t 4000) = false)
    have N1 := Lib.hid N.1
    have N2 := Lib.hid N.2
    rw [h1] at HC
    clear N h1
    go_enter Try.func37, Try.ntmps37
    go_wp2_with fail
    refine HC.out.mono ?_
    rintro e w1 ⟨rfl, hb⟩
    have HE : Hid (Below w.heap.size w w1) := HB.out.trans (hb.out.mono HB.out.size)
    clear hb HC
    go_wp2_with fail
    go_ret2
    exact ⟨by rw [N1.out, N2.out]; rfl, HE⟩
  · have HOK := Lib.hid (asc_of (validB_all h1))
    rw [h1] at HC
    have HW := fun W => implIsWord t W
    cases h2 : wordB t 4000
    · have N := ro_no (t := t) (by rw [h1, h2]; rfl : (validB st n ss && wordB t 4000) = false)
      have N1 := Lib.hid N.1
      have N2 := Lib.hid N.2
      rw [h2] at HW
      have HW2 := Lib.hid HW
      clear N h1 h2 HW
      go_enter Try.func37, Try.ntmps37
      go_wp2_with fail
      refine HC.out.mono ?_
      rintro e w1 ⟨rfl, hb⟩
      have HE : Hid (Below w.heap.size w w1) := HB.out.trans (hb.out.mono HB.out.size)
      clear hb HC
      go_wp2_with fail
      refine (HW2.out _).mono ?_
      rintro e w2 ⟨rfl, hb⟩
      have HE2 : Hid (Below w.heap.size w w2) := HE.out.trans (hb.mono HE.out.size)
      clear hb
      go_wp2_with fail
      go_ret2
      exact ⟨by rw [N1.out, N2.out]; rfl, HE2⟩
    · have N := ro_yes h1 h2
      have N1 := Lib.hid N.1
      have N2 := Lib.hid N.2
      have H2 := Lib.hid h2
      rw [h2] at HW
      have HW2 := Lib.hid HW
      clear N h1 h2 HW
      go_enter Try.func37, Try.ntmps37
      go_wp2_with fail
      refine HC.out.mono ?_
      rintro e w1 ⟨rfl, hb⟩
      have HE : Hid (Below w.heap.size w w1) := HB.out.trans (hb.out.mono HB.out.size)
      have V1 := Lib.hid (HV.out.below hb.out)
      clear hb HC
      go_wp2_with fail
      refine (HW2.out _).mono ?_
      rintro e w2 ⟨rfl, hb⟩
      have HE2 : Hid (Below w.heap.size w w2) := HE.out.trans (hb.mono HE.out.size)
      have V2 := Lib.hid (V1.out.below hb)
      have c0 := V2.out.c0
      have c1 := V2.out.c1
      have HT := Lib.hid (textsOf_is n c A st ss w2 (HR.out.carry HE2.out) HL.out hN HOK.out.1 (fun k => HS.out _))
      clear hb V1 HE
      go_wp2_with fail
      refine HT.out.mono ?_
      rintro e w3 ⟨B, rfl, _, HM, hb⟩
      have HE3 : Hid (Below w.heap.size w w3) := HE2.out.trans (hb.out.mono HE2.out.size)
      have HF := Lib.hid (rewritten_is B n ss t w3 HM.out HOK.out H2.out (fun k => HS.out _))
      clear hb HT c0 c1
      go_wp2_with fail
      refine HF.out.mono ?_
      rintro e w4 ⟨rfl, hb⟩
      have HE4 : Hid (Below w.heap.size w w4) := HE3.out.trans (hb.out.mono HE3.out.size)
      clear hb HF
      go_wp2_with fail
      go_ret2
      exact ⟨by rw [N1.out, N2.out]; rfl, HE4⟩

end Go.Proofs.Ytedmigemplojlaa
