/-
  What is proved here: the only number of a list, and the complex number with a text, of both packages, as walks. Conditions: the text has at most 1048576 bytes.
-/
import Derived.Test.YtegbclfjcckglaaDoorNcm
import Derived.Test.YtegbclfjcckglaaDoorSmq
namespace Go.Proofs.YtegbclfjcckglaaDoor
open Flt Go.RowKit

def oneB (b : Bool) (L : List (Nat × Nat)) : Bool := b && decide (L.length = 1)
def oneV (b : Bool) (L : List (Nat × Nat)) : Nat × Nat := if oneB b L = true then atC L 0 else (0, 0)
def ptB (s : ByteArray) : Bool := oneB (clB s) (clL s)
def ptN (s : ByteArray) : Nat × Nat := oneV (clB s) (clL s)

theorem one_no {b : Bool} {L : List (Nat × Nat)} (h : oneB b L = false) : oneV b L = (0, 0) := by unfold oneV; rw [h]; rfl

/-- what a list with one number gives -/
theorem onlyC (A : Option Addr) (c B : Nat) (b : Bool) (L : List (Nat × Nat)) (w : World) (hO : OwnC w B A L) :
    Calls Tryd.prog 54 #[.slice A L.length c, .bool b] w fun e w' => e = .returned (.tuple #[.complex .f32 (oneV b L).1 (oneV b L).2, .bool (oneB b L)]) ∧ w = w' := by
  cases b
  · have N := Lib.hid (one_no (b := false) (L := L) rfl)
    have N2 : Hid (oneB false L = false) := rfl
    go_enter Tryd.func54, Tryd.ntmps54
    go_wp2_with fail
    go_ret2
    exact ⟨by rw [N.out, N2.out]; rfl, rfl⟩
  by_cases h1 : L.length = 1
  · have hb : oneB true L = true := by unfold oneB; rw [decide_eq_true h1]; rfl
    have N : Hid (oneV true L = atC L 0) := if_pos hb
    have N2 := Lib.hid hb
    obtain ⟨x, off, rfl, _, _, hc, _⟩ := hO (by omega)
    have c0 : w.cell? ⟨x, off, none⟩ = some (cV (atC L 0)) := hc 0 (by omega)
    unfold cV at c0
    rw [h1]
    have e0 : (((1 : Nat) : Int) != 1) = false := by decide
    clear hO hb h1 hc
    go_enter Tryd.func54, Tryd.ntmps54
    go_wp2_with fail
    go_ret2
    exact ⟨by rw [N.out, N2.out]; rfl, rfl⟩
  · have hb : oneB true L = false := by unfold oneB; rw [decide_eq_false h1]; rfl
    have N := Lib.hid (one_no hb)
    have N2 := Lib.hid hb
    have e0 : ((L.length : Int) != 1) = true := by simp; omega
    have e1 : ((L.length : Int) == 1) = false := by simp; omega
    clear hO hb h1
    generalize L.length = n at *
    go_enter Tryd.func54, Tryd.ntmps54
    go_wp2_with fail
    go_ret2
    exact ⟨by rw [N.out, N2.out]; rfl, rfl⟩

theorem specPt (s : ByteArray) (hs : s.size ≤ 1048576) (w : World) :
    Calls Tryd.prog 97 #[.string s] w fun e w' => e = .returned (.tuple #[.complex .f32 (ptN s).1 (ptN s).2, .bool (ptB s)]) ∧ Below w.heap.size w w' := by
  have HC : ∀ W, Calls Tryd.prog 129 #[.string s] W (CLPost (clL s) (clB s) W) := fun W => specCl s hs W
  unfold ptB ptN
  unfold CLPost at HC
  generalize clL s = L at *
  cases hb : clB s
  · rw [hb] at HC
    have H := Lib.hid HC
    have N := Lib.hid (one_no (b := false) (L := L) rfl)
    have N2 : Hid (oneB false L = false) := rfl
    clear HC hb
    go_enter Tryd.func97, Tryd.ntmps97
    go_wp2_with (go_at_call 129; refine (H.out _).mono ?_; rintro e w1 ⟨A, c, rfl, hO, hB⟩)
    go_ret2
    exact ⟨by rw [N.out, N2.out]; rfl, hB.out⟩
  rw [hb] at HC
  by_cases h1 : L.length = 1
  · have hb : oneB true L = true := by unfold oneB; rw [decide_eq_true h1]; rfl
    have N : Hid (oneV true L = atC L 0) := if_pos hb
    have N2 := Lib.hid hb
    have H : Hid (∀ W, Calls Tryd.prog 129 #[.string s] W fun e w' => ∃ x off c, e = .returned (.tuple #[.slice (some ⟨x, off, none⟩) 1 c, .bool true]) ∧ w'.cell? ⟨x, off, none⟩ = some (.complex .f32 (atC L 0).1 (atC L 0).2) ∧ Hid (Below W.heap.size W w')) := fun W => (HC W).mono fun e w' ⟨A, c, h2, hO, hB⟩ => by
      obtain ⟨x, off, rfl, _, _, hc, _⟩ := hO.out (by omega)
      exact ⟨x, off, c, by rw [h2, h1], hc 0 (by omega), hB⟩
    have e0 : (((1 : Nat) : Int) != 1) = false := by decide
    clear HC hb h1
    go_enter Tryd.func97, Tryd.ntmps97
    go_wp2_with (go_at_call 129; refine (H.out _).mono ?_; rintro e w1 ⟨x, off, c, rfl, c0, hB⟩)
    go_ret2
    exact ⟨by rw [N.out, N2.out]; rfl, hB.out⟩
  · have hb : oneB true L = false := by unfold oneB; rw [decide_eq_false h1]; rfl
    have N := Lib.hid (one_no hb)
    have N2 := Lib.hid hb
    have e0 : ((L.length : Int) != 1) = true := by simp; omega
    have e1 : ((L.length : Int) == 1) = false := by simp; omega
    have H := Lib.hid HC
    clear HC hb h1
    go_enter Tryd.func97, Tryd.ntmps97
    go_wp2_with (go_at_call 129; refine (H.out _).mono ?_; rintro e w1 ⟨A, c, rfl, hO, hB⟩)
    go_ret2
    exact ⟨by rw [N.out, N2.out]; rfl, hB.out⟩

theorem onlyC2 (A : Option Addr) (c B : Nat) (s : ByteArray) (w : World) (hO : OwnC w B A (clL s)) :
    Calls Tryd.prog 54 #[.slice A (clL s).length c, .bool (clB s)] w fun e w' => e = .returned (.tuple #[.complex .f32 (ptN s).1 (ptN s).2, .bool (ptB s)]) ∧ w = w' := onlyC A c B (clB s) (clL s) w hO

/-! the text of one complex number has no colon -/
theorem hexR_all : ∀ (l : List UInt8) (a : Nat), l.foldl hexF (some a) ≠ none → ∀ b ∈ l, valH b ≠ none
  | [], _, _, b, hb => by simp at hb
  | c :: l, a, h, b, hb => by
    rw [List.foldl_cons] at h
    cases hv : valH c with
    | none =>
      exfalso
      unfold hexF at h
      rw [hv] at h
      exact h (hexR_none l)
    | some d =>
      have h2 : l.foldl hexF (some (16 * a + d)) ≠ none := by
        unfold hexF at h
        rw [hv] at h
        exact h
      rcases List.mem_cons.1 hb with rfl | hb
      · rw [hv]; simp
      · exact hexR_all l _ h2 b hb

theorem rdFB_hex {s : ByteArray} (h : rdFB s = true) : ∀ b ∈ s.data.toList, valH b ≠ none := by
  unfold rdFB rdF at h
  split at h
  · rename_i h8
    cases hr : hexR s.data.toList with
    | none => rw [hr] at h; simp at h
    | some n => exact hexR_all _ 0 (by unfold hexR at hr; rw [hr]; simp)
  · simp at h

theorem rdCB_hex {s : ByteArray} (h : rdCB s = true) : ∀ b ∈ s.data.toList, valH b ≠ none := by
  unfold rdCB at h
  rw [Bool.and_eq_true, Bool.and_eq_true] at h
  obtain ⟨h16, h1, h2⟩ := h
  have hl := of_decide_eq_true h16
  intro b hb
  have e : s.data.toList = (lo8 s).data.toList ++ (hi8 s).data.toList := by
    unfold lo8 hi8
    rw [Lib.extract_data, Lib.extract_data, List.drop_zero, Nat.sub_zero, List.take_of_length_le (l := s.data.toList.drop 8) (by rw [List.length_drop, size_list]; omega)]
    exact (List.take_append_drop 8 _).symm
  rw [e] at hb
  rcases List.mem_append.1 hb with hb | hb
  · exact rdFB_hex h1 b hb
  · exact rdFB_hex h2 b hb

theorem pt_hex {s : ByteArray} (h : ptB s = true) : ∀ b ∈ s.data.toList, valH b ≠ none := by
  unfold ptB oneB at h
  rw [Bool.and_eq_true] at h
  obtain ⟨h1, h2⟩ := h
  have hl := of_decide_eq_true h2
  by_cases hn : s.data.toList = noneT
  · rw [(clL_none hn).1] at hl; simp at hl
  · have e : clL s = rdNsC (cutB s) := by unfold clL; rw [if_neg hn, if_pos h1]
    have hok : rdOkC (cutB s) = true := by
      unfold clB at h1
      rw [if_neg hn, Bool.and_eq_true] at h1
      exact h1.2
    rw [e, rdNsC_length] at hl
    -- one part alone: the text itself
    obtain ⟨p, ps, hp⟩ := cutF_cons s.data.toList
    have hps : ps = [] := by
      unfold cutB at hl
      rw [hp] at hl
      simp at hl
      exact hl
    subst hps
    have hpl : p = s.data.toList := by
      rcases index_comma s.data.toList with ⟨_, h3⟩ | ⟨q, r, h3, h4, _⟩
      · rw [cutF_end h3] at hp
        injection hp with hp _
        exact hp.symm
      · exfalso
        rw [h3, cutF_hit h4] at hp
        obtain ⟨x, xs, hx⟩ := cutF_cons r
        rw [hx] at hp
        simp at hp
    have h5 : rdCB s = true := by
      unfold rdOkC cutB at hok
      rw [hp, hpl] at hok
      simp at hok
      exact hok
    exact rdCB_hex h5

end Go.Proofs.YtegbclfjcckglaaDoor
