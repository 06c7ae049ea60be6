/-
  What is proved here: TurtleLine of both packages gives the same, whatever is given. Conditions: a text that a machine can hold.
-/
import Derived.Test.YthhimielelpcoaaTri
import Derived.Test.YthhimielelpcoaaShelfX
namespace Go.Proofs.Ythhimielelpcoaa
open Flt Go.RowKit
set_option linter.unusedVariables false
set_option linter.unusedSimpArgs false

theorem indexAny_any (chars : List UInt8) : ∀ l : List UInt8, (decide (0 ≤ Lib.indexAny l chars)) = l.any fun b => chars.contains b
  | [] => rfl
  | b :: l => by
    have ih := indexAny_any chars l
    have hg := Lib.indexAny_ge chars l
    unfold Lib.indexAny
    rw [List.any_cons]
    cases hc : chars.contains b with
    | true => simp
    | false =>
      rw [if_neg (by simp), Bool.false_or, ← ih]
      by_cases h : Lib.indexAny l chars = -1
      · rw [h]; rfl
      · rw [if_neg (by simpa using h), decide_eq_true (by omega : (0 : Int) ≤ Lib.indexAny l chars + 1), decide_eq_true (by omega : (0 : Int) ≤ Lib.indexAny l chars)]
theorem any_brk (s : ByteArray) : (s.data.toList.any fun b => [91, 93].contains b) = !nobB s s.size := by
  cases h : nobB s s.size with
  | true =>
    show _ = false
    rw [Bool.eq_false_iff]
    intro g
    obtain ⟨b, hb, hc⟩ := List.any_eq_true.1 g
    obtain ⟨i, hi, rfl⟩ := List.getElem_of_mem hb
    have hi2 : i < s.size := by simpa using hi
    have h1 := nobB_at h hi2
    have h2 : ltr s i = (s.data.toList[i]'hi).toNat := by rw [← ltr_at hi2]; rfl
    rw [h2] at h1
    obtain ⟨n1, n2⟩ := brkB_not h1
    simp at hc
    rcases hc with hc | hc
    · exact n1 (by rw [show s.data.toList[i]'hi = 91 by simpa using hc]; rfl)
    · exact n2 (by rw [show s.data.toList[i]'hi = 93 by simpa using hc]; rfl)
  | false =>
    show _ = true
    rw [List.any_eq_true]
    have hex : ∃ i, i < s.size ∧ brkB (ltr s i) = true := by
      apply Classical.byContradiction
      intro hno
      have : nobB s s.size = true := List.all_eq_true.2 fun i hi => by
        cases e : brkB (ltr s i) with
        | false => rfl
        | true => exact absurd ⟨i, List.mem_range.1 hi, e⟩ hno
      rw [h] at this; cases this
    obtain ⟨i, hi, hb⟩ := hex
    refine ⟨s.data.toList[i]'(by simpa using hi), List.getElem_mem _, ?_⟩
    have h2 : ltr s i = (s.data.toList[i]'(by simpa using hi)).toNat := by rw [← ltr_at hi]; rfl
    rw [h2] at hb
    generalize s.data.toList[i]'(by simpa using hi) = c at *
    rcases brkB_is hb with e | e
    · have : c = 91 := UInt8.toNat_inj.1 (by rw [e]; rfl)
      subst this; rfl
    · have : c = 93 := UInt8.toNat_inj.1 (by rw [e]; rfl)
      subst this; rfl
theorem wordB_ascii {s : ByteArray} (h : wordB s 4000 = true) : ∀ (j : Nat) b, s.data.toList[j]? = some b → b.toNat < 128 := fun j b hb => by
  obtain ⟨hj, e⟩ := List.getElem?_eq_some_iff.1 hb
  have hj2 : j < s.size := by simpa using hj
  have := wordB_atT h hj2
  rw [← e]; exact this
theorem tlOk_nob {PF : Option Nat → OC} {s : ByteArray} {T S : Option Nat} (h : nobB s s.size = false) : tlOk PF s T S = false := by
  unfold tlOk; rw [h]; simp

set_option maxHeartbeats 4000000 in
set_option maxRecDepth 1000000 in
theorem implTur (PF : Option Nat → OC) (hPF : PhF PF) (s : ByteArray) (u v : Nat) (hs : s.size ≤ 9223372036854775807) (w : World) :
    Calls Try.prog 29 #[.string s, .float .f32 u, .float .f32 v] w (KPost (tlW PF s (can .f32 u) (can .f32 v)) (tlOk PF s (can .f32 u) (can .f32 v)) w) := by
  have b1 : Below w.heap.size w (w.alloc (.cells #[.complex .f32 0 0] 113)) := (Below.refl _ _).alloc (Nat.le_refl _) _
  have s1 : (w.alloc (.cells #[.complex .f32 0 0] 113)).heap.size = w.heap.size + 1 := by simp
  have O1 : GroC (w.alloc (.cells #[.complex .f32 0 0] 113)) w.heap.size [(0, 0)] (some ⟨w.heap.size, 0, none⟩) 1 := GroC.lit1 w (Nat.le_refl _) (0, 0)
  obtain ⟨w1, hw1⟩ : ∃ w1, w1 = w.alloc (.cells #[.complex .f32 0 0] 113) := ⟨_, rfl⟩
  rw [← hw1] at b1 s1 O1
  have b2 : Below w1.heap.size w1 (w1.alloc (.cells #[.slice (some ⟨w.heap.size, 0, none⟩) 1 1] 50)) := (Below.refl _ _).alloc (Nat.le_refl _) _
  have L2 : LnS (w1.alloc (.cells #[.slice (some ⟨w.heap.size, 0, none⟩) 1 1] 50)) w.heap.size (w.heap.size + 1) [(0, 0)] w.heap.size 1 := by
    rw [← s1]
    exact ⟨by simp [World.cell?, World.alloc, -World.alloc_eq], by simp [World.frozen?, World.alloc, -World.alloc_eq], O1.below b2, by simp, by rw [s1]; omega⟩
  obtain ⟨w2, hw2⟩ : ∃ w2, w2 = w1.alloc (.cells #[.slice (some ⟨w.heap.size, 0, none⟩) 1 1] 50) := ⟨_, rfl⟩
  rw [← hw2] at b2 L2
  have B2 := Lib.hid (b1.trans (b2.mono (by rw [s1]; omega)))
  have HD := Lib.hid (implDrw PF hPF s u v hs (w.heap.size + 1) w.heap.size w.heap.size 1 w2 L2 (Nat.le_succ _))
  rw [hw1] at hw2
  clear b1 s1 O1 b2 L2 hw1 hPF
  go_enter Try.func29, Try.ntmps29
  go_wp2_with fail
  rw [← hw2]
  clear hw2
  refine HD.out.mono ?_
  rintro e w3 ⟨bb, rfl, hb3, h1, h2⟩
  have B3 := Lib.hid (B2.out.trans hb3.out)
  clear HD B2 hb3
  cases bb
  · have N : Hid (tlOk PF s (can .f32 u) (can .f32 v) = false) := by
      show _ = _
      cases hn : nobB s s.size with
      | true => exact (h1.out hn).symm
      | false => exact tlOk_nob hn
    clear h1 h2
    go_wp2_with fail
    go_ret2
    exact kpost_no (tlW_no N.out) N.out B3.out
  · obtain ⟨hwb, L, lg, lc, hL, hT⟩ := h2.out rfl
    have hsz : s.size ≤ 4000 := by unfold wordB at hwb; rw [Bool.and_eq_true] at hwb; exact of_decide_eq_true hwb.1
    have HCA : Hid (∀ W, Calls Try.prog 86 #[.string s, .string ⟨#[91, 93]⟩] W fun e w' => e = .returned (.bool (!nobB s s.size)) ∧ Below W.heap.size W w') := fun W => by
      have h := Try.strings_ContainsAny_laid s ⟨#[91, 93]⟩ W (by omega) (by decide) (wordB_ascii hwb) (fun j b hb => by
        have h9 : b ∈ ([91, 93] : List UInt8) := List.mem_of_getElem? hb
        rcases List.mem_cons.1 h9 with h9 | h9
        · rw [h9]; decide
        · rw [List.mem_singleton.1 h9]; decide)
      refine h.mono ?_
      rintro e w' ⟨he, hb⟩
      refine ⟨?_, hb⟩
      rw [he, ← any_brk, ← indexAny_any]; rfl
    have HL := Lib.hid hL
    have HT := Lib.hid hT
    clear h2 hwb hL hT
    cases hn : nobB s s.size
    · have N : Hid (tlOk PF s (can .f32 u) (can .f32 v) = false) := tlOk_nob hn
      rw [hn] at HCA
      clear hn h1 HT
      go_wp2_with (go_at_call 86; refine (HCA.out _).mono ?_; rintro e w4 ⟨rfl, hb4⟩)
      go_ret2
      exact kpost_no (tlW_no N.out) N.out (B3.out.trans (hb4.mono B3.out.size))
    · obtain ⟨t1, t2⟩ := HT.out hn
      have N : Hid (tlOk PF s (can .f32 u) (can .f32 v) = true) := (h1.out hn).symm
      have HEQ : Hid (tlW PF s (can .f32 u) (can .f32 v) = L) := by
        show _ = _
        unfold tlW
        rw [N.out, if_pos rfl]
        exact (told_word t1 t2).symm
      rw [hn] at HCA
      clear hn h1 HT t1 t2
      go_wp2_with (go_at_call 86; refine (HCA.out _).mono ?_; rintro e w4 ⟨rfl, hb4⟩; have H4 := Lib.hid hb4; have L4 := Lib.hid (HL.out.heap hb4.size (hb4.block _ HL.out.lt) (hb4.block _ (HL.out.own.lt _ rfl).2)); have c4 := L4.out.cell; clear hb4)
      go_ret2
      refine ⟨some ⟨lg, 0, none⟩, lc, by rw [HEQ.out, N.out]; rfl, ?_, B3.out.trans (H4.out.mono B3.out.size)⟩
      rw [HEQ.out]
      exact L4.out.own.rowCI

theorem turBoth (s : ByteArray) (u v : Nat) (hs : s.size ≤ 9223372036854775807) : ∃ ys b, ys.length ≤ 1024 ∧
    (∀ W, Calls Try.prog 28 #[.string s, .float .f32 u, .float .f32 v] W (KPost ys b W)) ∧ (∀ W, Calls Try.prog 29 #[.string s, .float .f32 u, .float .f32 v] W (KPost ys b W)) := by
  obtain ⟨PF, hPF⟩ := pha_fn
  refine ⟨tlW PF s (can .f32 u) (can .f32 v), tlOk PF s (can .f32 u) (can .f32 v), ?_, fun W => specTur PF hPF s u v hs W, fun W => implTur PF hPF s u v hs W⟩
  unfold tlW
  split
  · rename_i h
    rw [List.length_map]
    unfold tlOk at h
    rw [Bool.and_eq_true, Bool.and_eq_true] at h
    have := of_decide_eq_true h.1.2
    omega
  · exact Nat.zero_le _
end Go.Proofs.Ythhimielelpcoaa
