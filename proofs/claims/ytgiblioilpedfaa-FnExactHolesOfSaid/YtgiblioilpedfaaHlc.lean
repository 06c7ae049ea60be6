/-
  What is proved here: whether a group has a cell at the edge, as the program tells it, as walks. Conditions: a field; cells of it.
-/
import Derived.Test.YtgiblioilpedfaaHlp
import Derived.Test.YtgiblioilpedfaaGcl
namespace Go.Proofs.Ytgiblioilpedfaa
open Go.RowKit
set_option linter.unusedVariables false

theorem cloBrd (v : Nat) (x y c : Int) (F : Option Addr) (n f : Nat) (w : World) (V : VarT w v x y F n f) (hv : fvB x y n = true) (hc : 0 ≤ c ∧ c < n) : Calls Try.prog 86 #[.int .i64 c, .pointer (some ⟨v, 0, none⟩)] w fun e w' => e = .returned (.bool (brdB x y c)) ∧ Hid (Below w.heap.size w w') := by
  obtain ⟨_, hn, _, _⟩ := fvB_yes hv
  have hsd : sidB x y = true := by
    cases e : sidB x y with
    | true => rfl
    | false => rw [fvB_1 e] at hv; cases hv
  obtain ⟨vl, v0, v1, v2⟩ := V
  have H := Lib.hid (implSid x y c hsd hc.1 (by omega) w)
  have N : Hid (brdB x y c = decide (((sidL x y c).length : Int) < 4)) := by show _ = _; unfold brdB; exact decide_eq_decide.2 (by omega)
  have h4 := sidL_len x y c
  clear hv hsd hn hc v2
  generalize sidL x y c = L at *
  go_enter Try.func86, Try.ntmps86
  go_wp2_with (go_at_call 87; refine H.out.mono ?_; rintro e w' ⟨A, d, rfl, _, hb⟩)
  go_ret
  exact ⟨by rw [N.out]; rfl, hb⟩
theorem idxBrd (A : Option Addr) (c v R : Nat) (x y : Int) (F : Option Addr) (n f : Nat) (L : List Int) (w : World) (V : VarT w v x y F n f) (hn : n ≤ 1048576) (hv : fvB x y n = true) (hin : ∀ t, t < L.length → 0 ≤ atI L t ∧ atI L t < n) (hr : RowV w w.heap.size A L.length (iv (atI L))) (hl : L.length ≤ 1048576) (hR : R ≤ L.length) (hall : ∀ t, t < R → (brdB x y (atI L t)) = false) (hend : R < L.length → (brdB x y (atI L R)) = true) :
    Calls Try.prog 122 #[.slice A L.length c, .func (.func 86) #[] #[.pointer (some ⟨v, 0, none⟩)]] w fun e w' => e = .returned (.int .i64 (if R < L.length then (R : Int) else -1)) ∧ Hid (Below w.heap.size w w') := by
  have HR := Lib.hid hr
  have HV := Lib.hid V
  have HALL := Lib.hid hall
  have HEND := Lib.hid hend
  have HCL := Lib.hid (fun (c : Int) (h0 : 0 ≤ c ∧ c < n) W (hW : Below w.heap.size w W) => cloBrd v x y c F n f W (V.below hW) hv h0)
  have HIN := Lib.hid hin
  clear hr hall hend V hv hin
  go_enter Try.func122, Try.ntmps122
  go_wp2
  go_loopw [8] (fun i wr => ∃ k : Nat, k ≤ R ∧ i = .int .i64 k ∧ Hid (Below w.heap.size w wr)) (fun i _ => R - (intOf i).toNat)
  case atStart => exact ⟨0, Nat.zero_le _, rfl, Below.refl _ _⟩
  case round =>
    obtain ⟨k, hk, rfl, hB⟩ := hrel
    by_cases hkn : k < L.length
    · obtain ⟨b0, off, rfl, hb, hcell⟩ := (HR.out.below hB.out) (by omega)
      have hc := hcell k hkn
      unfold iv at hc
      clear hcell hb
      have HC := Lib.hid (HCL.out (atI L k) (HIN.out k hkn) wr hB.out)
      have hal := fun h => HALL.out k h
      have hen : k = R → (brdB x y (atI L k)) = true := fun h => by rw [h]; exact HEND.out (by omega)
      generalize atI L k = z at *
      by_cases hlt : k < R
      · have h0 := hal hlt
        try dsimp only at h0
        rw [h0] at HC
        clear h0 hal hen
        go_wp2_with (go_at_call 86; refine HC.out.mono ?_; rintro e w2 ⟨rfl, hb2⟩; have HB2 := Lib.hid (hB.out.trans (hb2.out.mono hB.out.size)); clear hb2)
        go_roundw
        case rel => exact ⟨k + 1, by omega, by go_num, HB2⟩
        case measure => simp [intOf]; omega
      · have ek : k = R := by omega
        have h0 := hen ek
        try dsimp only at h0
        rw [h0] at HC
        have EK := Lib.hid ek
        clear h0 hal hen ek
        go_wp2_with (go_at_call 86; refine HC.out.mono ?_; rintro e w2 ⟨rfl, hb2⟩; have HB2 := Lib.hid (hB.out.trans (hb2.out.mono hB.out.size)); clear hb2)
        go_ret
        exact ⟨by rw [EK.out]; rfl, HB2⟩
    · have ek : k = R := by omega
      have EK := Lib.hid ek
      clear ek
      go_wp2
      go_ret
      exact ⟨by first | rfl | rw [if_neg (show ¬ R < L.length by have := EK.out; omega)], hB⟩
theorem conBrd (A : Option Addr) (c v : Nat) (x y : Int) (F : Option Addr) (n f : Nat) (L : List Int) (w : World) (V : VarT w v x y F n f) (hn : n ≤ 1048576) (hv : fvB x y n = true) (hin : ∀ t, t < L.length → 0 ≤ atI L t ∧ atI L t < n) (hr : RowV w w.heap.size A L.length (iv (atI L))) (hl : L.length ≤ 1048576) :
    Calls Try.prog 79 #[.slice A L.length c, .func (.func 86) #[] #[.pointer (some ⟨v, 0, none⟩)]] w fun e w' => e = .returned (.bool (hlB x y L)) ∧ Hid (Below w.heap.size w w') := by
  obtain ⟨R, hR, hall, hend, hcon⟩ := first_any L (fun c => (fun c : Int => brdB x y c) c)
  have H := Lib.hid (idxBrd A c v R x y F n f L w V hn hv hin hr hl hR hall hend)
  have N : Hid ((hlB x y L) = decide (R < L.length)) := hcon
  clear hr V hall hend hcon hv hin
  by_cases h : R < L.length
  · rw [if_pos h] at H
    go_enter Try.func79, Try.ntmps79
    go_wp2_with (go_at_call 122; refine H.out.mono ?_; rintro e w' ⟨rfl, hb⟩)
    go_ret
    exact ⟨by rw [N.out, decide_eq_true h]; first | rfl | simp, hb⟩
  · rw [if_neg h] at H
    go_enter Try.func79, Try.ntmps79
    go_wp2_with (go_at_call 122; refine H.out.mono ?_; rintro e w' ⟨rfl, hb⟩)
    go_ret
    exact ⟨by rw [N.out, decide_eq_false h]; rfl, hb⟩

theorem cloHol (A : Option Addr) (c v : Nat) (x y : Int) (F : Option Addr) (n f : Nat) (L : List Int) (w : World) (V : VarT w v x y F n f) (hn : n ≤ 1048576) (hv : fvB x y n = true) (hin : ∀ t, t < L.length → 0 ≤ atI L t ∧ atI L t < n) (hr : RowV w w.heap.size A L.length (iv (atI L))) (hl : L.length ≤ 1048576) :
    Calls Try.prog 85 #[.slice A L.length c, .pointer (some ⟨v, 0, none⟩)] w fun e w' => e = .returned (.bool (hlB x y L)) ∧ Hid (Below w.heap.size w w') := by
  have H := Lib.hid (conBrd A c v x y F n f L w V hn hv hin hr hl)
  clear hr V hin
  generalize hlB x y L = b at *
  generalize L.length = m at *
  go_enter Try.func85, Try.ntmps85
  go_wp2_with (go_at_call 79; refine H.out.mono ?_; rintro e w' ⟨rfl, hb⟩)
  go_ret
  exact ⟨rfl, hb⟩

end Go.Proofs.Ytgiblioilpedfaa
