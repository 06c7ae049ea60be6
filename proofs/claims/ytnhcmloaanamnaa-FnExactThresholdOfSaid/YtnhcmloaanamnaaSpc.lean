/-
  What is proved here: whether a group has a cell in the first row, or in the last one, as the program tells it (slices.ContainsFunc), as walks. Conditions: a field; at most 1048576 cells.
-/
import Derived.Test.YtnhcmloaanamnaaSpp
import Derived.Test.YtnhcmloaanamnaaGcl
namespace Go.Proofs.Ytnhcmloaanamnaa
open Go.RowKit
set_option linter.unusedVariables false

theorem isAbv (x y c : Int) (F : Option Addr) (n f : Nat) (w : World) : Calls Try.prog 119 #[.agg #[.int .i64 x, .int .i64 y, .slice F n f], .int .i64 c] w fun e w' => e = .returned (.bool (decide (c < x))) ∧ Hid (Below w.heap.size w w') := by
  have B0 := Lib.hid (below_var w x y F n f 66)
  go_enter Try.func119, Try.ntmps119
  go_wp2
  go_ret
  exact ⟨rfl, B0⟩
theorem isBlw (x y c : Int) (F : Option Addr) (n f : Nat) (hn : n ≤ 1048576) (hx : 0 ≤ x ∧ x ≤ 1048576) (w : World) : Calls Try.prog 121 #[.agg #[.int .i64 x, .int .i64 y, .slice F n f], .int .i64 c] w fun e w' => e = .returned (.bool (decide ((n : Int) - x ≤ c))) ∧ Hid (Below w.heap.size w w') := by
  have B0 := Lib.hid (below_var w x y F n f 66)
  have hw : IntKind.i64.wrap ((n : Int) - x) = (n : Int) - x := IntWalk.i64_in _ (by omega)
  go_enter Try.func121, Try.ntmps121
  go_wp2
  go_ret
  exact ⟨rfl, B0⟩

theorem cloAbv (v : Nat) (x y c : Int) (F : Option Addr) (n f : Nat) (w : World) (V : VarT w v x y F n f) (hn : n ≤ 1048576) (hx : 0 ≤ x ∧ x ≤ 1048576) : Calls Try.prog 118 #[.int .i64 c, .pointer (some ⟨v, 0, none⟩)] w fun e w' => e = .returned (.bool ((fun c : Int => decide (c < x)) c)) ∧ Hid (Below w.heap.size w w') := by
  obtain ⟨vl, v0, v1, v2⟩ := V
  have H := Lib.hid (isAbv x y c F n f w)
  clear hn hx
  go_enter Try.func118, Try.ntmps118
  go_wp2_with (go_at_call 119; refine H.out.mono ?_; rintro e w' ⟨rfl, hb⟩)
  go_ret
  exact ⟨rfl, hb⟩
theorem idxAbv (A : Option Addr) (c v R : Nat) (x y : Int) (F : Option Addr) (n f : Nat) (L : List Int) (w : World) (V : VarT w v x y F n f) (hn : n ≤ 1048576) (hx : 0 ≤ x ∧ x ≤ 1048576) (hr : RowV w w.heap.size A L.length (iv (atI L))) (hl : L.length ≤ 1048576) (hR : R ≤ L.length) (hall : ∀ t, t < R → ((fun c : Int => decide (c < x)) (atI L t)) = false) (hend : R < L.length → ((fun c : Int => decide (c < x)) (atI L R)) = true) :
    Calls Try.prog 129 #[.slice A L.length c, .func (.func 118) #[] #[.pointer (some ⟨v, 0, none⟩)]] w fun e w' => e = .returned (.int .i64 (if R < L.length then (R : Int) else -1)) ∧ Hid (Below w.heap.size w w') := by
  have HR := Lib.hid hr
  have HV := Lib.hid V
  have HALL := Lib.hid hall
  have HEND := Lib.hid hend
  have HCL := Lib.hid (fun c W (hW : Below w.heap.size w W) => cloAbv v x y c F n f W (V.below hW) hn hx)
  clear hr hall hend V hn hx
  go_enter Try.func129, Try.ntmps129
  go_wp2
  go_loopw [8] (fun i wr => ∃ k : Nat, k ≤ R ∧ i = .int .i64 k ∧ Hid (Below w.heap.size w wr)) (fun i _ => R - (intOf i).toNat)
  case atStart => exact ⟨0, Nat.zero_le _, rfl, Below.refl _ _⟩
  case round =>
    obtain ⟨k, hk, rfl, hB⟩ := hrel
    by_cases hkn : k < L.length
    · obtain ⟨b0, off, rfl, hb, hcell⟩ := (HR.out.below hB.out) (by omega)
      have hc := hcell k hkn
      unfold iv at hc
      clear hcell hb
      have HC := Lib.hid (HCL.out (atI L k) wr hB.out)
      have hal := fun h => HALL.out k h
      have hen : k = R → ((fun c : Int => decide (c < x)) (atI L k)) = true := fun h => by rw [h]; exact HEND.out (by omega)
      generalize atI L k = z at *
      by_cases hlt : k < R
      · have h0 := hal hlt
        try dsimp only at h0
        rw [h0] at HC
        clear h0 hal hen
        go_wp2_with (go_at_call 118; refine HC.out.mono ?_; rintro e w2 ⟨rfl, hb2⟩; have HB2 := Lib.hid (hB.out.trans (hb2.out.mono hB.out.size)); clear hb2)
        go_roundw
        case rel => exact ⟨k + 1, by omega, by go_num, HB2⟩
        case measure => simp [intOf]; omega
      · have ek : k = R := by omega
        have h0 := hen ek
        try dsimp only at h0
        rw [h0] at HC
        have EK := Lib.hid ek
        clear h0 hal hen ek
        go_wp2_with (go_at_call 118; refine HC.out.mono ?_; rintro e w2 ⟨rfl, hb2⟩; have HB2 := Lib.hid (hB.out.trans (hb2.out.mono hB.out.size)); clear hb2)
        go_ret
        exact ⟨by rw [EK.out]; rfl, HB2⟩
    · have ek : k = R := by omega
      have EK := Lib.hid ek
      clear ek
      go_wp2
      go_ret
      exact ⟨by first | rfl | rw [if_neg (show ¬ R < L.length by have := EK.out; omega)], hB⟩
theorem conAbv (A : Option Addr) (c v : Nat) (x y : Int) (F : Option Addr) (n f : Nat) (L : List Int) (w : World) (V : VarT w v x y F n f) (hn : n ≤ 1048576) (hx : 0 ≤ x ∧ x ≤ 1048576) (hr : RowV w w.heap.size A L.length (iv (atI L))) (hl : L.length ≤ 1048576) :
    Calls Try.prog 117 #[.slice A L.length c, .func (.func 118) #[] #[.pointer (some ⟨v, 0, none⟩)]] w fun e w' => e = .returned (.bool (abvB x L)) ∧ Hid (Below w.heap.size w w') := by
  obtain ⟨R, hR, hall, hend, hcon⟩ := first_any L (fun c => (fun c : Int => decide (c < x)) c)
  have H := Lib.hid (idxAbv A c v R x y F n f L w V hn hx hr hl hR hall hend)
  have N : Hid ((abvB x L) = decide (R < L.length)) := hcon
  clear hr V hall hend hcon hn hx
  by_cases h : R < L.length
  · rw [if_pos h] at H
    go_enter Try.func117, Try.ntmps117
    go_wp2_with (go_at_call 129; refine H.out.mono ?_; rintro e w' ⟨rfl, hb⟩)
    go_ret
    exact ⟨by rw [N.out, decide_eq_true h]; first | rfl | simp, hb⟩
  · rw [if_neg h] at H
    go_enter Try.func117, Try.ntmps117
    go_wp2_with (go_at_call 129; refine H.out.mono ?_; rintro e w' ⟨rfl, hb⟩)
    go_ret
    exact ⟨by rw [N.out, decide_eq_false h]; rfl, hb⟩

theorem cloBlw (v : Nat) (x y c : Int) (F : Option Addr) (n f : Nat) (w : World) (V : VarT w v x y F n f) (hn : n ≤ 1048576) (hx : 0 ≤ x ∧ x ≤ 1048576) : Calls Try.prog 120 #[.int .i64 c, .pointer (some ⟨v, 0, none⟩)] w fun e w' => e = .returned (.bool ((fun c : Int => decide ((n : Int) - x ≤ c)) c)) ∧ Hid (Below w.heap.size w w') := by
  obtain ⟨vl, v0, v1, v2⟩ := V
  have H := Lib.hid (isBlw x y c F n f hn hx w)
  clear hn hx
  go_enter Try.func120, Try.ntmps120
  go_wp2_with (go_at_call 121; refine H.out.mono ?_; rintro e w' ⟨rfl, hb⟩)
  go_ret
  exact ⟨rfl, hb⟩
theorem idxBlw (A : Option Addr) (c v R : Nat) (x y : Int) (F : Option Addr) (n f : Nat) (L : List Int) (w : World) (V : VarT w v x y F n f) (hn : n ≤ 1048576) (hx : 0 ≤ x ∧ x ≤ 1048576) (hr : RowV w w.heap.size A L.length (iv (atI L))) (hl : L.length ≤ 1048576) (hR : R ≤ L.length) (hall : ∀ t, t < R → ((fun c : Int => decide ((n : Int) - x ≤ c)) (atI L t)) = false) (hend : R < L.length → ((fun c : Int => decide ((n : Int) - x ≤ c)) (atI L R)) = true) :
    Calls Try.prog 129 #[.slice A L.length c, .func (.func 120) #[] #[.pointer (some ⟨v, 0, none⟩)]] w fun e w' => e = .returned (.int .i64 (if R < L.length then (R : Int) else -1)) ∧ Hid (Below w.heap.size w w') := by
  have HR := Lib.hid hr
  have HV := Lib.hid V
  have HALL := Lib.hid hall
  have HEND := Lib.hid hend
  have HCL := Lib.hid (fun c W (hW : Below w.heap.size w W) => cloBlw v x y c F n f W (V.below hW) hn hx)
  clear hr hall hend V hn hx
  go_enter Try.func129, Try.ntmps129
  go_wp2
  go_loopw [8] (fun i wr => ∃ k : Nat, k ≤ R ∧ i = .int .i64 k ∧ Hid (Below w.heap.size w wr)) (fun i _ => R - (intOf i).toNat)
  case atStart => exact ⟨0, Nat.zero_le _, rfl, Below.refl _ _⟩
  case round =>
    obtain ⟨k, hk, rfl, hB⟩ := hrel
    by_cases hkn : k < L.length
    · obtain ⟨b0, off, rfl, hb, hcell⟩ := (HR.out.below hB.out) (by omega)
      have hc := hcell k hkn
      unfold iv at hc
      clear hcell hb
      have HC := Lib.hid (HCL.out (atI L k) wr hB.out)
      have hal := fun h => HALL.out k h
      have hen : k = R → ((fun c : Int => decide ((n : Int) - x ≤ c)) (atI L k)) = true := fun h => by rw [h]; exact HEND.out (by omega)
      generalize atI L k = z at *
      by_cases hlt : k < R
      · have h0 := hal hlt
        try dsimp only at h0
        rw [h0] at HC
        clear h0 hal hen
        go_wp2_with (go_at_call 120; refine HC.out.mono ?_; rintro e w2 ⟨rfl, hb2⟩; have HB2 := Lib.hid (hB.out.trans (hb2.out.mono hB.out.size)); clear hb2)
        go_roundw
        case rel => exact ⟨k + 1, by omega, by go_num, HB2⟩
        case measure => simp [intOf]; omega
      · have ek : k = R := by omega
        have h0 := hen ek
        try dsimp only at h0
        rw [h0] at HC
        have EK := Lib.hid ek
        clear h0 hal hen ek
        go_wp2_with (go_at_call 120; refine HC.out.mono ?_; rintro e w2 ⟨rfl, hb2⟩; have HB2 := Lib.hid (hB.out.trans (hb2.out.mono hB.out.size)); clear hb2)
        go_ret
        exact ⟨by rw [EK.out]; rfl, HB2⟩
    · have ek : k = R := by omega
      have EK := Lib.hid ek
      clear ek
      go_wp2
      go_ret
      exact ⟨by first | rfl | rw [if_neg (show ¬ R < L.length by have := EK.out; omega)], hB⟩
theorem conBlw (A : Option Addr) (c v : Nat) (x y : Int) (F : Option Addr) (n f : Nat) (L : List Int) (w : World) (V : VarT w v x y F n f) (hn : n ≤ 1048576) (hx : 0 ≤ x ∧ x ≤ 1048576) (hr : RowV w w.heap.size A L.length (iv (atI L))) (hl : L.length ≤ 1048576) :
    Calls Try.prog 117 #[.slice A L.length c, .func (.func 120) #[] #[.pointer (some ⟨v, 0, none⟩)]] w fun e w' => e = .returned (.bool (blwB x n L)) ∧ Hid (Below w.heap.size w w') := by
  obtain ⟨R, hR, hall, hend, hcon⟩ := first_any L (fun c => (fun c : Int => decide ((n : Int) - x ≤ c)) c)
  have H := Lib.hid (idxBlw A c v R x y F n f L w V hn hx hr hl hR hall hend)
  have N : Hid ((blwB x n L) = decide (R < L.length)) := hcon
  clear hr V hall hend hcon hn hx
  by_cases h : R < L.length
  · rw [if_pos h] at H
    go_enter Try.func117, Try.ntmps117
    go_wp2_with (go_at_call 129; refine H.out.mono ?_; rintro e w' ⟨rfl, hb⟩)
    go_ret
    exact ⟨by rw [N.out, decide_eq_true h]; first | rfl | simp, hb⟩
  · rw [if_neg h] at H
    go_enter Try.func117, Try.ntmps117
    go_wp2_with (go_at_call 129; refine H.out.mono ?_; rintro e w' ⟨rfl, hb⟩)
    go_ret
    exact ⟨by rw [N.out, decide_eq_false h]; rfl, hb⟩

end Go.Proofs.Ytnhcmloaanamnaa
