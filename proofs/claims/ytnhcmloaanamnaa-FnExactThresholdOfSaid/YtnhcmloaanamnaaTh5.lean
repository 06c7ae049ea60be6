/-
  What is proved here: sort.Search with ThresholdOf's closure, as a walk: the first place from which on it is true. Conditions: weights of a field, sorted.
-/
import Derived.Test.YtnhcmloaanamnaaTh4
namespace Go.Proofs.Ytnhcmloaanamnaa
open Flt Go.RowKit
set_option linter.unusedVariables false
set_option linter.unusedSimpArgs false

set_option maxHeartbeats 4000000 in
set_option maxRecDepth 1000000 in
theorem schThr (b1 b2 b3 b4 g : Nat) (x y : Int) (A : Option Addr) (c c2 : Nat) (zs : List Nat) (h : Nat → Nat) (w : World) (V : ThV w b1 b2 b3 b4 g x y A c c2 zs h) (hv : fvB x y zs.length = true) (hf : finAll zs = true) (hH : sEnd (gK zs) zs.length h) :
    Calls Try.prog 54 #[.int .i64 ((zs.length - 1 : Nat) : Int), .func (.func 55) #[] #[.pointer (some ⟨b1, 0, none⟩), .pointer (some ⟨b2, 0, none⟩), .pointer (some ⟨b3, 0, none⟩), .pointer (some ⟨b4, 0, none⟩)]] w fun e w' => ∃ f : Nat, e = .returned (.int .i64 ((f : Nat) : Int)) ∧ f < zs.length ∧ h f = thM x y zs ∧ Hid (Below w.heap.size w w') := by
  obtain ⟨⟨⟨hx1, hx2⟩, ⟨hy1, hy2⟩⟩, hnn, hn1, hn2⟩ := fvB_yes hv
  have HLast := Lib.hid (thC_last hx1 hy1 hnn hH (by omega))
  have HMono : Hid (∀ i j, i ≤ j → j < zs.length → thC x y zs (gK zs (h i)) = true → thC x y zs (gK zs (h j)) = true) := fun i j hij hj hi => thC_mono hx1 hnn (hH.le hij hj) hi
  have HC := Lib.hid (fun i (hi : i < zs.length) W (hW : Below w.heap.size w W) => cloThr b1 b2 b3 b4 g x y A c c2 zs h i W (V.below hW) hi hv hf hH.bd)
  have HTM : Hid (∀ f, f < zs.length → thC x y zs (gK zs (h f)) = true → (∀ i, i < f → thC x y zs (gK zs (h i)) = false) → h f = thM x y zs) := fun f hf hc hno => (thM_is hH hf hc hno).symm
  clear hx1 hx2 hy1 hy2 hnn hv hf hH V
  generalize hN : zs.length - 1 = N at *
  have HN : Hid (zs.length = N + 1) := by show _ = _; omega
  have hNb : N ≤ 256 := by omega
  clear hN hn1 hn2
  go_enter Try.func54, Try.ntmps54
  go_wp2_with fail
  go_loopw [5, 6] (fun a b wr => ∃ lo hi : Nat, a = .int .i64 ((lo : Nat) : Int) ∧ b = .int .i64 ((hi : Nat) : Int) ∧ lo ≤ hi ∧ hi ≤ N ∧ Hid (∀ i, i < lo → thC x y zs (gK zs (h i)) = false) ∧ Hid (hi < N → thC x y zs (gK zs (h hi)) = true) ∧ Hid (Below w.heap.size w wr)) (fun a b _ => (intOf b).toNat - (intOf a).toNat)
  case atStart => exact ⟨0, N, rfl, rfl, Nat.zero_le _, Nat.le_refl _, fun i hi => absurd hi (Nat.not_lt_zero _), fun hi => absurd hi (Nat.lt_irrefl _), Below.refl _ _⟩
  case round =>
    obtain ⟨lo, hi, rfl, rfl, hlh, hhN, hL, hT, hB⟩ := hrel
    by_cases hlt : lo < hi
    · have hm1 : (lo + hi) / 2 < hi := by omega
      have hm2 : lo ≤ (lo + hi) / 2 := by omega
      have hsh : ((lo : Int) + (hi : Int)) / 2 = (((lo + hi) / 2 : Nat) : Int) := by omega
      generalize (lo + hi) / 2 = m at *
      have HCM := Lib.hid (HC.out m (by rw [HN.out]; omega) wr hB.out)
      cases hc : thC x y zs (gK zs (h m)) with
      | true =>
        rw [hc] at HCM
        have HT2 : Hid (m < N → thC x y zs (gK zs (h m)) = true) := fun _ => hc
        clear hc
        go_wp2_with (go_at_call 55; refine HCM.out.mono ?_; rintro e w2 ⟨rfl, b5⟩; have HB2 := Lib.hid (hB.out.trans (b5.out.mono hB.out.size)); clear b5)
        go_roundw
        case rel => exact ⟨lo, m, rfl, rfl, hm2, by omega, hL, HT2, HB2⟩
        case measure => simp [intOf]; omega
      | false =>
        rw [hc] at HCM
        have HL2 : Hid (∀ i, i < m + 1 → thC x y zs (gK zs (h i)) = false) := fun i hi => by
          cases e : thC x y zs (gK zs (h i)) with
          | false => rfl
          | true => rw [HMono.out i m (by omega) (by rw [HN.out]; omega) e] at hc; cases hc
        clear hc
        go_wp2_with (go_at_call 55; refine HCM.out.mono ?_; rintro e w2 ⟨rfl, b5⟩; have HB2 := Lib.hid (hB.out.trans (b5.out.mono hB.out.size)); clear b5)
        go_roundw
        case rel => exact ⟨m + 1, hi, by go_num, rfl, by omega, hhN, HL2, hT, HB2⟩
        case measure => simp [intOf]; omega
    · have e : lo = hi := by omega
      subst e
      have HM : Hid (h lo = thM x y zs) := HTM.out lo (by rw [HN.out]; omega) (by
        by_cases e : lo < N
        · exact hT.out e
        · have e2 : lo = N := by omega
          rw [e2]; exact HLast.out) hL.out
      have hln : lo < zs.length := by rw [HN.out]; omega
      go_wp2_with fail
      go_ret
      exact ⟨lo, rfl, hln, HM.out, hB⟩
end Go.Proofs.Ytnhcmloaanamnaa
