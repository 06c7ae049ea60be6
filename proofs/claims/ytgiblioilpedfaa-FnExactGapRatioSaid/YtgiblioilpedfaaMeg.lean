/-
  What is proved here: sums of what is told; means and means of squares, of both packages, as walks. Conditions: at most 1048576 numbers, 256 where it is said.
-/
import Derived.Test.YtgiblioilpedfaaSum
import Derived.Test.YtgiblioilpedfaaDot
namespace Go.Proofs.Ytgiblioilpedfaa
open Flt Go.RowKit
set_option linter.unusedVariables false

/-- a row that holds what is told, place by place, as far as numbers go -/
structure Tl (f : Nat → Option Nat) (n : Nat) (ws : List Nat) : Prop where
  len : ws.length = n
  at' : ∀ j, j < n → can .f32 (at0 ws j) = f j

theorem Tl.self (zs : List Nat) : Tl (fun j => can .f32 (at0 zs j)) zs.length zs := ⟨rfl, fun _ _ => rfl⟩

theorem at0_put {ws : List Nat} {k u j : Nat} (hj : j < ws.length) : at0 (ws.set k u) j = if j = k then u else at0 ws j := by
  unfold at0
  rw [List.getD_eq_getElem?_getD, List.getD_eq_getElem?_getD, List.getElem?_set]
  by_cases e : j = k
  · subst e
    rw [if_pos rfl, if_pos rfl, if_pos hj]; rfl
  · rw [if_neg e, if_neg (fun h => e h.symm)]
theorem at0_lt {ws : List Nat} {j : Nat} (h : j < ws.length) : at0 ws j = ws[j] := by simp [at0, List.getD, h]
theorem at0_snoc {ws : List Nat} {u j : Nat} (hj : j < ws.length + 1) : at0 (ws ++ [u]) j = if j = ws.length then u else at0 ws j := by
  unfold at0
  rw [List.getD_eq_getElem?_getD, List.getD_eq_getElem?_getD]
  by_cases e : j = ws.length
  · subst e
    rw [if_pos rfl, List.getElem?_append_right (Nat.le_refl _)]; simp
  · rw [if_neg e, List.getElem?_append_left (by omega)]

theorem Tl.nil (f : Nat → Option Nat) : Tl f 0 [] := ⟨rfl, fun j hj => absurd hj (Nat.not_lt_zero _)⟩
theorem Tl.snoc {f : Nat → Option Nat} {k u : Nat} {ws : List Nat} (h : Tl f k ws) (hu : can .f32 u = f k) : Tl f (k + 1) (ws ++ [u]) :=
  ⟨by rw [List.length_append, h.len]; rfl, fun j hj => by
    rw [at0_snoc (by rw [h.len]; exact hj), h.len]
    by_cases e : j = k
    · rw [if_pos e, e]; exact hu
    · rw [if_neg e]; exact h.at' j (by omega)⟩

/-- the sum of what is told, in order -/
def sumT (f : Nat → Option Nat) : Nat → Option Nat
  | 0 => can .f32 0
  | k + 1 => fop .add .f32 (sumT f k) (f k)
def sqT (f : Nat → Option Nat) (j : Nat) : Option Nat := fop .mul .f32 (f j) (f j)
theorem sumF_take (zs : List Nat) : ∀ k, k ≤ zs.length → sumF (zs.take k) = sumT (fun j => can .f32 (at0 zs j)) k := by
  intro k
  induction k with
  | zero => intro _; rfl
  | succ k ih =>
    intro h
    rw [sum_step zs k (by omega), ih (by omega)]; rfl
theorem sumF_self (zs : List Nat) : sumF zs = sumT (fun j => can .f32 (at0 zs j)) zs.length := by
  have := sumF_take zs zs.length (Nat.le_refl _)
  rwa [List.take_of_length_le (Nat.le_refl _)] at this
theorem sumT_ext {f g : Nat → Option Nat} {n : Nat} (h : ∀ j, j < n → f j = g j) : sumT f n = sumT g n := by
  induction n with
  | zero => rfl
  | succ n ih =>
    show fop _ _ _ _ = fop _ _ _ _
    rw [ih (fun j hj => h j (by omega)), h n (by omega)]
theorem sumF_tl {f : Nat → Option Nat} {n : Nat} {ys : List Nat} (h : Tl f n ys) : sumF ys = sumT f n := by
  rw [sumF_self, h.len]
  exact sumT_ext fun j hj => h.at' j hj
theorem dotF_tl {f g : Nat → Option Nat} {n : Nat} {xs ys : List Nat} (h : Tl f n xs) (k : Tl g n ys) : ∀ m, m ≤ n → dotF xs ys m = sumT (fun j => fop .mul .f32 (f j) (g j)) m := by
  intro m
  induction m with
  | zero => intro _; rfl
  | succ m ih =>
    intro hm
    show fop _ _ _ _ = fop _ _ _ _
    rw [ih (by omega), h.at' m (by omega), k.at' m (by omega)]
/-- so many, as a number -/
def lenF (n : Nat) : Option Nat := can .f32 (floatOfInt .f32 (n : Int))
def meanF (zs : List Nat) : Option Nat := fop .quo .f32 (sumF zs) (lenF zs.length)

theorem specMean (A : Option Addr) (c : Nat) (zs : List Nat) (w : World) (Z : Nat) (hr : RowF w Z A zs) (hn : zs.length ≤ 1048576) :
    Calls Try.prog 142 #[.slice A zs.length c] w (FPost .f32 (meanF zs) w) := by
  have HR := Lib.hid hr
  clear hr
  go_enter Try.func142, Try.ntmps142
  go_wp2
  go_loopw [3, 4] (fun s i wr => ∃ k : Nat, k ≤ zs.length ∧ i = .int .i64 k ∧ ∃ n sw, wr = w.drewN n ∧ s = .float .f32 sw ∧ WF .f32 sw ∧ Hid (can .f32 sw = sumF (zs.take k))) (fun _ i _ => zs.length - (intOf i).toNat)
  case atStart => exact ⟨0, Nat.zero_le _, rfl, 0, _, rfl, rfl, ⟨by decide⟩, by show can .f32 0 = _; simp [sumF]⟩
  case round =>
    obtain ⟨k, hk, rfl, n, sw, rfl, rfl, hw, hs⟩ := hrel
    by_cases hlt : k < zs.length
    · obtain ⟨b, off, rfl, hb, hcell⟩ := HR.out (by omega)
      have hc := hcell k hlt
      have S := Lib.hid (sum_step zs k hlt)
      clear hcell
      go_wp2_with ((with_reducible refine upon_bin rfl ?_); intro _ _ _ _)
      rename_i r n2 wr er
      go_roundw
      case rel => exact ⟨k + 1, by omega, by go_num, _, _, rfl, rfl, wr, by show can .f32 r = _; rw [er.out, hs.out, S.out]⟩
      case measure => simp [intOf]; omega
    · have e : Hid (zs.take k = zs) := List.take_of_length_le (by omega)
      go_wp2_with ((with_reducible refine upon_bin rfl ?_); intro r n2 wf er)
      go_ret
      exact fpost (by rw [er.out, hs.out, e.out]; rfl) wf
theorem implMean (A : Option Addr) (c : Nat) (zs : List Nat) (w : World) (Z : Nat) (hr : RowF w Z A zs) (hn : zs.length ≤ 256) :
    Calls Try.prog 146 #[.slice A zs.length c] w (FPost .f32 (meanF zs) w) := by
  have H := implSumN A c zs w Z hr (by omega)
  rw [if_pos hn, decide_eq_true hn] at H
  have HS := Lib.hid H
  clear hr H
  go_enter Try.func146, Try.ntmps146
  go_wp2_with (first | (go_at_call 186; refine HS.out.mono ?_; rintro e w' ⟨g, n, rfl, rfl, hc⟩) | ((with_reducible refine upon_bin rfl ?_); intro r n2 wf er))
  go_ret
  exact fpost (by rw [er.out, hc.out]; rfl) wf
theorem implMsq (A : Option Addr) (c : Nat) (zs : List Nat) (w : World) (Z : Nat) (hr : RowF w Z A zs) (hn : zs.length ≤ 256) :
    Calls Try.prog 147 #[.slice A zs.length c] w (FPost .f32 (fop .quo .f32 (dotF zs zs zs.length) (lenF zs.length)) w) := by
  have H := implDotN A A c c zs zs w Z hr hr (by omega)
  have F : Fit zs zs := ⟨hn, rfl⟩
  rw [if_pos F, decide_eq_true F] at H
  have HS := Lib.hid H
  clear hr H F
  go_enter Try.func147, Try.ntmps147
  go_wp2_with (first | (go_at_call 187; refine HS.out.mono ?_; rintro e w' ⟨g, n, rfl, rfl, hc⟩) | ((with_reducible refine upon_bin rfl ?_); intro r n2 wf er))
  go_ret
  exact fpost (by rw [er.out, hc.out]; rfl) wf

end Go.Proofs.Ytgiblioilpedfaa
