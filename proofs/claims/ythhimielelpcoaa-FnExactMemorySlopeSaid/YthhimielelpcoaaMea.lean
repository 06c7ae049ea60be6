/-
  What is proved here: sums of what is told; means and means of squares, of both packages, as walks; roots. Conditions: at most 1048576 numbers, 256 where it is said.
-/
import Derived.Test.YthhimielelpcoaaApp
import Derived.Test.YthhimielelpcoaaDot
import Derived.Test.YthhimielelpcoaaRoot
namespace Go.Proofs.Ythhimielelpcoaa
open Flt Go.RowKit
set_option linter.unusedVariables false

/-- the sum of what is told, in order -/
def sumT (f : Nat → Option Nat) : Nat → Option Nat
  | 0 => can .f32 0
  | k + 1 => fop .add .f32 (sumT f k) (f k)
def sqT (f : Nat → Option Nat) (j : Nat) : Option Nat := fop .mul .f32 (f j) (f j)
theorem sumF_take (zs : List Nat) : ∀ k, k ≤ zs.length → sumF (zs.take k) = sumT (fun j => can .f32 (at0 zs j)) k := by
  intro k
  induction k with
  | zero => intro _; rfl
  | succ k ih =>
    intro h
    rw [sum_step zs k (by omega), ih (by omega)]; rfl
theorem sumF_self (zs : List Nat) : sumF zs = sumT (fun j => can .f32 (at0 zs j)) zs.length := by
  have := sumF_take zs zs.length (Nat.le_refl _)
  rwa [List.take_of_length_le (Nat.le_refl _)] at this
theorem sumT_ext {f g : Nat → Option Nat} {n : Nat} (h : ∀ j, j < n → f j = g j) : sumT f n = sumT g n := by
  induction n with
  | zero => rfl
  | succ n ih =>
    show fop _ _ _ _ = fop _ _ _ _
    rw [ih (fun j hj => h j (by omega)), h n (by omega)]
theorem sumF_tl {f : Nat → Option Nat} {n : Nat} {ys : List Nat} (h : Tl f n ys) : sumF ys = sumT f n := by
  rw [sumF_self, h.len]
  exact sumT_ext fun j hj => h.at' j hj
theorem dotF_tl {f g : Nat → Option Nat} {n : Nat} {xs ys : List Nat} (h : Tl f n xs) (k : Tl g n ys) : ∀ m, m ≤ n → dotF xs ys m = sumT (fun j => fop .mul .f32 (f j) (g j)) m := by
  intro m
  induction m with
  | zero => intro _; rfl
  | succ m ih =>
    intro hm
    show fop _ _ _ _ = fop _ _ _ _
    rw [ih (by omega), h.at' m (by omega), k.at' m (by omega)]
/-- so many, as a number -/
def lenF (n : Nat) : Option Nat := can .f32 (floatOfInt .f32 (n : Int))
def meanF (zs : List Nat) : Option Nat := fop .quo .f32 (sumF zs) (lenF zs.length)

theorem specMean (A : Option Addr) (c : Nat) (zs : List Nat) (w : World) (Z : Nat) (hr : RowF w Z A zs) (hn : zs.length ≤ 1048576) :
    Calls Try.prog 71 #[.slice A zs.length c] w (FPost .f32 (meanF zs) w) := by
  have HR := Lib.hid hr
  clear hr
  go_enter Try.func71, Try.ntmps71
  go_wp2
  go_loopw [3, 4] (fun s i wr => ∃ k : Nat, k ≤ zs.length ∧ i = .int .i64 k ∧ ∃ n sw, wr = w.drewN n ∧ s = .float .f32 sw ∧ WF .f32 sw ∧ Hid (can .f32 sw = sumF (zs.take k))) (fun _ i _ => zs.length - (intOf i).toNat)
  case atStart => exact ⟨0, Nat.zero_le _, rfl, 0, _, rfl, rfl, ⟨by decide⟩, by show can .f32 0 = _; simp [sumF]⟩
  case round =>
    obtain ⟨k, hk, rfl, n, sw, rfl, rfl, hw, hs⟩ := hrel
    by_cases hlt : k < zs.length
    · obtain ⟨b, off, rfl, hb, hcell⟩ := HR.out (by omega)
      have hc := hcell k hlt
      have S := Lib.hid (sum_step zs k hlt)
      clear hcell
      go_wp2_with ((with_reducible refine upon_bin rfl ?_); intro _ _ _ _)
      rename_i r n2 wr er
      go_roundw
      case rel => exact ⟨k + 1, by omega, by go_num, _, _, rfl, rfl, wr, by show can .f32 r = _; rw [er.out, hs.out, S.out]⟩
      case measure => simp [intOf]; omega
    · have e : Hid (zs.take k = zs) := List.take_of_length_le (by omega)
      go_wp2_with ((with_reducible refine upon_bin rfl ?_); intro r n2 wf er)
      go_ret
      exact fpost (by rw [er.out, hs.out, e.out]; rfl) wf
theorem implMean (A : Option Addr) (c : Nat) (zs : List Nat) (w : World) (Z : Nat) (hr : RowF w Z A zs) (hn : zs.length ≤ 256) :
    Calls Try.prog 121 #[.slice A zs.length c] w (FPost .f32 (meanF zs) w) := by
  have H := implSumN A c zs w Z hr (by omega)
  rw [if_pos hn, decide_eq_true hn] at H
  have HS := Lib.hid H
  clear hr H
  go_enter Try.func121, Try.ntmps121
  go_wp2_with (first | (go_at_call 157; refine HS.out.mono ?_; rintro e w' ⟨g, n, rfl, rfl, hc⟩) | ((with_reducible refine upon_bin rfl ?_); intro r n2 wf er))
  go_ret
  exact fpost (by rw [er.out, hc.out]; rfl) wf
theorem implMsq (A : Option Addr) (c : Nat) (zs : List Nat) (w : World) (Z : Nat) (hr : RowF w Z A zs) (hn : zs.length ≤ 256) :
    Calls Try.prog 153 #[.slice A zs.length c] w (FPost .f32 (fop .quo .f32 (dotF zs zs zs.length) (lenF zs.length)) w) := by
  have H := implDotN A A c c zs zs w Z hr hr (by omega)
  have F : Fit zs zs := ⟨hn, rfl⟩
  rw [if_pos F, decide_eq_true F] at H
  have HS := Lib.hid H
  clear hr H F
  go_enter Try.func153, Try.ntmps153
  go_wp2_with (first | (go_at_call 182; refine HS.out.mono ?_; rintro e w' ⟨g, n, rfl, rfl, hc⟩) | ((with_reducible refine upon_bin rfl ?_); intro r n2 wf er))
  go_ret
  exact fpost (by rw [er.out, hc.out]; rfl) wf
theorem specSqrt (x : Nat) (w : World) : Calls Try.prog 113 #[.float .f32 x] w (FPost .f32 (nar (fsqrt (wid (can .f32 x)))) w) := by
  go_enter Try.func113, Try.ntmps113
  go_wp2_with (first | ((with_reducible refine upon_sqrt ?_); intro _ _ _ _) | ((with_reducible refine upon_wid ?_ ?_ ?_); rotate_left 2; intro _ _ _ _; rotate_left 1; kernel_rfl; kernel_rfl) | ((with_reducible refine upon_nar ?_ ?_ (ok_root (by assumption) (by assumption)) ?_); rotate_left 2; intro _ _ _ _; rotate_left 1; kernel_rfl; kernel_rfl) | go_in)
  rename_i r n1 wr er s n2 ws es t n3 wt et
  go_ret
  exact fpost (by rw [et.out, es.out, er.out]) wt
/-- the root of what is told -/
def rootF (c : Option Nat) : Option Nat := nar (fsqrt (wid c))
theorem mpost_of {c : Option Nat} {b : Bool} {w w0 : World} {e : Ending} {w' : World} (h : VPost c b w e w') (hb : Below w0.heap.size w0 w) : MPost c b w0 e w' := by
  obtain ⟨g, n, h1, h2, h3, h4⟩ := h
  subst h2
  exact ⟨g, h1, h3, h4, belowN hb⟩
theorem mpost_no {c : Option Nat} {b : Bool} {w w' : World} (hc : c = some 0) (hb : b = false) (h : Below w.heap.size w w') : MPost c b w (.returned (.tuple #[.float .f32 0, .bool false])) w' := by
  subst hc hb
  exact ⟨0, rfl, by show can .f32 0 = some 0; decide, ⟨by decide⟩, h⟩
theorem mpost_yes {c : Option Nat} {b : Bool} {g : Nat} {w w' : World} (hc : can .f32 g = c) (hb : b = true) (hw : WF .f32 g) (h : Below w.heap.size w w') : MPost c b w (.returned (.tuple #[.float .f32 g, .bool true])) w' := by
  subst hb
  exact ⟨g, rfl, hc, hw, h⟩

end Go.Proofs.Ythhimielelpcoaa
