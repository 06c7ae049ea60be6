/-
  What is proved here: what RangeOverSpread reckons, in plain words; ranges of rows with infinities, of the program, as walks. Conditions: at most 1048576 numbers.
-/
import Derived.Test.YthhimielelpcoaaInx
import Derived.Test.YthhimielelpcoaaRnw
import Derived.Test.YthhimielelpcoaaSlp
namespace Go.Proofs.Ythhimielelpcoaa
open Flt Go.RowKit
set_option linter.unusedVariables false

/-- by how much a number passes the mean -/
def exT (zs : List Nat) (j : Nat) : Option Nat := fop .sub .f32 (can .f32 (at0 zs j)) (meanF zs)
/-- the sums of these, told -/
def suT (zs : List Nat) : Nat → Option Nat := sumT (exT zs)
def rosR (zs : List Nat) : Option Nat := rootF (fop .quo .f32 (sumT (sqT (exT zs)) zs.length) (lenF zs.length))
def abvO (c : Option Nat) : Bool := match c with | some x => abvB x | none => false
theorem abvO_can (x : Nat) : abvO (can .f32 x) = abvB x := by
  cases h : nanW .f32 x with
  | false => rw [can_num h]; rfl
  | true =>
    rw [can_nan h]
    have hf : finB .f32 x = false := by
      cases e : finB .f32 x with
      | false => rfl
      | true => rw [nanW_of_le (Nat.le_of_lt (of_decide_eq_true e))] at h; cases h
    unfold abvB
    rw [hf]; rfl
def toldW (f : Nat → Option Nat) (n : Nat) : List Nat := (List.range n).map fun j => (f j).getD 0
theorem told_eq {f : Nat → Option Nat} {n : Nat} {ws : List Nat} (h : Tl f n ws) (hf : finT f n = true) : ws = toldW f n := List.ext_getElem (by simp [h.len, toldW]) fun j h1 h2 => by
  have hj : j < n := by rw [← h.len]; exact h1
  have e := h.at' j hj
  have g := List.all_eq_true.1 hf j (List.mem_range.2 hj)
  rw [at0_lt h1] at e
  cases hfj : f j with
  | none => rw [hfj] at g; cases g
  | some x =>
    rw [hfj] at e
    obtain ⟨_, e2⟩ := can_eq_some e
    simp [toldW, hfj, e2]
def rosC (zs : List Nat) : Option Nat := fop .quo .f32 (rngC (toldW (suT zs) (zs.length + 1))) (rosR zs)
def rosOk (zs : List Nat) : Bool := abvO (rosR zs) && finT (suT zs) (zs.length + 1)

theorem good0 : GoodO (can .f32 0) := ⟨0, by decide, .inl (by decide)⟩
theorem abv_fin {c : Option Nat} (h : abvO c = true) : finO c = true := by
  cases c with
  | none => cases h
  | some x =>
    have h : (finB .f32 x && (FloatKind.f32.format.order x 0 == some .gt)) = true := h
    rw [Bool.and_eq_true] at h
    exact h.1
/-- where the spread is a number above nothing, no sum is a not-a-number -/
theorem su_good {zs : List Nat} (h : abvO (rosR zs) = true) : ∀ k, k ≤ zs.length → GoodO (suT zs k) := by
  have hs := fin_sumT (fin_quo (fin_root (abv_fin h)))
  intro k
  induction k with
  | zero => intro _; exact good0
  | succ k ih =>
    intro hk
    exact good_add (ih (by omega)) (fin_mul (hs k (by omega)))
theorem told_good {f : Nat → Option Nat} {n : Nat} {ws : List Nat} (h : Tl f n ws) (hg : ∀ k, k < n → GoodO (f k)) : ∀ j, j < ws.length → Good (at0 ws j) := fun j hj => by
  rw [h.len] at hj
  obtain ⟨x, hx, g⟩ := hg j hj
  have e := h.at' j hj
  rw [hx] at e
  rw [(can_eq_some e).2]
  exact g
def rngG (zs : List Nat) : Option Nat := fop .sub .f32 (can .f32 (mxW zs zs.length)) (can .f32 (mnW zs zs.length))

theorem max_good (A : Option Addr) (c : Nat) (zs : List Nat) (w : World) (Z : Nat) (hr : RowF w Z A zs) (hn : zs.length ≤ 1048576) (h0 : 0 < zs.length) (hg : ∀ j, j < zs.length → Good (at0 zs j)) :
    Calls Try.prog 183 #[.slice A zs.length c] w fun e w' => e = .returned (.float .f32 (mxW zs zs.length)) ∧ w = w' := by
  obtain ⟨b, off, rfl, hb, hcell⟩ := hr h0
  have hc0 : w.cell? ⟨b, off, none⟩ = some (.float .f32 (at0 zs 0)) := hcell 0 h0
  have HC := Lib.hid hcell
  have HE := Lib.hid (good_ends hg h0)
  have HF := Lib.hid hg
  have L1 : Hid (mxW zs 1 = at0 zs 0) := mx2_self _
  clear hr hcell hb hg
  go_enter Try.func183, Try.ntmps183
  go_wp2
  clear hc0
  go_loop [3, 4] (fun l i => ∃ k : Nat, k ≤ zs.length ∧ 1 ≤ k ∧ i = .int .i64 k ∧ l = .float .f32 (mxW zs k)) (fun _ i => zs.length - (intOf i).toNat)
  case atStart => exact ⟨1, by omega, Nat.le_refl _, rfl, by rw [L1.out]⟩
  case round =>
    obtain ⟨k, hk, hk1, rfl, rfl⟩ := hrel
    by_cases hlt : k < zs.length
    · have hc := HC.out k hlt
      obtain ⟨o, ho⟩ := order_some (good_nan (HE.out k hk).1) (good_nan (HF.out k hlt))
      have hmx := run_max ho
      clear ho
      go_wp2
      go_round
      case rel => exact ⟨k + 1, by omega, by omega, by go_num, rfl⟩
      case measure => simp [intOf]; omega
    · have HK : Hid (k = zs.length) := by show k = zs.length; omega
      go_wp2
      go_ret
      exact ⟨by rw [HK.out]; rfl, rfl⟩
theorem min_good (A : Option Addr) (c : Nat) (zs : List Nat) (w : World) (Z : Nat) (hr : RowF w Z A zs) (hn : zs.length ≤ 1048576) (h0 : 0 < zs.length) (hg : ∀ j, j < zs.length → Good (at0 zs j)) :
    Calls Try.prog 184 #[.slice A zs.length c] w fun e w' => e = .returned (.float .f32 (mnW zs zs.length)) ∧ w = w' := by
  obtain ⟨b, off, rfl, hb, hcell⟩ := hr h0
  have hc0 : w.cell? ⟨b, off, none⟩ = some (.float .f32 (at0 zs 0)) := hcell 0 h0
  have HC := Lib.hid hcell
  have HE := Lib.hid (good_ends hg h0)
  have HF := Lib.hid hg
  have L1 : Hid (mnW zs 1 = at0 zs 0) := mn2_self _
  clear hr hcell hb hg
  go_enter Try.func184, Try.ntmps184
  go_wp2
  clear hc0
  go_loop [3, 4] (fun l i => ∃ k : Nat, k ≤ zs.length ∧ 1 ≤ k ∧ i = .int .i64 k ∧ l = .float .f32 (mnW zs k)) (fun _ i => zs.length - (intOf i).toNat)
  case atStart => exact ⟨1, by omega, Nat.le_refl _, rfl, by rw [L1.out]⟩
  case round =>
    obtain ⟨k, hk, hk1, rfl, rfl⟩ := hrel
    by_cases hlt : k < zs.length
    · have hc := HC.out k hlt
      obtain ⟨o, ho⟩ := order_some (good_nan (HE.out k hk).2.1) (good_nan (HF.out k hlt))
      have hmx := run_min ho
      clear ho
      go_wp2
      go_round
      case rel => exact ⟨k + 1, by omega, by omega, by go_num, rfl⟩
      case measure => simp [intOf]; omega
    · have HK : Hid (k = zs.length) := by show k = zs.length; omega
      go_wp2
      go_ret
      exact ⟨by rw [HK.out]; rfl, rfl⟩
theorem implRangeG (A : Option Addr) (c : Nat) (zs : List Nat) (w : World) (Z : Nat) (hr : RowF w Z A zs) (hn : zs.length ≤ 1048576) (h0 : 0 < zs.length) (hg : ∀ j, j < zs.length → Good (at0 zs j)) :
    Calls Try.prog 156 #[.slice A zs.length c] w (FPost .f32 (rngG zs) w) := by
  have H1 := Lib.hid (max_good A c zs w Z hr hn h0 hg)
  have H2 := Lib.hid (min_good A c zs w Z hr hn h0 hg)
  clear hr hg
  go_enter Try.func156, Try.ntmps156
  go_wp2_with (first | (go_at_call 183; refine H1.out.mono ?_; rintro e w' ⟨rfl, rfl⟩) | (go_at_call 184; refine H2.out.mono ?_; rintro e w' ⟨rfl, rfl⟩) | ((with_reducible refine upon_bin rfl ?_); intro r n wf er))
  go_ret
  exact fpost (by rw [er.out]; rfl) wf

/-- two rows that grow: the second one, behind a first that was made with one number -/
theorem own_behind (w : World) (n : Nat) (v : Value) : OwnA (((w.drewN n).alloc (.cells #[v] 43)).alloc (.cells #[] 43)) w.heap.size [] (w.heap.size + 1) 0 := by
  have e : ((w.drewN n).alloc (.cells #[v] 43)).heap.size = w.heap.size + 1 := by simp [World.drewN]
  have h : OwnA (((w.drewN n).alloc (.cells #[v] 43)).alloc (.cells #[] 43)) w.heap.size [] ((w.drewN n).alloc (.cells #[v] 43)).heap.size 0 := World.ownsRow_lit _ #[] 0 (by rw [e]; omega) (by decide) rfl
  rwa [e] at h
/-- an addition, whatever it gives, as a run that may draw -/
theorem add_run (x y : Nat) : ∃ (V : World → Nat) (n : Nat), (∀ W, (binOp .add 43 (.float .f32 x) (.float .f32 y)).run Try.prog W = .ok (.float .f32 (V W)) (W.drewN n)) ∧ ∀ W, can .f32 (V W) = fop .add .f32 (can .f32 x) (can .f32 y) := by
  cases h : floatBits .add .f32 x y with
  | some r => exact ⟨fun _ => r, 0, fun W => run_float_arith W .add 43 .f32 _ _ _ h, fun W => by rw [fop_can, h, can_num (floatBits_num h)]⟩
  | none =>
    refine ⟨fun W => (Question.nanBits .f32 x y).cut (W.tape W.drawn (.nanBits .f32 x y)), 1, fun W => ?_, fun W => ?_⟩
    · unfold floatBits at h
      simp only at h
      simp [binOp, Op.floatArith, h, Question.forced, World.drew_is_drewN]
    · rw [fop_can, h, can_nan (nan_cut .f32 x y _)]

end Go.Proofs.Ythhimielelpcoaa
