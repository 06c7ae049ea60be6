/-
  What is proved here: places of cells, their sums and powers as words, and the small functions that reckon with them, of both packages, as walks. Conditions: as each theorem names.
-/
import Derived.Test.YtgiblioilpedfaaMdf
import Derived.Test.YtgiblioilpedfaaFcn
import Derived.Test.YtgiblioilpedfaaGrd
namespace Go.Proofs.Ytgiblioilpedfaa
open Flt Go.RowKit
set_option linter.unusedVariables false

/-- where a cell lies, as words -/
def plX (x k : Int) : Nat := floatOfInt .f32 (k % x)
def plY (x k : Int) : Nat := floatOfInt .f32 (k / x)
theorem mem_fulL {p : Nat → Bool} {k : Nat} {c : Int} (h : c ∈ fulL p k) : ∃ j : Nat, j < k ∧ c = (j : Int) := by
  induction k with
  | zero => cases h
  | succ k ih =>
    cases hp : p k with
    | true =>
      rw [fulL_yes hp, List.mem_append, List.mem_singleton] at h
      rcases h with h | h
      · obtain ⟨j, h1, h2⟩ := ih h; exact ⟨j, by omega, h2⟩
      · exact ⟨k, by omega, h⟩
    | false =>
      rw [fulL_no hp] at h
      obtain ⟨j, h1, h2⟩ := ih h; exact ⟨j, by omega, h2⟩
/-- sums of columns and of rows -/
def lsA (W : Nat) (L : List Int) : Nat := L.foldl (fun s c => s + c.toNat % W) 0
def lsB (W : Nat) (L : List Int) : Nat := L.foldl (fun s c => s + c.toNat / W) 0
theorem lsA_snoc (W : Nat) (L : List Int) (c : Int) : lsA W (L ++ [c]) = lsA W L + c.toNat % W := by unfold lsA; rw [List.foldl_append]; rfl
theorem lsB_snoc (W : Nat) (L : List Int) (c : Int) : lsB W (L ++ [c]) = lsB W L + c.toNat / W := by unfold lsB; rw [List.foldl_append]; rfl
theorem fold_le (f : Int → Nat) : ∀ (L : List Int) (s : Nat), (∀ c ∈ L, f c ≤ 15) → L.foldl (fun s c => s + f c) s ≤ s + 15 * L.length := by
  intro L
  induction L with
  | nil => intro s _; simp
  | cons a L ih =>
    intro s h
    have h1 := ih (s + f a) fun c hc => h c (List.mem_cons_of_mem _ hc)
    have h2 := h a List.mem_cons_self
    rw [List.foldl_cons, List.length_cons]
    omega
theorem lsA_le {W : Nat} {L : List Int} (h : ∀ c ∈ L, c.toNat % W ≤ 15) : lsA W L ≤ 15 * L.length := by have := fold_le (fun c => c.toNat % W) L 0 h; unfold lsA; omega
theorem lsB_le {W : Nat} {L : List Int} (h : ∀ c ∈ L, c.toNat / W ≤ 15) : lsB W L ≤ 15 * L.length := by have := fold_le (fun c => c.toNat / W) L 0 h; unfold lsB; omega
theorem plX_nat (W : Nat) (c : Int) (h : 0 ≤ c) : plX (W : Int) c = N .f32 false (c.toNat % W) := by
  unfold plX
  obtain ⟨k, rfl⟩ := Int.eq_ofNat_of_zero_le h
  rw [← int_word]; rfl
theorem plY_nat (W : Nat) (c : Int) (h : 0 ≤ c) : plY (W : Int) c = N .f32 false (c.toNat / W) := by
  unfold plY
  obtain ⟨k, rfl⟩ := Int.eq_ofNat_of_zero_le h
  rw [← int_word]; rfl
/-- the sum of what is told of each cell -/
def smO (q : Int → Nat) (L : List Int) : Option Nat := L.foldl (fun s c => fop .add .f32 s (can .f32 (q c))) (can .f32 0)
theorem smO_snoc (q : Int → Nat) (L : List Int) (c : Int) : smO q (L ++ [c]) = fop .add .f32 (smO q L) (can .f32 (q c)) := by unfold smO; rw [List.foldl_append]; rfl
/-- the power of a difference of two complex numbers, as words -/
structure PwF (a b mx my dx dy q : Nat) : Prop where
  sx : floatBits .sub .f32 a mx = some dx
  sy : floatBits .sub .f32 b my = some dy
  pw : ∃ X Y s t r, floatToFloatBits .f32 dx .f64 = some X ∧ floatToFloatBits .f32 dy .f64 = some Y ∧ floatBits .mul .f64 X X = some s ∧ floatBits .mul .f64 Y Y = some t ∧ floatBits .add .f64 s t = some r ∧ floatToFloatBits .f64 r .f32 = some q
theorem mid_ex (W : Nat) (L : List Int) (hl : 1 ≤ L.length) (hl2 : L.length ≤ 256) (h1 : ∀ c ∈ L, c.toNat % W ≤ 15) (h2 : ∀ c ∈ L, c.toNat / W ≤ 15) :
    ∃ (mx my : Nat) (dx dy q : Int → Nat), floatBits .quo .f32 (N .f32 false (lsA W L)) (floatOfInt .f32 (L.length : Int)) = some mx ∧ floatBits .quo .f32 (N .f32 false (lsB W L)) (floatOfInt .f32 (L.length : Int)) = some my ∧ ((∃ X, floatToFloatBits .f32 mx .f64 = some X) ∧ ∃ Y, floatToFloatBits .f32 my .f64 = some Y) ∧
      ∀ c, 0 ≤ c → c.toNat % W ≤ 15 → c.toNat / W ≤ 15 → PwF (plX (W : Int) c) (plY (W : Int) c) mx my (dx c) (dy c) (q c) := by
  have ha := lsA_le h1
  have hb := lsB_le h2
  rw [int_word]
  have g := Gn_int L.length hl (by omega)
  obtain ⟨mx, e1, f1⟩ := (Fn_int (lsA W L) (by omega)).quo g (by omega) (by omega)
  obtain ⟨my, e2, f2⟩ := (Fn_int (lsB W L) (by omega)).quo g (by omega) (by omega)
  have hex : ∀ c : Int, ∃ t : Nat × Nat × Nat, 0 ≤ c → c.toNat % W ≤ 15 → c.toNat / W ≤ 15 → PwF (plX (W : Int) c) (plY (W : Int) c) mx my t.1 t.2.1 t.2.2 := fun c => by
    by_cases hc : 0 ≤ c ∧ c.toNat % W ≤ 15 ∧ c.toNat / W ≤ 15
    · obtain ⟨h0, h3, h4⟩ := hc
      rw [plX_nat W c h0, plY_nat W c h0]
      obtain ⟨dx, e3, f3⟩ := (Fn_int (c.toNat % W) (by omega)).sub (f1.mono (E' := 12) (by omega)) (by omega) (by omega)
      obtain ⟨dy, e4, f4⟩ := (Fn_int (c.toNat / W) (by omega)).sub (f2.mono (E' := 12) (by omega)) (by omega) (by omega)
      obtain ⟨X, Y, s, t, r, q, k1, k2, k3, k4, k5, k6⟩ := pow_ex f3 f4 (by omega) (by omega)
      exact ⟨(dx, dy, q), fun _ _ _ => ⟨e3, e4, X, Y, s, t, r, k1, k2, k3, k4, k5, k6⟩⟩
    · exact ⟨(0, 0, 0), fun a b d => absurd ⟨a, b, d⟩ hc⟩
  obtain ⟨F, hF⟩ := Classical.axiomOfChoice hex
  obtain ⟨X, hX, _⟩ := f1.wide (by omega) (by omega)
  obtain ⟨Y, hY, _⟩ := f2.wide (by omega) (by omega)
  exact ⟨mx, my, fun c => (F c).1, fun c => (F c).2.1, fun c => (F c).2.2, e1, e2, ⟨⟨X, hX⟩, ⟨Y, hY⟩⟩, hF⟩

theorem run_w32 {x y : Nat} (h : floatToFloatBits .f32 x .f64 = some y) : ∀ W, (convert 25 57 (.float .f32 x)).run Try.prog W = .ok (.float .f64 y) W :=
  fun W => run_convert_float_float W 25 57 .f32 .f64 x y (by kernel_rfl) (by kernel_rfl) h
theorem run_n64 {x y : Nat} (h : floatToFloatBits .f64 x .f32 = some y) : ∀ W, (convert 57 25 (.float .f64 x)).run Try.prog W = .ok (.float .f32 y) W :=
  fun W => run_convert_float_float W 57 25 .f64 .f32 x y (by kernel_rfl) (by kernel_rfl) h
theorem run_f64 {op : BinOp} {x y r : Nat} (h : floatBits op .f64 x y = some r) : ∀ W, (binOp op 57 (.float .f64 x) (.float .f64 y)).run Try.prog W = .ok (.float .f64 r) W :=
  fun W => run_float_arith W op 57 .f64 _ _ _ h
theorem run_f32 {op : BinOp} {x y r : Nat} (h : floatBits op .f32 x y = some r) : ∀ W, (binOp op 25 (.float .f32 x) (.float .f32 y)).run Try.prog W = .ok (.float .f32 r) W :=
  fun W => run_float_arith W op 25 .f32 _ _ _ h
theorem run_cs {op : BinOp} (hop : op = .add ∨ op = .sub) {a b c d r s : Nat} (h1 : floatBits op .f32 a c = some r) (h2 : floatBits op .f32 b d = some s) : ∀ W, (binOp op 51 (.complex .f32 a b) (.complex .f32 c d)).run Try.prog W = .ok (.complex .f32 r s) W :=
  fun W => run_complex_sum W op hop 51 .f32 a b c d r s (by unfold cSumBits; rw [h1, h2]; rfl)

theorem specPow {a b mx my dx dy q : Nat} (h : PwF a b mx my dx dy q) (w : World) :
    Calls Try.prog 90 #[.complex .f32 dx dy] w fun e w' => e = .returned (.float .f32 q) ∧ w = w' := by
  obtain ⟨_, _, X, Y, s, t, r, k1, k2, k3, k4, k5, k6⟩ := h
  have c1 : Hid (∀ W, Calls Try.prog 163 #[.complex .f32 dx dy] W fun e w' => e = .returned (.float .f64 r) ∧ W = w') := fun W => by
    have q1 := run_w32 k1
    have q2 := run_w32 k2
    have q3 := run_f64 k3
    have q4 := run_f64 k4
    have q5 := run_f64 k5
    clear k1 k2 k3 k4 k5 k6
    go_enter Try.func163, Try.ntmps163
    go_wp2_with fail
    go_ret
    exact ⟨rfl, rfl⟩
  have c2 : Hid (∀ W, Calls Try.prog 162 #[.float .f64 r] W fun e w' => e = .returned (.float .f32 q) ∧ W = w') := fun W => by
    have q1 := run_n64 k6
    clear k1 k2 k3 k4 k5 k6 c1
    go_enter Try.func162, Try.ntmps162
    go_wp2_with fail
    go_ret
    exact ⟨rfl, rfl⟩
  clear k1 k2 k3 k4 k5 k6
  go_enter Try.func90, Try.ntmps90
  go_wp2_with (first | (go_at_call 163; refine (c1.out _).mono ?_; rintro e w' ⟨rfl, rfl⟩) | (go_at_call 162; refine (c2.out _).mono ?_; rintro e w' ⟨rfl, rfl⟩))
  go_ret
  exact ⟨rfl, rfl⟩
theorem implPow {a b mx my dx dy q : Nat} (h : PwF a b mx my dx dy q) (w : World) :
    Calls Try.prog 96 #[.complex .f32 dx dy] w fun e w' => e = .returned (.float .f32 q) ∧ w = w' := by
  obtain ⟨_, _, X, Y, s, t, r, k1, k2, k3, k4, k5, k6⟩ := h
  have c0 : Hid (∀ W, Calls Try.prog 192 #[.complex .f32 dx dy] W fun e w' => e = .returned (.tuple #[.float .f64 X, .float .f64 Y]) ∧ W = w') := fun W => by
    have q1 := run_w32 k1
    have q2 := run_w32 k2
    clear k1 k2 k3 k4 k5 k6
    go_enter Try.func192, Try.ntmps192
    go_wp2_with fail
    go_ret2
    exact ⟨rfl, rfl⟩
  have c1 : Hid (∀ W, Calls Try.prog 167 #[.complex .f32 dx dy] W fun e w' => e = .returned (.float .f64 r) ∧ W = w') := fun W => by
    have q3 := run_f64 k3
    have q4 := run_f64 k4
    have q5 := run_f64 k5
    clear k1 k2 k3 k4 k5 k6
    go_enter Try.func167, Try.ntmps167
    go_wp2_with (go_at_call 192; refine (c0.out _).mono ?_; rintro e w' ⟨rfl, rfl⟩)
    go_ret
    exact ⟨rfl, rfl⟩
  have c2 : Hid (∀ W, Calls Try.prog 166 #[.float .f64 r] W fun e w' => e = .returned (.float .f32 q) ∧ W = w') := fun W => by
    have q1 := run_n64 k6
    clear k1 k2 k3 k4 k5 k6 c1 c0
    go_enter Try.func166, Try.ntmps166
    go_wp2_with fail
    go_ret
    exact ⟨rfl, rfl⟩
  clear k1 k2 k3 k4 k5 k6 c0
  go_enter Try.func96, Try.ntmps96
  go_wp2_with (first | (go_at_call 167; refine (c1.out _).mono ?_; rintro e w' ⟨rfl, rfl⟩) | (go_at_call 166; refine (c2.out _).mono ?_; rintro e w' ⟨rfl, rfl⟩))
  go_ret
  exact ⟨rfl, rfl⟩
theorem implAdd {a b c d r s : Nat} (h1 : floatBits .add .f32 a c = some r) (h2 : floatBits .add .f32 b d = some s) (w : World) :
    Calls Try.prog 165 #[.complex .f32 a b, .complex .f32 c d] w fun e w' => e = .returned (.complex .f32 r s) ∧ w = w' := by
  have q1 := run_f32 h1
  have q2 := run_f32 h2
  clear h1 h2
  go_enter Try.func165, Try.ntmps165
  go_wp2_with fail
  go_ret
  exact ⟨rfl, rfl⟩
theorem implLess {a b c d r s : Nat} (h1 : floatBits .sub .f32 a c = some r) (h2 : floatBits .sub .f32 b d = some s) (w : World) :
    Calls Try.prog 97 #[.complex .f32 a b, .complex .f32 c d] w fun e w' => e = .returned (.complex .f32 r s) ∧ w = w' := by
  have q1 := run_f32 h1
  have q2 := run_f32 h2
  clear h1 h2
  go_enter Try.func97, Try.ntmps97
  go_wp2_with fail
  go_ret
  exact ⟨rfl, rfl⟩
theorem specPlc (v : Nat) (x y : Int) (A : Option Addr) (n c : Nat) (k : Int) (w : World) (V : VarT w v x y A n c) (hx : 1 ≤ x) (hx2 : x ≤ 16) (h0 : 0 ≤ k) (h1 : k < 4096) :
    Calls Try.prog 89 #[.pointer (some ⟨v, 0, none⟩), .int .i64 k] w fun e w' => e = .returned (.complex .f32 (plX x k) (plY x k)) ∧ ∃ m, w' = w.drewN m := by
  have hl := V.lt
  have c0 := V.c0
  have hz : x ≠ 0 := by omega
  clear V
  go_enter Try.func89, Try.ntmps89
  go_wp2_with fail
  go_quiet (fail)
  go_wp2_with fail
  go_ret
  exact ⟨rfl, _, rfl⟩

end Go.Proofs.Ytgiblioilpedfaa
