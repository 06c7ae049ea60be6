/-
  What is proved here: contracts of the small functions on numbers (bits, not-a-numbers, sameness of two 64-bit numbers), whatever is drawn. Conditions: words fit their kinds.
-/
import Derived.Test.YthnlcckogjfipaaChecked
import Derived.Test.YthnlcckogjfipaaFlt
import Derived.IntWalk
namespace Go.Proofs.Ythnlcckogjfipaa
open Flt

theorem wid_none {x r : Nat} (h : can .f64 r = wid (can .f32 x)) : nanW .f64 r = nanW .f32 x := by
  by_cases hx : nanW .f32 x = true
  · rw [can_nan hx] at h
    rw [hx]; exact can_eq_none h
  · have hx' : nanW .f32 x = false := by simpa using hx
    have hle : x % FloatKind.f32.format.signWeight ≤ FloatKind.f32.format.infRung := Nat.le_of_not_lt fun hc => hx (nanW_of_lt hc)
    rw [hx']
    rw [can_num hx'] at h
    rcases Nat.lt_or_eq_of_le hle with hlt | heq
    · obtain ⟨r', hr, _, _⟩ := widen_finite hlt
      have : wid (some x) = some r' := hr
      rw [this] at h
      exact (can_eq_some h).1
    · have := widen_inf heq
      have h2 : wid (some x) = some _ := this
      rw [h2] at h
      exact (can_eq_some h).1

theorem f32bits (b : Nat) (w : World) : (callFunc 24 #[.float .f32 b]).run Try.prog w = .ok (.value (.int .u32 b)) w := by
  rw [run_callFunc_extern Try.func24 (by kernel_rfl) (by kernel_rfl) (by kernel_rfl) (e := Extern.MathFloatBits.float32bits) (by kernel_rfl)]
  rfl

/-- 'a not-a-number?' -/
theorem isNaN_any (x : Nat) (w : World) :
    Calls Try.prog 21 #[.float .f32 x] w fun e w' => e = .returned (.bool (nanW .f32 x)) ∧ ∃ n, w' = w.drewN n := by
  go_enter Try.func21, Try.ntmps21
  go_wp2_with (first | (refine upon_wid (by kernel_rfl) (by kernel_rfl) ?_; intro _ _ _ _) | go_in)
  rename_i r n _ h
  go_ret
  refine ⟨?_, _, rfl⟩
  simp [self_ne, wid_none h.out]

def bitsV (x : Nat) : Int := if nanW .f32 x = true then 2143289344 else x

theorem specBits (x : Nat) (hx : WF .f32 x) (w : World) :
    Calls Try.prog 23 #[.float .f32 x] w fun e w' => e = .returned (.int .i64 (bitsV x)) ∧ w' = w := by
  have hb := f32bits
  cases hn : nanW .f32 x with
  | true =>
    have h1 : (FloatKind.f32.format.order x x != some .eq) = true := by rw [self_ne, hn]
    go_enter Try.func23, Try.ntmps23
    go_wp2
    go_ret
    simp [bitsV, hn]
  | false =>
    have h1 : (FloatKind.f32.format.order x x != some .eq) = false := by rw [self_ne, hn]
    have hl := hx.lt32
    have h2 : (0 : Int) ≤ x := by omega
    have h3 : (x : Int) ≤ 4294967295 := by omega
    clear hl
    go_enter Try.func23, Try.ntmps23
    go_wp2
    go_ret
    simp [bitsV, hn]

theorem implBits (x : Nat) (hx : WF .f32 x) (w : World) :
    Calls Try.prog 13 #[.float .f32 x] w fun e w' => e = .returned (.int .i64 (bitsV x)) ∧ ∃ n, w' = w.drewN n := by
  have hb := f32bits
  cases hn : nanW .f32 x with
  | true =>
    go_enter Try.func13, Try.ntmps13
    go_wp2_with (go_at_call 21; refine (isNaN_any _ _).mono ?_; rintro e w' ⟨rfl, n, rfl⟩)
    go_ret
    refine ⟨?_, _, rfl⟩
    simp [bitsV, hn]
  | false =>
    have hl := hx.lt32
    have h2 : (0 : Int) ≤ x := by omega
    have h3 : (x : Int) ≤ 4294967295 := by omega
    clear hl
    go_enter Try.func13, Try.ntmps13
    go_wp2_with (go_at_call 21; refine (isNaN_any _ _).mono ?_; rintro e w' ⟨rfl, n, rfl⟩)
    go_ret
    refine ⟨?_, _, rfl⟩
    simp [bitsV, hn]

/-- 'sameFloat' of two words that differ at most in the bits of a not-a-number -/
theorem sameFloat_any (a b : Nat) (hab : can .f64 a = can .f64 b) (w : World) :
    Calls Try.prog 16 #[.float .f64 a, .float .f64 b] w fun e w' => e = .returned (.bool true) ∧ ∃ n, w' = w.drewN n := by
  cases hn : nanW .f64 a with
  | true =>
    have hn2 : nanW .f64 b = true := by rw [can_nan hn] at hab; exact can_eq_none hab.symm
    have h1 : (FloatKind.f64.format.order a a != some .eq) = true := by rw [self_ne, hn]
    have h2 : (FloatKind.f64.format.order b b != some .eq) = true := by rw [self_ne, hn2]
    clear hab hn hn2
    go_enter Try.func16, Try.ntmps16
    go_wp2
    all_goals (go_ret; exact ⟨rfl, 0, rfl⟩)
  | false =>
    obtain ⟨_, rfl⟩ := can_eq_some (hab.symm.trans (can_num hn))
    have h1 : (FloatKind.f64.format.order b b != some .eq) = false := by rw [self_ne, hn]
    have h2 : (FloatKind.f64.format.order b b == some .eq) = true := by rw [self_eq, hn]; rfl
    clear hab hn
    go_enter Try.func16, Try.ntmps16
    go_wp2_with (refine upon_bin rfl ?_; intro _ _ _ _)
    · rename_i r1 n1 _ e1 r2 n2 _ e2
      go_ret
      refine ⟨?_, _, rfl⟩
      simp [ford_can .f64 _ 0, e1.out, e2.out]
    · go_ret
      exact ⟨rfl, 0, rfl⟩

/-- .. of two 32-bit numbers, widened -/
theorem wid_same {a b r s : Nat} (h : can .f32 a = can .f32 b) (h1 : can .f64 r = wid (can .f32 a)) (h2 : can .f64 s = wid (can .f32 b)) : can .f64 r = can .f64 s := by rw [h1, h2, h]

theorem specSame (a b : Nat) (ha : WF .f32 a) (hb : WF .f32 b) (w : World) :
    Calls Try.prog 8 #[.float .f32 a, .float .f32 b] w fun e w' => e = .returned (.bool (bitsV a == bitsV b)) ∧ ∃ n, w' = w.drewN n := by
  go_enter Try.func8, Try.ntmps8
  go_wp2_with (first | (go_at_call 23; refine (specBits _ (by assumption) _).mono ?_; rintro e w' ⟨rfl, rfl⟩) | go_in)
  go_ret
  exact ⟨rfl, 0, rfl⟩
theorem implSame (a b : Nat) (ha : WF .f32 a) (hb : WF .f32 b) (w : World) :
    Calls Try.prog 9 #[.float .f32 a, .float .f32 b] w fun e w' => e = .returned (.bool (bitsV a == bitsV b)) ∧ ∃ n, w' = w.drewN n := by
  go_enter Try.func9, Try.ntmps9
  go_wp2_with (go_at_call 13; refine (implBits _ (by assumption) _).mono ?_; rintro e w' ⟨rfl, n, rfl⟩)
  go_ret
  exact ⟨rfl, _, rfl⟩

theorem lawSame (a b : Nat) (ha : WF .f32 a) (hb : WF .f32 b) (w : World) :
    Calls Try.prog 3 #[.float .f32 a, .float .f32 b] w fun e w' => e = .returned (.bool true) ∧ ∃ n, w' = w.drewN n := by
  go_enter Try.func3, Try.ntmps3
  go_wp2_with (first | (go_at_call 8; refine (specSame _ _ (by assumption) (by assumption) _).mono ?_; rintro e w' ⟨rfl, n, rfl⟩) | (go_at_call 9; refine (implSame _ _ (by assumption) (by assumption) _).mono ?_; rintro e w' ⟨rfl, n, rfl⟩))
  go_ret
  exact ⟨rfl, _, rfl⟩

theorem lawBits (x : Nat) (hx : WF .f32 x) (w : World) :
    Calls Try.prog 5 #[.float .f32 x] w fun e w' => e = .returned (.bool true) ∧ ∃ n, w' = w.drewN n := by
  go_enter Try.func5, Try.ntmps5
  go_wp2_with (first | (go_at_call 23; refine (specBits _ (by assumption) _).mono ?_; rintro e w' ⟨rfl, rfl⟩) | (go_at_call 13; refine (implBits _ (by assumption) _).mono ?_; rintro e w' ⟨rfl, n, rfl⟩) | go_in)
  go_ret
  exact ⟨rfl, _, rfl⟩

end Go.Proofs.Ythnlcckogjfipaa
