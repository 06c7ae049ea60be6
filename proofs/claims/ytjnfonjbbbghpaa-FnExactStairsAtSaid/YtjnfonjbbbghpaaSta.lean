/-
  What is proved here: StairsAt, of both packages, as walks; the law. Conditions: none.
-/
import Derived.Test.YtjnfonjbbbghpaaLk
namespace Go.Proofs.Ytjnfonjbbbghpaa
open Flt Go.RowKit
set_option linter.unusedVariables false

def mul3 (x : Option Nat) : Option Nat := fop .mul .f32 (can .f32 1077936128) x
/-- what is left of the stairs -/
def staR : Nat → Option Nat → Option Nat → Option Nat → Option Nat
  | 0, _, s, _ => s
  | n + 1, x, s, h =>
    if ford .f32 (mul3 x) (can .f32 1073741824) = some .gt then staR n (fop .sub .f32 (mul3 x) (can .f32 1073741824)) (fop .add .f32 s h) (fop .mul .f32 h (can .f32 1056964608))
    else if geO (ford .f32 (mul3 x) (can .f32 1065353216)) = true then fop .add .f32 s h
    else staR n (mul3 x) s (fop .mul .f32 h (can .f32 1056964608))

theorem shareS_any (x : Nat) (w : World) : Calls Try.prog 50 #[.float .f32 x] w fun e w' => e = .returned (.bool (fromB x 0 1065353216)) ∧ w = w' := by
  have N : Hid (fromB x 0 1065353216 = (geO (FloatKind.f32.format.order x 0) && leO (FloatKind.f32.format.order x 1065353216))) := rfl
  rcases ord4 (FloatKind.f32.format.order x 0) with h | h | h | h <;> rcases ord4 (FloatKind.f32.format.order x 1065353216) with g | g | g | g
  all_goals
    have N2 := N.out
    rw [h, g] at N2
    have N3 := Lib.hid N2
    clear N N2
    go_enter Try.func50, Try.ntmps50
    go_wp2
    go_ret
    exact ⟨by rw [N3.out]; rfl, rfl⟩

theorem staR_gt {n r : Nat} {x s h : Option Nat} (e : can .f32 r = mul3 x) (g : (FloatKind.f32.format.order r 1073741824 == some .gt) = true) : staR (n + 1) x s h = staR n (fop .sub .f32 (can .f32 r) (can .f32 1073741824)) (fop .add .f32 s h) (fop .mul .f32 h (can .f32 1056964608)) := by
  conv => lhs; unfold staR
  rw [← e, ← ford_can, if_pos (eq_of_beq g)]
theorem staR_ge {n r : Nat} {x s h : Option Nat} (e : can .f32 r = mul3 x) (g : (FloatKind.f32.format.order r 1073741824 == some .gt) = false) (k : geO (FloatKind.f32.format.order r 1065353216) = true) : staR (n + 1) x s h = fop .add .f32 s h := by
  conv => lhs; unfold staR
  rw [← e, ← ford_can, ← ford_can, if_neg (by intro c; rw [c] at g; cases g), if_pos k]
theorem staR_lt {n r : Nat} {x s h : Option Nat} (e : can .f32 r = mul3 x) (g : (FloatKind.f32.format.order r 1073741824 == some .gt) = false) (k : geO (FloatKind.f32.format.order r 1065353216) = false) : staR (n + 1) x s h = staR n (can .f32 r) s (fop .mul .f32 h (can .f32 1056964608)) := by
  conv => lhs; unfold staR
  rw [← e, ← ford_can, ← ford_can, if_neg (by intro c; rw [c] at g; cases g), if_neg (by rw [k]; decide)]
theorem geO_yes {o : Option Ordering} (h : (o == some .gt) = true ∨ (o == some .eq) = true) : geO o = true := by
  rcases h with h | h <;> rw [eq_of_beq h] <;> rfl
theorem geO_not {o : Option Ordering} (h : (o == some .gt) = false ∧ (o == some .eq) = false) : geO o = false := by
  rcases ord4 o with rfl | rfl | rfl | rfl
  · rfl
  · rfl
  · exact absurd h.2 (by decide)
  · exact absurd h.1 (by decide)
theorem geO_yesP {o : Option Ordering} (h : o = some .gt ∨ o = some .eq) : geO o = true := by
  rcases h with h | h <;> rw [h] <;> rfl
theorem geO_notP {o : Option Ordering} (h : ¬ (o = some .gt ∨ o = some .eq)) : geO o = false := by
  rcases ord4 o with rfl | rfl | rfl | rfl
  · rfl
  · rfl
  · exact absurd (.inr rfl) h
  · exact absurd (.inl rfl) h
theorem leO_yes {o : Option Ordering} (h : (o == some .lt) = true ∨ (o == some .eq) = true) : leO o = true := by
  rcases h with h | h <;> rw [eq_of_beq h] <;> rfl
theorem leO_not {o : Option Ordering} (h : (o == some .lt) = false ∧ (o == some .eq) = false) : leO o = false := by
  rcases ord4 o with rfl | rfl | rfl | rfl
  · rfl
  · exact absurd h.1 (by decide)
  · exact absurd h.2 (by decide)
  · rfl
/-- two orders of one word against two numbers go together -/
theorem order_none {k : FloatKind} {x y : Nat} (hy : nanW k y = false) (h : k.format.order x y = none) : nanW k x = true := by
  unfold nanW at hy ⊢
  unfold Ieee.Format.order at h
  cases hx : k.format.read x <;> cases hz : k.format.read y <;> rw [hx, hz] at h <;> rw [hz] at hy <;> simp_all [Ieee.Datum.order, Ieee.Datum.isNaN]

theorem gt_of_le {o : Option Ordering} (h : (o == some .lt) = true ∨ (o == some .eq) = true) : (o == some .gt) = false := by
  rcases h with h | h <;> rw [eq_of_beq h] <;> rfl
theorem sta_odd {r : Nat} (h1 : FloatKind.f32.format.order r 1065353216 = some .gt ∨ FloatKind.f32.format.order r 1065353216 = some .eq) (h2 : (FloatKind.f32.format.order r 1073741824 == some .lt) = false ∧ (FloatKind.f32.format.order r 1073741824 == some .eq) = false) (h3 : (FloatKind.f32.format.order r 1073741824 == some .gt) = false) : False := by
  rcases ord4 (FloatKind.f32.format.order r 1073741824) with h | h | h | h
  · have hn := order_none (by decide) h
    rw [show FloatKind.f32.format.order r 1065353216 = none from order_nan_left hn] at h1
    rcases h1 with h1 | h1 <;> cases h1
  · rw [h] at h2; exact absurd h2.1 (by decide)
  · rw [h] at h2; exact absurd h2.2 (by decide)
  · rw [h] at h3; exact absurd h3 (by decide)

theorem implSta (x : Nat) (d : Nat) (hd : d ≤ 32) (hx : fromB x 0 1065353216 = true) (w : World) : Calls Try.prog 23 #[.float .f32 x, .int .i64 d] w (VPost (staR d (can .f32 x) (can .f32 0) (can .f32 1056964608)) true w) := by
  have HX := Lib.hid (fun W => from_any x 0 1065353216 W)
  rw [hx] at HX
  have HD := Lib.hid (fun W => within_any (d : Int) 0 32 W)
  rw [show inB (d : Int) 0 32 = true by simp [inB]; omega] at HD
  clear hx
  go_enter Try.func23, Try.ntmps23
  go_wp2_with (first | (go_at_call 52; refine (HX.out _).mono ?_; rintro e w' ⟨rfl, rfl⟩) | (go_at_call 53; refine (HD.out _).mono ?_; rintro e w' ⟨rfl, rfl⟩))
  clear HX HD
  go_loopw [0, 6, 7, 17] (fun x' s h i wr => ∃ k : Nat, k ≤ d ∧ i = .int .i64 k ∧ ∃ n xw sw hw, wr = w.drewN n ∧ x' = .float .f32 xw ∧ s = .float .f32 sw ∧ h = .float .f32 hw ∧ WF .f32 sw ∧ Hid (staR (d - k) (can .f32 xw) (can .f32 sw) (can .f32 hw) = staR d (can .f32 x) (can .f32 0) (can .f32 1056964608))) (fun _ _ _ i _ => d - (intOf i).toNat)
  case atStart => exact ⟨0, Nat.zero_le _, rfl, 0, x, 0, 1056964608, rfl, rfl, rfl, rfl, ⟨by decide⟩, rfl⟩
  case round =>
    obtain ⟨k, hk, rfl, n, xw, sw, hw, rfl, rfl, rfl, rfl, hsw, hR⟩ := hrel
    by_cases hlt : k < d
    · obtain ⟨m, hm⟩ : ∃ m, d - k = m + 1 := ⟨d - k - 1, by omega⟩
      rw [hm] at hR
      have HM : Hid (d - (k + 1) = m) := by show d - (k + 1) = m; omega
      clear hm
      go_wp2_with ((with_reducible refine upon_bin rfl ?_); intro _ _ _ _)
      · rename_i r1 n1 w1 e1 h1 r2 n2 w2 e2 r3 n3 w3 e3 r4 n4 w4 e4
        go_round
        case rel => exact ⟨k + 1, by omega, by go_num, _, _, _, _, rfl, rfl, rfl, rfl, w3, by show staR _ _ _ _ = _; rw [HM.out, ← hR.out, staR_gt e1.out h1, e2.out, e3.out, e4.out]⟩
        case measure => simp [intOf]; omega
      · rename_i r1 n1 w1 e1 K hK h1 h2 r2 n2 w2 e2
        go_ret2
        exact vpost (by rw [← hR.out, staR_ge e1.out h1 (geO_yes h2), e2.out]) w2
      · rename_i r1 n1 w1 e1 h1 h2 r2 n2 w2 e2
        go_round
        case rel => exact ⟨k + 1, by omega, by go_num, _, _, _, _, rfl, rfl, rfl, rfl, hsw, by show staR _ _ _ _ = _; rw [HM.out, ← hR.out, staR_lt e1.out h1 (geO_not h2), e2.out]⟩
        case measure => simp [intOf]; omega
    · have HK : Hid (d - k = 0) := by show d - k = 0; omega
      rw [HK.out] at hR
      go_wp2
      go_ret2
      exact vpost hR.out hsw

theorem specSta (x : Nat) (d : Nat) (hd : d ≤ 32) (hx : fromB x 0 1065353216 = true) (w : World) : Calls Try.prog 22 #[.float .f32 x, .int .i64 d] w (VPost (staR d (can .f32 x) (can .f32 0) (can .f32 1056964608)) true w) := by
  have HX := Lib.hid (fun W => shareS_any x W)
  rw [hx] at HX
  have HD := Lib.hid (fun W => inS_any (d : Int) 0 32 W)
  rw [show inB (d : Int) 0 32 = true by simp [inB]; omega] at HD
  clear hx
  go_enter Try.func22, Try.ntmps22
  go_wp2_with (first | (go_at_call 50; refine (HX.out _).mono ?_; rintro e w' ⟨rfl, rfl⟩) | (go_at_call 51; refine (HD.out _).mono ?_; rintro e w' ⟨rfl, rfl⟩))
  clear HX HD
  go_loopw [0, 6, 7, 8] (fun x' s h i wr => ∃ k : Nat, k ≤ d ∧ i = .int .i64 k ∧ ∃ n xw sw hw, wr = w.drewN n ∧ x' = .float .f32 xw ∧ s = .float .f32 sw ∧ h = .float .f32 hw ∧ WF .f32 sw ∧ Hid (staR (d - k) (can .f32 xw) (can .f32 sw) (can .f32 hw) = staR d (can .f32 x) (can .f32 0) (can .f32 1056964608))) (fun _ _ _ i _ => d - (intOf i).toNat)
  case atStart => exact ⟨0, Nat.zero_le _, rfl, 0, x, 0, 1056964608, rfl, rfl, rfl, rfl, ⟨by decide⟩, rfl⟩
  case round =>
    obtain ⟨k, hk, rfl, n, xw, sw, hw, rfl, rfl, rfl, rfl, hsw, hR⟩ := hrel
    by_cases hlt : k < d
    · obtain ⟨m, hm⟩ : ∃ m, d - k = m + 1 := ⟨d - k - 1, by omega⟩
      rw [hm] at hR
      have HM : Hid (d - (k + 1) = m) := by show d - (k + 1) = m; omega
      clear hm
      go_wp2_with ((with_reducible refine upon_bin rfl ?_); intro _ _ _ _)
      · rename_i r1 n1 w1 e1 K hK h1 h2 r2 n2 w2 e2
        go_ret2
        exact vpost (by rw [← hR.out, staR_ge e1.out (gt_of_le h2.2) (geO_yesP h1), e2.out]) w2
      · rename_i r1 n1 w1 e1 h0 h00 h1 r2 n2 w2 e2 r3 n3 w3 e3 r4 n4 w4 e4
        go_round
        case rel => exact ⟨k + 1, by omega, by go_num, _, _, _, _, rfl, rfl, rfl, rfl, w3, by show staR _ _ _ _ = _; rw [HM.out, ← hR.out, staR_gt e1.out h1, e2.out, e3.out, e4.out]⟩
        case measure => simp [intOf]; omega
      · rename_i r1 n1 w1 e1 h0 h00 h1 r2 n2 w2 e2
        exact (sta_odd h0 (h00.resolve_left (fun c => by have g := geO_not c; rw [geO_yesP h0] at g; cases g)) h1).elim
      · rename_i r1 n1 w1 e1 h0 h1 r2 n2 w2 e2 r3 n3 w3 e3 r4 n4 w4 e4
        go_round
        case rel => exact ⟨k + 1, by omega, by go_num, _, _, _, _, rfl, rfl, rfl, rfl, w3, by show staR _ _ _ _ = _; rw [HM.out, ← hR.out, staR_gt e1.out h1, e2.out, e3.out, e4.out]⟩
        case measure => simp [intOf]; omega
      · rename_i r1 n1 w1 e1 h0 h1 r2 n2 w2 e2
        go_round
        case rel => exact ⟨k + 1, by omega, by go_num, _, _, _, _, rfl, rfl, rfl, rfl, hsw, by show staR _ _ _ _ = _; rw [HM.out, ← hR.out, staR_lt e1.out h1 (geO_notP h0), e2.out]⟩
        case measure => simp [intOf]; omega
    · have HK : Hid (d - k = 0) := by show d - k = 0; omega
      rw [HK.out] at hR
      go_wp2
      go_ret2
      exact vpost hR.out hsw

def staB (x : Nat) (d : Int) : Bool := fromB x 0 1065353216 && inB d 0 32

theorem shareI_any (x : Nat) (w : World) : Calls Try.prog 52 #[.float .f32 x, .float .f32 0, .float .f32 1065353216] w fun e w' => e = .returned (.bool (fromB x 0 1065353216)) ∧ w = w' := from_any x 0 1065353216 w

theorem specStaNo (x : Nat) (d : Int) (hb : staB x d = false) (w : World) : Calls Try.prog 22 #[.float .f32 x, .int .i64 d] w (VPost (some 0) false w) := by
  have HX := Lib.hid (fun W => shareS_any x W)
  have HD := Lib.hid (fun W => inS_any d 0 32 W)
  cases h1 : fromB x 0 1065353216
  · rw [h1] at HX
    clear h1 hb
    go_enter Try.func22, Try.ntmps22
    go_wp2_with (go_at_call 50; refine (HX.out _).mono ?_; rintro e w' ⟨rfl, rfl⟩)
    go_ret2
    exact vpost_no0
  · have h2 : inB d 0 32 = false := by unfold staB at hb; rw [h1] at hb; exact hb
    rw [h1] at HX
    rw [h2] at HD
    clear h1 h2 hb
    go_enter Try.func22, Try.ntmps22
    go_wp2_with (first | (go_at_call 50; refine (HX.out _).mono ?_; rintro e w' ⟨rfl, rfl⟩) | (go_at_call 51; refine (HD.out _).mono ?_; rintro e w' ⟨rfl, rfl⟩))
    go_ret2
    exact vpost_no0
theorem implStaNo (x : Nat) (d : Int) (hb : staB x d = false) (w : World) : Calls Try.prog 23 #[.float .f32 x, .int .i64 d] w (VPost (some 0) false w) := by
  have HX := Lib.hid (fun W => shareI_any x W)
  have HD := Lib.hid (fun W => within_any d 0 32 W)
  cases h1 : fromB x 0 1065353216
  · rw [h1] at HX
    clear h1 hb
    go_enter Try.func23, Try.ntmps23
    go_wp2_with (go_at_call 52; refine (HX.out _).mono ?_; rintro e w' ⟨rfl, rfl⟩)
    go_ret2
    exact vpost_no0
  · have h2 : inB d 0 32 = false := by unfold staB at hb; rw [h1] at hb; exact hb
    rw [h1] at HX
    rw [h2] at HD
    clear h1 h2 hb
    go_enter Try.func23, Try.ntmps23
    go_wp2_with (first | (go_at_call 52; refine (HX.out _).mono ?_; rintro e w' ⟨rfl, rfl⟩) | (go_at_call 53; refine (HD.out _).mono ?_; rintro e w' ⟨rfl, rfl⟩))
    go_ret2
    exact vpost_no0

theorem staBoth (x : Nat) (d : Int) : ∃ c b, (∀ w, Calls Try.prog 22 #[.float .f32 x, .int .i64 d] w (VPost c b w)) ∧ (∀ w, Calls Try.prog 23 #[.float .f32 x, .int .i64 d] w (VPost c b w)) := by
  cases hb : staB x d with
  | false => exact ⟨_, _, specStaNo x d hb, implStaNo x d hb⟩
  | true =>
    unfold staB at hb
    rw [Bool.and_eq_true] at hb
    obtain ⟨h1, h2⟩ := hb
    obtain ⟨a, b⟩ := inB_yes h2
    obtain ⟨n, rfl⟩ := Int.eq_ofNat_of_zero_le a
    exact ⟨_, _, specSta x n (by omega) h1, implSta x n (by omega) h1⟩

theorem lawSta (x : Nat) (d : Int) (w : World) :
    Calls Try.prog 5 #[.float .f32 x, .int .i64 d] w fun e w' => e = .returned (.bool true) ∧ ∃ n, w' = w.drewN n := by
  obtain ⟨c, b, h1, h2⟩ := staBoth x d
  have H1 := Lib.hid h1
  have H2 := Lib.hid h2
  clear h1 h2
  go_enter Try.func5, Try.ntmps5
  go_wp2_with (first | (go_at_call 22; refine (H1.out _).mono ?_; rintro e w' ⟨g, n, rfl, rfl, hc, hg⟩) | (go_at_call 23; refine (H2.out _).mono ?_; rintro e w' ⟨g2, n2, rfl, rfl, hc2, hg2⟩) | (go_at_call 21; refine (sameFloat_any _ _ (wid_eq2 (by assumption) (by assumption) (by assumption) (by assumption)) _).mono ?_; rintro e w' ⟨rfl, n3, rfl⟩) | ((with_reducible refine upon_wid ?_ ?_ ?_); rotate_left 2; intro _ _ _ _; rotate_left 1; kernel_rfl; kernel_rfl))
  go_ret
  exact ⟨rfl, _, rfl⟩

end Go.Proofs.Ytjnfonjbbbghpaa
