/-
  What is proved here: seeds, drawn numbers and the numbers of lattices, of both packages, as walks; the law LatticeAt. Conditions: seeds from 0 to 2147483647.
-/
import Derived.Test.YtalinjggodmijaaSum
namespace Go.Proofs.Ytalinjggodmijaa
open Flt Go.RowKit

/-- the seed behind a seed -/
def nextS (s : Int) : Int := (1103515245 * s + 12345) % 2147483648
theorem nextS_bd (s : Int) : 0 ≤ nextS s ∧ nextS s ≤ 2147483647 := by unfold nextS; omega
/-- the number that is drawn with a seed -/
def drawF (s : Int) : Option Nat := fop .quo .f32 (can .f32 (floatOfInt .f32 (s / 65536 - 16384))) (can .f32 1182793728)
/-- inside bounds -/
def inB (n lo hi : Int) : Bool := decide (lo ≤ n) && decide (n ≤ hi)
def seedB (s : Int) : Bool := inB s 0 2147483647
theorem inB_yes {n lo hi : Int} (h : inB n lo hi = true) : lo ≤ n ∧ n ≤ hi := by
  unfold inB at h
  rw [Bool.and_eq_true] at h
  exact ⟨of_decide_eq_true h.1, of_decide_eq_true h.2⟩

theorem specNext (s : Int) (h0 : 0 ≤ s) (h1 : s ≤ 2147483647) (w : World) : Calls Try.prog 89 #[.int .i64 s] w fun e w' => e = .returned (.int .i64 (nextS s)) ∧ w = w' := by
  go_enter Try.func89, Try.ntmps89
  go_wp2
  go_ret
  exact ⟨rfl, rfl⟩
theorem implNext (s : Int) (h0 : 0 ≤ s) (h1 : s ≤ 2147483647) (w : World) : Calls Try.prog 91 #[.int .i64 s] w fun e w' => e = .returned (.int .i64 (nextS s)) ∧ w = w' := by
  go_enter Try.func91, Try.ntmps91
  go_wp2
  go_ret
  exact ⟨rfl, rfl⟩
theorem specDrawn (s : Int) (h0 : 0 ≤ s) (h1 : s ≤ 2147483647) (w : World) : Calls Try.prog 96 #[.int .i64 s] w (FPost .f32 (drawF s) w) := by
  go_enter Try.func96, Try.ntmps96
  go_wp2_with ((with_reducible refine upon_bin rfl ?_); intro _ _ _ _)
  rename_i r n wr er
  go_ret
  exact fpost (by rw [er.out]; rfl) wr
theorem implDrawn (s : Int) (h0 : 0 ≤ s) (h1 : s ≤ 2147483647) (w : World) : Calls Try.prog 97 #[.int .i64 s] w (FPost .f32 (drawF s) w) := by
  go_enter Try.func97, Try.ntmps97
  go_wp2_with ((with_reducible refine upon_bin rfl ?_); intro _ _ _ _)
  rename_i r n wr er
  go_ret
  exact fpost (by rw [er.out]; rfl) wr
theorem within_any (n lo hi : Int) (w : World) : Calls Try.prog 64 #[.int .i64 n, .int .i64 lo, .int .i64 hi] w fun e w' => e = .returned (.bool (inB n lo hi)) ∧ w = w' := by
  by_cases h1 : lo ≤ n
  · by_cases h2 : n ≤ hi
    · go_enter Try.func64, Try.ntmps64
      go_wp2
      go_ret
      exact ⟨by simp [inB, h1, h2], rfl⟩
    · have h3 : hi < n := by omega
      go_enter Try.func64, Try.ntmps64
      go_wp2
      go_ret
      exact ⟨by simp [inB, h2], rfl⟩
  · have h3 : n < lo := by omega
    go_enter Try.func64, Try.ntmps64
    go_wp2
    go_ret
    exact ⟨by simp [inB, show ¬ lo ≤ n by omega], rfl⟩
theorem inS_any (n lo hi : Int) (w : World) : Calls Try.prog 61 #[.int .i64 n, .int .i64 lo, .int .i64 hi] w fun e w' => e = .returned (.bool (inB n lo hi)) ∧ w = w' :=
  (in_any n lo hi w).mono fun _ _ ⟨h1, h2⟩ => ⟨h1, h2.symm⟩
theorem specSeed (s : Int) (w : World) : Calls Try.prog 60 #[.int .i64 s] w fun e w' => e = .returned (.bool (seedB s)) ∧ w = w' := by
  go_enter Try.func60, Try.ntmps60
  go_wp2_with (go_at_call 61; refine (inS_any _ _ _ _).mono ?_; rintro e w' ⟨rfl, rfl⟩)
  go_ret
  exact ⟨rfl, rfl⟩
theorem implSeed (s : Int) (w : World) : Calls Try.prog 63 #[.int .i64 s] w fun e w' => e = .returned (.bool (seedB s)) ∧ w = w' := by
  go_enter Try.func63, Try.ntmps63
  go_wp2_with (go_at_call 64; refine (within_any _ _ _ _).mono ?_; rintro e w' ⟨rfl, rfl⟩)
  go_ret
  exact ⟨rfl, rfl⟩

/-- the number of a place -/
def startS (s x y : Int) : Int := (s + 374761393 * x + 668265263 * y) % 2147483648
theorem startS_bd (s x y : Int) : 0 ≤ startS s x y ∧ startS s x y ≤ 2147483647 := by unfold startS; omega
/-- so many seeds on -/
def itS (s : Int) : Nat → Int
  | 0 => s
  | k + 1 => nextS (itS s k)
theorem itS_bd (s : Int) (h0 : 0 ≤ s) (h1 : s ≤ 2147483647) (k : Nat) : 0 ≤ itS s k ∧ itS s k ≤ 2147483647 := by
  cases k with
  | zero => exact ⟨h0, h1⟩
  | succ k => exact nextS_bd _
def latF (s x y : Int) : Option Nat := drawF (nextS (nextS (nextS (startS s x y))))

theorem specLat (s x y : Int) (hs0 : 0 ≤ s) (hs1 : s ≤ 2147483647) (hx0 : 0 ≤ x) (hx1 : x ≤ 1000001) (hy0 : 0 ≤ y) (hy1 : y ≤ 1000001) (w : World) : Calls Try.prog 62 #[.int .i64 s, .int .i64 x, .int .i64 y] w (FPost .f32 (latF s x y) w) := by
  have H : Hid ((s + 374761393 * x + 668265263 * y) % 2147483648 = startS s x y) := rfl
  obtain ⟨a0, a1⟩ := startS_bd s x y
  obtain ⟨b0, b1⟩ := nextS_bd (startS s x y)
  obtain ⟨c0, c1⟩ := nextS_bd (nextS (startS s x y))
  obtain ⟨d0, d1⟩ := nextS_bd (nextS (nextS (startS s x y)))
  go_enter Try.func62, Try.ntmps62
  go_wp2_with fail
  rw [H.out]
  go_wp2_with (first | (go_at_call 89; refine (specNext _ (by assumption) (by assumption) _).mono ?_; rintro e w' ⟨rfl, rfl⟩) | (go_at_call 96; refine (specDrawn _ (by assumption) (by assumption) _).mono ?_; rintro e w' ⟨g, n, rfl, rfl, hc, hg⟩))
  go_ret
  exact fpost hc hg
theorem implLat (s x y : Int) (hs0 : 0 ≤ s) (hs1 : s ≤ 2147483647) (hx0 : 0 ≤ x) (hx1 : x ≤ 1000001) (hy0 : 0 ≤ y) (hy1 : y ≤ 1000001) (w : World) : Calls Try.prog 65 #[.int .i64 s, .int .i64 x, .int .i64 y] w (FPost .f32 (latF s x y) w) := by
  have H : Hid ((s + 374761393 * x + 668265263 * y) % 2147483648 = startS s x y) := rfl
  obtain ⟨a0, a1⟩ := startS_bd s x y
  go_enter Try.func65, Try.ntmps65
  go_wp2_with fail
  rw [H.out]
  go_loopw [0, 15] (fun q i wr => ∃ k : Nat, k ≤ 3 ∧ i = .int .i64 k ∧ q = .int .i64 (itS (startS s x y) k) ∧ w = wr) (fun _ i _ => 3 - (intOf i).toNat)
  case atStart => exact ⟨0, by omega, rfl, rfl, rfl⟩
  case round =>
    obtain ⟨k, hk, rfl, rfl, rfl⟩ := hrel
    obtain ⟨b0, b1⟩ := itS_bd (startS s x y) a0 a1 k
    by_cases hlt : k < 3
    · go_wp2_with (go_at_call 91; refine (implNext _ (by assumption) (by assumption) _).mono ?_; rintro e w' ⟨rfl, rfl⟩)
      go_roundw
      case rel => exact ⟨k + 1, by omega, by go_num, rfl, by first | rfl | trivial⟩
      case measure => simp [intOf]; omega
    · obtain rfl : k = 3 := by omega
      go_wp2_with (go_at_call 97; refine (implDrawn _ (by assumption) (by assumption) _).mono ?_; rintro e w' ⟨g, n, rfl, rfl, hc, hg⟩)
      go_ret
      exact fpost hc hg

def latB (s x y : Int) : Bool := seedB s && (inB x 0 1000000 && inB y 0 1000000)
/-- what a function of numbers gives: a word, and whether it has one -/
def VPost (c : Option Nat) (b : Bool) (w : World) (e : Ending) (w' : World) : Prop := ∃ g n, e = .returned (.tuple #[.float .f32 g, .bool b]) ∧ w' = w.drewN n ∧ Hid (can .f32 g = c) ∧ WF .f32 g
theorem vpost {c : Option Nat} {b : Bool} {w : World} {g n : Nat} (h : can .f32 g = c) (hw : WF .f32 g) : VPost c b w (.returned (.tuple #[.float .f32 g, .bool b])) (w.drewN n) := ⟨g, n, rfl, rfl, h, hw⟩
theorem vpost_no {w : World} {n : Nat} : VPost (some 0) false w (.returned (.tuple #[.float .f32 0, .bool false])) (w.drewN n) := ⟨0, n, rfl, rfl, by show can .f32 0 = some 0; decide, ⟨by decide⟩⟩
theorem vpost_no0 {w : World} : VPost (some 0) false w (.returned (.tuple #[.float .f32 0, .bool false])) w := ⟨0, 0, rfl, rfl, by show can .f32 0 = some 0; decide, ⟨by decide⟩⟩

theorem latB_1 {s x y : Int} (h : seedB s = false) : latB s x y = false := by unfold latB; rw [h]; rfl
theorem latB_2 {s x y : Int} (h : inB x 0 1000000 = false) : latB s x y = false := by unfold latB; rw [h, Bool.false_and, Bool.and_false]
theorem latB_3 {s x y : Int} (h : inB y 0 1000000 = false) : latB s x y = false := by unfold latB; rw [h, Bool.and_false, Bool.and_false]

theorem specLatN (s x y : Int) (w : World) : Calls Try.prog 26 #[.int .i64 s, .int .i64 x, .int .i64 y] w (VPost (if latB s x y = true then latF s x y else some 0) (latB s x y) w) := by
  cases h1 : seedB s
  · have H1 := Lib.hid h1
    rw [latB_1 h1, if_neg (by decide)]
    clear h1
    go_enter Try.func26, Try.ntmps26
    go_wp2_with (go_at_call 60; refine (specSeed _ _).mono ?_; rintro e w' ⟨rfl, rfl⟩; rw [H1.out])
    go_ret2
    exact vpost_no0
  cases h2 : inB x 0 1000000
  · have H1 := Lib.hid h1
    have H2 := Lib.hid h2
    rw [latB_2 h2, if_neg (by decide)]
    clear h1 h2
    go_enter Try.func26, Try.ntmps26
    go_wp2_with (first | (go_at_call 60; refine (specSeed _ _).mono ?_; rintro e w' ⟨rfl, rfl⟩; rw [H1.out]) | (go_at_call 61; refine (inS_any _ _ _ _).mono ?_; rintro e w' ⟨rfl, rfl⟩; rw [H2.out]))
    go_ret2
    exact vpost_no0
  cases h3 : inB y 0 1000000
  · have H1 := Lib.hid h1
    have H2 := Lib.hid h2
    have H3 := Lib.hid h3
    rw [latB_3 h3, if_neg (by decide)]
    clear h1 h2 h3
    go_enter Try.func26, Try.ntmps26
    go_wp2_with (first | (go_at_call 60; refine (specSeed _ _).mono ?_; rintro e w' ⟨rfl, rfl⟩; rw [H1.out]) | (go_at_call 61; refine (inS_any _ _ _ _).mono ?_; rintro e w' ⟨rfl, rfl⟩; (first | rw [H2.out] | rw [H3.out])))
    go_ret2
    exact vpost_no0
  · have H1 := Lib.hid h1
    have H2 := Lib.hid h2
    have H3 := Lib.hid h3
    have hb : latB s x y = true := by unfold latB; rw [h1, h2, h3]; rfl
    rw [hb, if_pos rfl]
    obtain ⟨a0, a1⟩ := inB_yes h1
    obtain ⟨b0, b1⟩ := inB_yes h2
    obtain ⟨c0, c1⟩ := inB_yes h3
    have b2 : x ≤ 1000001 := by omega
    have c2 : y ≤ 1000001 := by omega
    clear h1 h2 h3 hb
    go_enter Try.func26, Try.ntmps26
    go_wp2_with (first | (go_at_call 60; refine (specSeed _ _).mono ?_; rintro e w' ⟨rfl, rfl⟩; rw [H1.out]) | (go_at_call 61; refine (inS_any _ _ _ _).mono ?_; rintro e w' ⟨rfl, rfl⟩; (first | rw [H2.out] | rw [H3.out])) | (go_at_call 62; refine (specLat _ _ _ a0 a1 b0 b2 c0 c2 _).mono ?_; rintro e w' ⟨g, n, rfl, rfl, hc, hg⟩))
    go_ret2
    exact vpost hc.out hg
theorem implLatN (s x y : Int) (w : World) : Calls Try.prog 27 #[.int .i64 s, .int .i64 x, .int .i64 y] w (VPost (if latB s x y = true then latF s x y else some 0) (latB s x y) w) := by
  cases h1 : seedB s
  · have H1 := Lib.hid h1
    rw [latB_1 h1, if_neg (by decide)]
    clear h1
    go_enter Try.func27, Try.ntmps27
    go_wp2_with (go_at_call 63; refine (implSeed _ _).mono ?_; rintro e w' ⟨rfl, rfl⟩; rw [H1.out])
    go_ret2
    exact vpost_no0
  cases h2 : inB x 0 1000000
  · have H1 := Lib.hid h1
    have H2 := Lib.hid h2
    rw [latB_2 h2, if_neg (by decide)]
    clear h1 h2
    go_enter Try.func27, Try.ntmps27
    go_wp2_with (first | (go_at_call 63; refine (implSeed _ _).mono ?_; rintro e w' ⟨rfl, rfl⟩; rw [H1.out]) | (go_at_call 64; refine (within_any _ _ _ _).mono ?_; rintro e w' ⟨rfl, rfl⟩; rw [H2.out]))
    go_ret2
    exact vpost_no0
  cases h3 : inB y 0 1000000
  · have H1 := Lib.hid h1
    have H2 := Lib.hid h2
    have H3 := Lib.hid h3
    rw [latB_3 h3, if_neg (by decide)]
    clear h1 h2 h3
    go_enter Try.func27, Try.ntmps27
    go_wp2_with (first | (go_at_call 63; refine (implSeed _ _).mono ?_; rintro e w' ⟨rfl, rfl⟩; rw [H1.out]) | (go_at_call 64; refine (within_any _ _ _ _).mono ?_; rintro e w' ⟨rfl, rfl⟩; (first | rw [H2.out] | rw [H3.out])))
    go_ret2
    exact vpost_no0
  · have H1 := Lib.hid h1
    have H2 := Lib.hid h2
    have H3 := Lib.hid h3
    have hb : latB s x y = true := by unfold latB; rw [h1, h2, h3]; rfl
    rw [hb, if_pos rfl]
    obtain ⟨a0, a1⟩ := inB_yes h1
    obtain ⟨b0, b1⟩ := inB_yes h2
    obtain ⟨c0, c1⟩ := inB_yes h3
    have b2 : x ≤ 1000001 := by omega
    have c2 : y ≤ 1000001 := by omega
    clear h1 h2 h3 hb
    go_enter Try.func27, Try.ntmps27
    go_wp2_with (first | (go_at_call 63; refine (implSeed _ _).mono ?_; rintro e w' ⟨rfl, rfl⟩; rw [H1.out]) | (go_at_call 64; refine (within_any _ _ _ _).mono ?_; rintro e w' ⟨rfl, rfl⟩; (first | rw [H2.out] | rw [H3.out])) | (go_at_call 65; refine (implLat _ _ _ a0 a1 b0 b2 c0 c2 _).mono ?_; rintro e w' ⟨g, n, rfl, rfl, hc, hg⟩))
    go_ret2
    exact vpost hc.out hg

theorem lawLat (s x y : Int) (w : World) :
    Calls Try.prog 6 #[.int .i64 s, .int .i64 x, .int .i64 y] w fun e w' => e = .returned (.bool true) ∧ ∃ n, w' = w.drewN n := by
  cases hb : latB s x y
  all_goals
    have HS := specLatN s x y
    have HI := implLatN s x y
    rw [hb] at HS HI
    have H1 := Lib.hid HS
    have H2 := Lib.hid HI
    clear HS HI hb
    go_enter Try.func6, Try.ntmps6
    go_wp2_with (first | (go_at_call 26; refine (H1.out _).mono ?_; rintro e w' ⟨g, n, rfl, rfl, hc, hg⟩) | (go_at_call 27; refine (H2.out _).mono ?_; rintro e w' ⟨g2, n2, rfl, rfl, hc2, hg2⟩) | (go_at_call 28; refine (sameFloat_any _ _ (wid_eq2 (by assumption) (by assumption) (by assumption) (by assumption)) _).mono ?_; rintro e w' ⟨rfl, n3, rfl⟩) | ((with_reducible refine upon_wid ?_ ?_ ?_); rotate_left 2; intro _ _ _ _; rotate_left 1; kernel_rfl; kernel_rfl))
    go_ret
    exact ⟨rfl, _, rfl⟩

end Go.Proofs.Ytalinjggodmijaa
