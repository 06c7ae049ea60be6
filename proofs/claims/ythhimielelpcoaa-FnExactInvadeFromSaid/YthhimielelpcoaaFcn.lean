/-
  What is proved here: the full cells of a field and how many there are, of both packages, as walks. Conditions: at most 1048576 cells.
-/
import Derived.Test.YthhimielelpcoaaFva
import Derived.Test.YthhimielelpcoaaGri
namespace Go.Proofs.Ythhimielelpcoaa
open Go.RowKit
set_option linter.unusedVariables false

/-- the full cells below a place -/
def fulL (p : Nat → Bool) : Nat → List Int
  | 0 => []
  | k + 1 => if p k = true then fulL p k ++ [(k : Int)] else fulL p k
def fulN (p : Nat → Bool) : Nat → Nat
  | 0 => 0
  | k + 1 => if p k = true then fulN p k + 1 else fulN p k
theorem fulL_len (p : Nat → Bool) (k : Nat) : (fulL p k).length = fulN p k := by
  induction k with
  | zero => rfl
  | succ k ih =>
    unfold fulL fulN
    split
    · rw [List.length_append, ih]; rfl
    · exact ih
theorem fulN_le (p : Nat → Bool) (k : Nat) : fulN p k ≤ k := by
  induction k with
  | zero => exact Nat.le_refl _
  | succ k ih =>
    unfold fulN
    split <;> omega
theorem fulL_yes {p : Nat → Bool} {k : Nat} (h : p k = true) : fulL p (k + 1) = fulL p k ++ [(k : Int)] := by
  conv => lhs; unfold fulL
  rw [if_pos h]
theorem fulL_no {p : Nat → Bool} {k : Nat} (h : p k = false) : fulL p (k + 1) = fulL p k := by
  conv => lhs; unfold fulL
  rw [if_neg (by rw [h]; decide)]
theorem fulN_yes {p : Nat → Bool} {k : Nat} (h : p k = true) : fulN p (k + 1) = fulN p k + 1 := by
  conv => lhs; unfold fulN
  rw [if_pos h]
theorem fulN_no {p : Nat → Bool} {k : Nat} (h : p k = false) : fulN p (k + 1) = fulN p k := by
  conv => lhs; unfold fulN
  rw [if_neg (by rw [h]; decide)]

set_option maxHeartbeats 4000000 in
theorem implFull (x y : Int) (A : Option Addr) (n c : Nat) (p : Nat → Bool) (w : World) (hr : RowV w w.heap.size A n (bo p)) (hn : n ≤ 1048576) :
    Calls Try.prog 56 #[.agg #[.int .i64 x, .int .i64 y, .slice A n c]] w fun e w' => ∃ A' c', e = .returned (.slice A' (fulL p n).length c') ∧ Hid (GroI w' w.heap.size (fulL p n) A' c') ∧ Hid (Below w.heap.size w w') := by
  have HR := Lib.hid hr
  have HB0 := Lib.hid (below_var w x y A n c 26)
  have H0 : Hid (GroI (w.alloc (.cells #[.int .i64 x, .int .i64 y, .slice A n c] 26)) w.heap.size (fulL p 0) none 0) := GroI.nil _ _
  clear hr
  go_enter Try.func56, Try.ntmps56
  go_wp2
  generalize w.alloc (.cells #[.int .i64 x, .int .i64 y, .slice A n c] 26) = b at *
  go_loopw [3, 9] (fun o i wr => ∃ (k : Nat) (A' : Option Addr) (c' : Nat), k ≤ n ∧ i = .int .i64 k ∧ o = .slice A' (fulL p k).length c' ∧ Hid (GroI wr w.heap.size (fulL p k) A' c') ∧ Hid (Below w.heap.size w wr)) (fun _ i _ => n - (intOf i).toNat)
  case atStart => exact ⟨0, none, 0, Nat.zero_le _, rfl, rfl, H0, HB0⟩
  case round =>
    obtain ⟨k, A', c', hk, rfl, rfl, hO, hB⟩ := hrel
    by_cases hlt : k < n
    · obtain ⟨b1, off, rfl, hb, hcell⟩ := (HR.out.below hB.out) (by omega)
      have hc := hcell k hlt
      unfold bo at hc
      have hl : (fulL p k).length ≤ 1048576 := by rw [fulL_len]; have := fulN_le p k; omega
      have hsz : Hid (w.heap.size ≤ wr.heap.size) := hB.out.size
      clear hcell hb
      cases hp : p k
      · have E := Lib.hid (fulL_no hp)
        rw [hp] at hc
        clear hp
        go_wp2
        go_roundw
        case rel => exact ⟨k + 1, A', c', by omega, by go_num, by rw [E.out], by rw [E.out]; exact hO, hB⟩
        case measure => simp [intOf]; omega
      · have E := Lib.hid (fulL_yes hp)
        rw [hp] at hc
        clear hp
        go_wp2_with (at_builtin; refine wpGroI rfl _ _ rfl (w0 := wr) hO.out rfl rfl rfl hl hsz.out ?_; intro g2 c2 w4 O4 B4; have HO4 := Lib.hid O4; have HB4 := Lib.hid (hB.out.trans B4); clear O4 B4)
        go_roundw
        case rel => exact ⟨k + 1, _, _, by omega, by go_num, by rw [E.out, List.length_append]; rfl, by rw [E.out]; exact HO4, HB4⟩
        case measure => simp [intOf]; omega
    · have HE : Hid (k = n) := by show k = n; omega
      go_wp2
      go_ret
      have e := HE.out
      subst e
      exact ⟨A', c', rfl, hO, hB⟩




end Go.Proofs.Ythhimielelpcoaa
