/-
  What is proved here: the law's copies, comparisons, marks and looks of lists of integers between blocks. Conditions: at most 1048576 numbers.
-/
import Derived.Test.YtnhcmloaanamnaaCel
import Derived.Test.YtnhcmloaanamnaaOpenI
namespace Go.Proofs.Ytnhcmloaanamnaa
open Go.RowKit
set_option linter.unusedVariables false

theorem run_mkI (n : Nat) (hn : n ≤ 1048576) : ∀ W : World, (Instr.makeSlice 23 (.int .i64 (n : Int)) (.int .i64 (n : Int))).run Try.prog W = .ok (.slice (some ⟨W.heap.size, 0, none⟩) n n) (W.alloc (.cells (madeCells #[.int .i64 0] n) 2)) := by
  obtain ⟨i0, hi, hz0, hz1, hz2⟩ := info_parts info_i64
  have hmk := fun W => run_make_rowN (P := Try.prog) 23 2 i0 (.int .i64 0) Try.underlying23 hi hz0 .i64 .i64 n n (Nat.le_refl _) (by rw [hz2]; omega) (by omega) W
  rw [hz1, Nat.mul_one] at hmk
  exact hmk

def copI (p : Nat → Int) (k : Nat) : Nat → Int := fun j => if j < k then p j else 0
theorem copI_put (p : Nat → Int) (k : Nat) : ∀ j, put (iv (copI p k)) k (.int .i64 (p k)) j = iv (copI p (k + 1)) j := fun j => by
  unfold put iv copI
  by_cases e : j = k
  · subst e; rw [if_pos rfl, if_pos (by omega)]
  · rw [if_neg e]
    by_cases h : j < k
    · rw [if_pos h, if_pos (by omega)]
    · rw [if_neg h, if_neg (by omega)]


set_option maxHeartbeats 8000000 in
theorem eqIv (A B : Option Addr) (n c d l1 h1 l2 h2 : Nat) (p : Nat → Int) (w : World) (hr : RowW w l1 h1 A n (iv p)) (hq : RowW w l2 h2 B n (iv p)) (hn : n ≤ 1048576) :
    Calls Try.prog 12 #[.slice A n c, .slice B n d] w fun e w' => e = .returned (.bool true) ∧ Hid (Below w.heap.size w w') := by
  have HR := Lib.hid hr.toRow
  have HQ := Lib.hid hq.toRow
  clear hr hq
  go_enter Try.func12, Try.ntmps12
  go_wp2
  go_loopw [5] (fun i wr => ∃ k : Nat, k ≤ n ∧ i = .int .i64 k ∧ ∃ n, wr = w.drewN n) (fun i _ => n - (intOf i).toNat)
  case atStart => exact ⟨0, Nat.zero_le _, rfl, 0, rfl⟩
  case round =>
    obtain ⟨k, hk, rfl, m, rfl⟩ := hrel
    by_cases hlt : k < n
    · obtain ⟨b, off, rfl, hb, hcell⟩ := HR.out (by omega)
      obtain ⟨b2, off2, rfl, hb2, hcell2⟩ := HQ.out (by omega)
      have hc := hcell k hlt
      have hd := hcell2 k hlt
      unfold iv at hc hd
      clear hcell hcell2
      go_wp2_with fail
      go_quiet (fail)
      go_wp2
      go_roundw
      case rel => exact ⟨k + 1, by omega, by go_num, _, rfl⟩
      case measure => simp [intOf]; omega
    · go_wp2
      go_ret
      exact ⟨rfl, belowN (Below.refl _ _)⟩

def upI (m : Nat) : Nat → Int := fun j => ((m + j : Nat) : Int)
def mixI (p : Nat → Int) (m k : Nat) : Nat → Int := fun j => if j < k then ((m + j : Nat) : Int) else p j
theorem mixI_put (p : Nat → Int) (m k : Nat) : ∀ j, put (iv (mixI p m k)) k (.int .i64 ((m + k : Nat) : Int)) j = iv (mixI p m (k + 1)) j := fun j => by
  unfold put iv mixI
  by_cases e : j = k
  · subst e; rw [if_pos rfl, if_pos (by omega)]
  · rw [if_neg e]
    by_cases h : j < k
    · rw [if_pos h, if_pos (by omega)]
    · rw [if_neg h, if_neg (by omega)]

theorem markIv (A : Option Addr) (n c m lo hi : Nat) (p : Nat → Int) (w : World) (hr : RowW w lo hi A n (iv p)) (hn : n ≤ 1048576) (hm : m ≤ 4194304) :
    Calls Try.prog 15 #[.slice A n c, .int .i64 m] w fun e w' => e = .returned (.int .i64 (m + n : Nat)) ∧ Hid (RowW w' lo hi A n (iv (upI m))) ∧ Hid (ButIn lo hi w w') := by
  have HR : Hid (RowW w lo hi A n (iv (mixI p m 0))) := hr.ext fun j _ => by unfold iv mixI; rw [if_neg (Nat.not_lt_zero _)]
  clear hr
  go_enter Try.func15, Try.ntmps15
  go_wp2
  go_loopw [1, 5] (fun q i wr => ∃ k : Nat, k ≤ n ∧ i = .int .i64 k ∧ q = .int .i64 (m + k : Nat) ∧ Hid (RowW wr lo hi A n (iv (mixI p m k))) ∧ Hid (ButIn lo hi w wr)) (fun _ i _ => n - (intOf i).toNat)
  case atStart => exact ⟨0, Nat.zero_le _, rfl, rfl, HR, ButIn.refl _ _ _⟩
  case round =>
    obtain ⟨k, hk, rfl, rfl, hC, hB⟩ := hrel
    by_cases hlt : k < n
    · obtain ⟨b, off, rfl, h1, h2, hcell, hfree⟩ := hC.out.row (by omega)
      have hc := hcell k hlt
      have hf := hfree k hlt
      have N1 := Lib.hid ((hC.out.setW (u := .int .i64 ((m + k : Nat) : Int)) hlt).ext fun j _ => mixI_put p m k j)
      have N2 : Hid (ButIn lo hi w (wr.setCell ⟨b, off + k, none⟩ (.int .i64 ((m + k : Nat) : Int)))) := hB.out.set (q := ⟨b, off + k, none⟩) h1 h2 _
      clear hcell hfree hC hB HR h1 h2
      go_wp2
      go_roundw
      case rel => exact ⟨k + 1, by omega, by go_num, by go_num, N1, N2⟩
      case measure => simp [intOf]; omega
    · have HE : Hid (RowW wr lo hi A n (iv (upI m))) := hC.out.ext fun j hj => by unfold iv mixI upI; rw [if_pos (by omega)]
      have HK : Hid (k = n) := by show k = n; omega
      go_wp2
      go_ret
      exact ⟨by rw [HK.out]; rfl, HE, hB⟩

theorem heldIv (A : Option Addr) (n c m lo hi : Nat) (w : World) (hr : RowW w lo hi A n (iv (upI m))) (hn : n ≤ 1048576) (hm : m ≤ 4194304) :
    Calls Try.prog 16 #[.slice A n c, .int .i64 m] w fun e w' => e = .returned (.int .i64 (m + n : Nat)) ∧ Hid (Below w.heap.size w w') := by
  have HR := Lib.hid hr.toRow
  clear hr
  go_enter Try.func16, Try.ntmps16
  go_wp2
  go_loop [1, 5] (fun q i => ∃ k : Nat, k ≤ n ∧ i = .int .i64 k ∧ q = .int .i64 (m + k : Nat)) (fun _ i => n - (intOf i).toNat)
  case atStart => exact ⟨0, Nat.zero_le _, rfl, rfl⟩
  case round =>
    obtain ⟨k, hk, rfl, rfl⟩ := hrel
    by_cases hlt : k < n
    · obtain ⟨b, off, rfl, hb, hcell⟩ := HR.out (by omega)
      have hc := hcell k hlt
      unfold iv upI at hc
      clear hcell
      go_wp2
      go_round
      case rel => exact ⟨k + 1, by omega, by go_num, by go_num⟩
      case measure => simp [intOf]; omega
    · have HK : Hid (k = n) := by show k = n; omega
      go_wp2
      go_ret
      exact ⟨by rw [HK.out]; rfl, Below.refl _ _⟩

end Go.Proofs.Ytnhcmloaanamnaa
