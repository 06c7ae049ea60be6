/-
  What is proved here: the law's copies, comparisons, marks and looks of lists of integers between blocks. Conditions: at most 1048576 numbers.
-/
import Derived.Test.YthhimielelpcoaaCel
import Derived.Test.YthhimielelpcoaaOpenI
namespace Go.Proofs.Ythhimielelpcoaa
open Go.RowKit
set_option linter.unusedVariables false

theorem run_mkI (n : Nat) (hn : n ≤ 1048576) : ∀ W : World, (Instr.makeSlice 34 (.int .i64 (n : Int)) (.int .i64 (n : Int))).run Try.prog W = .ok (.slice (some ⟨W.heap.size, 0, none⟩) n n) (W.alloc (.cells (madeCells #[.int .i64 0] n) 2)) := by
  obtain ⟨i0, hi, hz0, hz1, hz2⟩ := info_parts info_i64
  have hmk := fun W => run_make_rowN (P := Try.prog) 34 2 i0 (.int .i64 0) Try.underlying34 hi hz0 .i64 .i64 n n (Nat.le_refl _) (by rw [hz2]; omega) (by omega) W
  rw [hz1, Nat.mul_one] at hmk
  exact hmk

def copI (p : Nat → Int) (k : Nat) : Nat → Int := fun j => if j < k then p j else 0
theorem copI_put (p : Nat → Int) (k : Nat) : ∀ j, put (iv (copI p k)) k (.int .i64 (p k)) j = iv (copI p (k + 1)) j := fun j => by
  unfold put iv copI
  by_cases e : j = k
  · subst e; rw [if_pos rfl, if_pos (by omega)]
  · rw [if_neg e]
    by_cases h : j < k
    · rw [if_pos h, if_pos (by omega)]
    · rw [if_neg h, if_neg (by omega)]

theorem toIv (A : Option Addr) (n c : Nat) (p : Nat → Int) (w : World) (hr : RowV w w.heap.size A n (iv p)) (hn : n ≤ 1048576) :
    Calls Try.prog 25 #[.slice A n c] w fun e w' => ∃ A' c', e = .returned (.slice A' n c') ∧ Hid (RowW w' w.heap.size w'.heap.size A' n (iv p)) ∧ Hid (Below w.heap.size w w') := by
  have hmk := run_mkI n hn
  have HR := Lib.hid hr
  have C0 : Hid (RowM _ _ n (iv (copI p 0))) := (rowM_new w n (.int .i64 0) 2).ext fun j _ => by simp [copI, iv]
  have B0 : Hid (Below w.heap.size w (w.alloc (.cells (madeCells #[.int .i64 0] n) 2))) := (Below.refl _ _).alloc (Nat.le_refl _) _
  clear hr
  go_enter Try.func25, Try.ntmps25
  go_wp2
  clear hmk
  generalize w.alloc (.cells (madeCells #[.int .i64 0] n) 2) = w1 at *
  generalize hG : w.heap.size = G at *
  have HG := Lib.hid hG
  clear hG
  go_loopw [4] (fun i wr => ∃ k : Nat, k ≤ n ∧ i = .int .i64 k ∧ Hid (RowM wr G n (iv (copI p k))) ∧ Hid (Below G w wr)) (fun i _ => n - (intOf i).toNat)
  case atStart => exact ⟨0, Nat.zero_le _, rfl, C0, B0⟩
  case round =>
    obtain ⟨k, hk, rfl, hC, hB⟩ := hrel
    by_cases hlt : k < n
    · obtain ⟨b, off, rfl, hb, hcell⟩ := HR.out (by omega)
      have hc := hcell k hlt
      unfold iv at hc
      rw [← hB.out.cell (p := ⟨b, off + k, none⟩) hb] at hc
      have hd := hC.out.cell k hlt
      unfold iv at hd
      have hf := hC.out.free k hlt
      have hs := Lib.hid ((hC.out.set (u := .int .i64 (p k)) hlt).ext fun j _ => copI_put p k j)
      have hs2 : Hid (Below G w (wr.setCell ⟨G, k, none⟩ (.int .i64 (p k)))) := hB.out.setCell (Nat.le_refl _) _
      clear hcell hC hB
      go_wp2
      go_roundw
      case rel => exact ⟨k + 1, by omega, by go_num, hs, hs2⟩
      case measure => simp [intOf]; omega
    · have he : k = n := by omega
      have HE := Lib.hid he
      clear he
      go_wp2
      go_ret
      refine ⟨_, _, rfl, ?_, by rw [HG.out]; exact hB⟩
      rw [HG.out]
      exact (hC.out.rowW (Nat.le_refl _)).ext fun j hj => by unfold iv copI; rw [if_pos (by have := HE.out; omega)]

set_option maxHeartbeats 8000000 in
theorem eqIv (A B : Option Addr) (n c d l1 h1 l2 h2 : Nat) (p : Nat → Int) (w : World) (hr : RowW w l1 h1 A n (iv p)) (hq : RowW w l2 h2 B n (iv p)) (hn : n ≤ 1048576) :
    Calls Try.prog 19 #[.slice A n c, .slice B n d] w fun e w' => e = .returned (.bool true) ∧ Hid (Below w.heap.size w w') := by
  have HR := Lib.hid hr.toRow
  have HQ := Lib.hid hq.toRow
  clear hr hq
  go_enter Try.func19, Try.ntmps19
  go_wp2
  go_loopw [5] (fun i wr => ∃ k : Nat, k ≤ n ∧ i = .int .i64 k ∧ ∃ n, wr = w.drewN n) (fun i _ => n - (intOf i).toNat)
  case atStart => exact ⟨0, Nat.zero_le _, rfl, 0, rfl⟩
  case round =>
    obtain ⟨k, hk, rfl, m, rfl⟩ := hrel
    by_cases hlt : k < n
    · obtain ⟨b, off, rfl, hb, hcell⟩ := HR.out (by omega)
      obtain ⟨b2, off2, rfl, hb2, hcell2⟩ := HQ.out (by omega)
      have hc := hcell k hlt
      have hd := hcell2 k hlt
      unfold iv at hc hd
      clear hcell hcell2
      go_wp2_with fail
      go_quiet (fail)
      go_wp2
      go_roundw
      case rel => exact ⟨k + 1, by omega, by go_num, _, rfl⟩
      case measure => simp [intOf]; omega
    · go_wp2
      go_ret
      exact ⟨rfl, belowN (Below.refl _ _)⟩

def upI (m : Nat) : Nat → Int := fun j => ((m + j : Nat) : Int)
def mixI (p : Nat → Int) (m k : Nat) : Nat → Int := fun j => if j < k then ((m + j : Nat) : Int) else p j
theorem mixI_put (p : Nat → Int) (m k : Nat) : ∀ j, put (iv (mixI p m k)) k (.int .i64 ((m + k : Nat) : Int)) j = iv (mixI p m (k + 1)) j := fun j => by
  unfold put iv mixI
  by_cases e : j = k
  · subst e; rw [if_pos rfl, if_pos (by omega)]
  · rw [if_neg e]
    by_cases h : j < k
    · rw [if_pos h, if_pos (by omega)]
    · rw [if_neg h, if_neg (by omega)]

theorem markIv (A : Option Addr) (n c m lo hi : Nat) (p : Nat → Int) (w : World) (hr : RowW w lo hi A n (iv p)) (hn : n ≤ 1048576) (hm : m ≤ 4194304) :
    Calls Try.prog 22 #[.slice A n c, .int .i64 m] w fun e w' => e = .returned (.int .i64 (m + n : Nat)) ∧ Hid (RowW w' lo hi A n (iv (upI m))) ∧ Hid (ButIn lo hi w w') := by
  have HR : Hid (RowW w lo hi A n (iv (mixI p m 0))) := hr.ext fun j _ => by unfold iv mixI; rw [if_neg (Nat.not_lt_zero _)]
  clear hr
  go_enter Try.func22, Try.ntmps22
  go_wp2
  go_loopw [1, 5] (fun q i wr => ∃ k : Nat, k ≤ n ∧ i = .int .i64 k ∧ q = .int .i64 (m + k : Nat) ∧ Hid (RowW wr lo hi A n (iv (mixI p m k))) ∧ Hid (ButIn lo hi w wr)) (fun _ i _ => n - (intOf i).toNat)
  case atStart => exact ⟨0, Nat.zero_le _, rfl, rfl, HR, ButIn.refl _ _ _⟩
  case round =>
    obtain ⟨k, hk, rfl, rfl, hC, hB⟩ := hrel
    by_cases hlt : k < n
    · obtain ⟨b, off, rfl, h1, h2, hcell, hfree⟩ := hC.out.row (by omega)
      have hc := hcell k hlt
      have hf := hfree k hlt
      have N1 := Lib.hid ((hC.out.setW (u := .int .i64 ((m + k : Nat) : Int)) hlt).ext fun j _ => mixI_put p m k j)
      have N2 : Hid (ButIn lo hi w (wr.setCell ⟨b, off + k, none⟩ (.int .i64 ((m + k : Nat) : Int)))) := hB.out.set (q := ⟨b, off + k, none⟩) h1 h2 _
      clear hcell hfree hC hB HR h1 h2
      go_wp2
      go_roundw
      case rel => exact ⟨k + 1, by omega, by go_num, by go_num, N1, N2⟩
      case measure => simp [intOf]; omega
    · have HE : Hid (RowW wr lo hi A n (iv (upI m))) := hC.out.ext fun j hj => by unfold iv mixI upI; rw [if_pos (by omega)]
      have HK : Hid (k = n) := by show k = n; omega
      go_wp2
      go_ret
      exact ⟨by rw [HK.out]; rfl, HE, hB⟩

theorem heldIv (A : Option Addr) (n c m lo hi : Nat) (w : World) (hr : RowW w lo hi A n (iv (upI m))) (hn : n ≤ 1048576) (hm : m ≤ 4194304) :
    Calls Try.prog 23 #[.slice A n c, .int .i64 m] w fun e w' => e = .returned (.int .i64 (m + n : Nat)) ∧ Hid (Below w.heap.size w w') := by
  have HR := Lib.hid hr.toRow
  clear hr
  go_enter Try.func23, Try.ntmps23
  go_wp2
  go_loop [1, 5] (fun q i => ∃ k : Nat, k ≤ n ∧ i = .int .i64 k ∧ q = .int .i64 (m + k : Nat)) (fun _ i => n - (intOf i).toNat)
  case atStart => exact ⟨0, Nat.zero_le _, rfl, rfl⟩
  case round =>
    obtain ⟨k, hk, rfl, rfl⟩ := hrel
    by_cases hlt : k < n
    · obtain ⟨b, off, rfl, hb, hcell⟩ := HR.out (by omega)
      have hc := hcell k hlt
      unfold iv upI at hc
      clear hcell
      go_wp2
      go_round
      case rel => exact ⟨k + 1, by omega, by go_num, by go_num⟩
      case measure => simp [intOf]; omega
    · have HK : Hid (k = n) := by show k = n; omega
      go_wp2
      go_ret
      exact ⟨by rw [HK.out]; rfl, Below.refl _ _⟩

end Go.Proofs.Ythhimielelpcoaa
