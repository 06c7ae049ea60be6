/-
  What is proved here: the law's comparisons and looks of lists of bools between blocks. Conditions: at most 1048576 cells.
-/
import Derived.Test.YteojpmnnpinpeaaFie
namespace Go.Proofs.Yteojpmnnpinpeaa
open Go.RowKit
set_option linter.unusedVariables false

attribute [local go_sem] run_store_bool
/-- a copy, and that it has room for itself -/
theorem toBc (A : Option Addr) (n c : Nat) (p : Nat → Bool) (w : World) (hr : RowV w w.heap.size A n (bo p)) (hn : n ≤ 1048576) :
    Calls Try.prog 78 #[.slice A n c] w fun e w' => ∃ A' c', e = .returned (.slice A' n c') ∧ n ≤ c' ∧ Hid (RowW w' w.heap.size w'.heap.size A' n (bo p)) ∧ Hid (Below w.heap.size w w') := by
  have hmk := run_mkB n hn
  have HR := Lib.hid hr
  have C0 : Hid (RowM _ _ n (bo (copB p 0))) := (rowM_new w n (.bool false) 4).ext fun j _ => by simp [copB, bo]
  have B0 : Hid (Below w.heap.size w (w.alloc (.cells (madeCells #[.bool false] n) 4))) := (Below.refl _ _).alloc (Nat.le_refl _) _
  clear hr
  go_enter Try.func78, Try.ntmps78
  go_wp2
  clear hmk
  generalize w.alloc (.cells (madeCells #[.bool false] n) 4) = w1 at *
  generalize hG : w.heap.size = G at *
  have HG := Lib.hid hG
  clear hG
  go_loopw [4] (fun i wr => ∃ k : Nat, k ≤ n ∧ i = .int .i64 k ∧ Hid (RowM wr G n (bo (copB p k))) ∧ Hid (Below G w wr)) (fun i _ => n - (intOf i).toNat)
  case atStart => exact ⟨0, Nat.zero_le _, rfl, C0, B0⟩
  case round =>
    obtain ⟨k, hk, rfl, hC, hB⟩ := hrel
    by_cases hlt : k < n
    · obtain ⟨b, off, rfl, hb, hcell⟩ := HR.out (by omega)
      have hc := hcell k hlt
      unfold bo at hc
      rw [← hB.out.cell (p := ⟨b, off + k, none⟩) hb] at hc
      have hd := hC.out.cell k hlt
      unfold bo at hd
      have hf := hC.out.free k hlt
      have hs := Lib.hid ((hC.out.set (u := .bool (p k)) hlt).ext fun j _ => copB_put p k j)
      have hs2 : Hid (Below G w (wr.setCell ⟨G, k, none⟩ (.bool (p k)))) := hB.out.setCell (Nat.le_refl _) _
      clear hcell hC hB
      go_wp2
      go_roundw
      case rel => exact ⟨k + 1, by omega, by go_num, hs, hs2⟩
      case measure => simp [intOf]; omega
    · have he : k = n := by omega
      have HE := Lib.hid he
      clear he
      go_wp2
      go_ret
      refine ⟨_, _, rfl, Nat.le_refl _, ?_, by rw [HG.out]; exact hB⟩
      rw [HG.out]
      exact (hC.out.rowW (Nat.le_refl _)).ext fun j hj => by unfold bo copB; rw [if_pos (by have := HE.out; omega)]

theorem eqBv (A B : Option Addr) (n c d l1 h1 l2 h2 : Nat) (p : Nat → Bool) (w : World) (hr : RowW w l1 h1 A n (bo p)) (hq : RowW w l2 h2 B n (bo p)) (hn : n ≤ 1048576) :
    Calls Try.prog 85 #[.slice A n c, .slice B n d] w fun e w' => e = .returned (.bool true) ∧ Hid (Below w.heap.size w w') :=
  (eqB A B n c d w.heap.size p w hr.toRow hq.toRow hn).mono fun e w' ⟨h, k, g⟩ => ⟨h, by subst g; exact belowN (Below.refl _ _)⟩

theorem heldBv (A : Option Addr) (n c m lo hi : Nat) (w : World) (hr : RowW w lo hi A n (bo (upB m))) (hn : n ≤ 1048576) (hm : m ≤ 4194304) :
    Calls Try.prog 103 #[.slice A n c, .int .i64 m] w fun e w' => e = .returned (.int .i64 (m + n : Nat)) ∧ Hid (Below w.heap.size w w') :=
  (heldB A n c m w.heap.size w hr.toRow hn hm).mono fun e w' ⟨h, k, g⟩ => ⟨h, by subst g; exact belowN (Below.refl _ _)⟩

end Go.Proofs.Yteojpmnnpinpeaa
