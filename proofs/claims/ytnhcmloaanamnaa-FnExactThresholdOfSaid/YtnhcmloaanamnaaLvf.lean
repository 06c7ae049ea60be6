/-
  What is proved here: the law's copies, comparisons, marks and looks of lists of 32-bit numbers between blocks; whether all are finite. Conditions: at most 1048576 numbers.
-/
import Derived.Test.YtnhcmloaanamnaaCel
import Derived.Test.YtnhcmloaanamnaaOwnF
namespace Go.Proofs.Ytnhcmloaanamnaa
open Flt Go.RowKit
set_option linter.unusedVariables false
attribute [local go_sem] run_store_float

/-- all numbers are finite -/
def finAll (zs : List Nat) : Bool := zs.all (finB .f32)
theorem finAll_no {zs : List Nat} {k : Nat} (hk : k < zs.length) (h : finB .f32 (at0 zs k) = false) : finAll zs = false := by
  unfold finAll
  rw [Bool.eq_false_iff]
  intro g
  have := List.all_eq_true.1 g (at0 zs k) (by unfold at0; rw [List.getD_eq_getElem?_getD, List.getElem?_eq_getElem hk]; exact List.getElem_mem hk)
  rw [h] at this; cases this
theorem finAll_yes {zs : List Nat} (h : ∀ j, j < zs.length → finB .f32 (at0 zs j) = true) : finAll zs = true := by
  unfold finAll
  refine List.all_eq_true.2 fun x hx => ?_
  obtain ⟨j, hj, rfl⟩ := List.mem_iff_getElem.1 hx
  have := h j hj
  unfold at0 at this
  rwa [List.getD_eq_getElem?_getD, List.getElem?_eq_getElem hj] at this
theorem finAll_at {zs : List Nat} (h : finAll zs = true) {j : Nat} (hj : j < zs.length) : finB .f32 (at0 zs j) = true := by
  cases e : finB .f32 (at0 zs j) with
  | true => rfl
  | false => rw [finAll_no hj e] at h; cases h

theorem specFins (A : Option Addr) (c : Nat) (zs : List Nat) (w : World) (Z : Nat) (hr : RowF w Z A zs) (hn : zs.length ≤ 1048576) :
    Calls Try.prog 68 #[.slice A zs.length c] w fun e w' => e = .returned (.bool (finAll zs)) ∧ ∃ n, w' = w.drewN n := by
  have HR := Lib.hid hr
  clear hr
  go_enter Try.func68, Try.ntmps68
  go_wp2
  go_loopw [3] (fun i wr => ∃ k : Nat, k ≤ zs.length ∧ i = .int .i64 k ∧ Hid (∀ j, j < k → finB .f32 (at0 zs j) = true) ∧ ∃ n, wr = w.drewN n) (fun i _ => zs.length - (intOf i).toNat)
  case atStart => exact ⟨0, Nat.zero_le _, rfl, fun j h => absurd h (Nat.not_lt_zero _), 0, rfl⟩
  case round =>
    obtain ⟨k, hk, rfl, hJ, n, rfl⟩ := hrel
    by_cases hlt : k < zs.length
    · obtain ⟨b, off, rfl, hb, hcell⟩ := HR.out (by omega)
      have hc := hcell k hlt
      clear hcell
      cases hf : finB .f32 (at0 zs k)
      · have N := Lib.hid (finAll_no hlt hf)
        have HF := Lib.hid hf
        clear hf hJ
        go_wp2_with (go_at_call 84; refine (specFin _ _).mono ?_; rintro e w' ⟨rfl, n2, rfl⟩; rw [HF.out])
        go_ret
        exact ⟨by rw [N.out]; rfl, _, rfl⟩
      · have HF := Lib.hid hf
        have HJ : Hid (∀ j, j < k + 1 → finB .f32 (at0 zs j) = true) := fun j hj => by
          by_cases e : j = k
          · rw [e]; exact HF.out
          · exact hJ.out j (by omega)
        clear hf hJ
        go_wp2_with (go_at_call 84; refine (specFin _ _).mono ?_; rintro e w' ⟨rfl, n2, rfl⟩; rw [HF.out])
        go_roundw
        case rel => exact ⟨k + 1, by omega, by go_num, HJ, _, rfl⟩
        case measure => simp [intOf]; omega
    · have N : Hid (finAll zs = true) := finAll_yes fun j hj => hJ.out j (by omega)
      go_wp2
      go_ret
      exact ⟨by rw [N.out]; rfl, _, rfl⟩

theorem implFins (A : Option Addr) (c : Nat) (zs : List Nat) (w : World) (Z : Nat) (hr : RowF w Z A zs) (hn : zs.length ≤ 1048576) :
    Calls Try.prog 42 #[.slice A zs.length c] w fun e w' => e = .returned (.bool (finAll zs)) ∧ ∃ n, w' = w.drewN n := by
  have HR := Lib.hid hr
  clear hr
  go_enter Try.func42, Try.ntmps42
  go_wp2
  go_loopw [7] (fun i wr => ∃ k : Nat, k ≤ zs.length ∧ i = .int .i64 k ∧ Hid (∀ j, j < k → finB .f32 (at0 zs j) = true) ∧ ∃ n, wr = w.drewN n) (fun i _ => zs.length - (intOf i).toNat)
  case atStart => exact ⟨0, Nat.zero_le _, rfl, fun j h => absurd h (Nat.not_lt_zero _), 0, rfl⟩
  case round =>
    obtain ⟨k, hk, rfl, hJ, n, rfl⟩ := hrel
    by_cases hlt : k < zs.length
    · obtain ⟨b, off, rfl, hb, hcell⟩ := HR.out (by omega)
      have hc := hcell k hlt
      clear hcell
      cases hf : finB .f32 (at0 zs k)
      · have N := Lib.hid (finAll_no hlt hf)
        have HF := Lib.hid hf
        clear hf hJ
        go_wp2_with (go_at_call 81; refine (implFin _ _).mono ?_; rintro e w' ⟨rfl, n2, rfl⟩; rw [HF.out])
        go_ret
        exact ⟨by rw [N.out]; rfl, _, rfl⟩
      · have HF := Lib.hid hf
        have HJ : Hid (∀ j, j < k + 1 → finB .f32 (at0 zs j) = true) := fun j hj => by
          by_cases e : j = k
          · rw [e]; exact HF.out
          · exact hJ.out j (by omega)
        clear hf hJ
        go_wp2_with (go_at_call 81; refine (implFin _ _).mono ?_; rintro e w' ⟨rfl, n2, rfl⟩; rw [HF.out])
        go_roundw
        case rel => exact ⟨k + 1, by omega, by go_num, HJ, _, rfl⟩
        case measure => simp [intOf]; omega
    · have N : Hid (finAll zs = true) := finAll_yes fun j hj => hJ.out j (by omega)
      go_wp2
      go_ret
      exact ⟨by rw [N.out]; rfl, _, rfl⟩


/-- numbers, as cells -/
def fv (f : Nat → Nat) : Nat → Value := fun j => .float .f32 (f j)
theorem run_mkF (n : Nat) (hn : n ≤ 1048576) : ∀ W : World, (Instr.makeSlice 22 (.int .i64 (n : Int)) (.int .i64 (n : Int))).run Try.prog W = .ok (.slice (some ⟨W.heap.size, 0, none⟩) n n) (W.alloc (.cells (madeCells #[.float .f32 0] n) 34)) := by
  obtain ⟨i0, hi, hz0, hz1, hz2⟩ := info_parts info_f32
  have hmk := fun W => run_make_rowN (P := Try.prog) 22 34 i0 (.float .f32 0) Try.underlying22 hi hz0 .i64 .i64 n n (Nat.le_refl _) (by rw [hz2]; omega) (by omega) W
  rw [hz1, Nat.mul_one] at hmk
  exact hmk

def copF (p : Nat → Nat) (k : Nat) : Nat → Nat := fun j => if j < k then p j else 0
theorem copF_put (p : Nat → Nat) (k : Nat) : ∀ j, put (fv (copF p k)) k (.float .f32 (p k)) j = fv (copF p (k + 1)) j := fun j => by
  unfold put fv copF
  by_cases e : j = k
  · subst e; rw [if_pos rfl, if_pos (by omega)]
  · rw [if_neg e]
    by_cases h : j < k
    · rw [if_pos h, if_pos (by omega)]
    · rw [if_neg h, if_neg (by omega)]

theorem toFv (A : Option Addr) (n c : Nat) (p : Nat → Nat) (w : World) (hr : RowV w w.heap.size A n (fv p)) (hn : n ≤ 1048576) :
    Calls Try.prog 10 #[.slice A n c] w fun e w' => ∃ A' c', e = .returned (.slice A' n c') ∧ Hid (RowW w' w.heap.size w'.heap.size A' n (fv p)) ∧ Hid (Below w.heap.size w w') := by
  have hmk := run_mkF n hn
  have HR := Lib.hid hr
  have C0 : Hid (RowM _ _ n (fv (copF p 0))) := (rowM_new w n (.float .f32 0) 34).ext fun j _ => by simp [copF, fv]
  have B0 : Hid (Below w.heap.size w (w.alloc (.cells (madeCells #[.float .f32 0] n) 34))) := (Below.refl _ _).alloc (Nat.le_refl _) _
  clear hr
  go_enter Try.func10, Try.ntmps10
  go_wp2
  clear hmk
  generalize w.alloc (.cells (madeCells #[.float .f32 0] n) 34) = w1 at *
  generalize hG : w.heap.size = G at *
  have HG := Lib.hid hG
  clear hG
  go_loopw [4] (fun i wr => ∃ k : Nat, k ≤ n ∧ i = .int .i64 k ∧ Hid (RowM wr G n (fv (copF p k))) ∧ Hid (Below G w wr)) (fun i _ => n - (intOf i).toNat)
  case atStart => exact ⟨0, Nat.zero_le _, rfl, C0, B0⟩
  case round =>
    obtain ⟨k, hk, rfl, hC, hB⟩ := hrel
    by_cases hlt : k < n
    · obtain ⟨b, off, rfl, hb, hcell⟩ := HR.out (by omega)
      have hc := hcell k hlt
      unfold fv at hc
      rw [← hB.out.cell (p := ⟨b, off + k, none⟩) hb] at hc
      have hd := hC.out.cell k hlt
      unfold fv at hd
      have hf := hC.out.free k hlt
      have hs := Lib.hid ((hC.out.set (u := .float .f32 (p k)) hlt).ext fun j _ => copF_put p k j)
      have hs2 : Hid (Below G w (wr.setCell ⟨G, k, none⟩ (.float .f32 (p k)))) := hB.out.setCell (Nat.le_refl _) _
      clear hcell hC hB
      go_wp2
      go_roundw
      case rel => exact ⟨k + 1, by omega, by go_num, hs, hs2⟩
      case measure => simp [intOf]; omega
    · have he : k = n := by omega
      have HE := Lib.hid he
      clear he
      go_wp2
      go_ret
      refine ⟨_, _, rfl, ?_, by rw [HG.out]; exact hB⟩
      rw [HG.out]
      exact (hC.out.rowW (Nat.le_refl _)).ext fun j hj => by unfold fv copF; rw [if_pos (by have := HE.out; omega)]


set_option maxHeartbeats 8000000 in
theorem eqFv (A B : Option Addr) (n c d l1 h1 l2 h2 : Nat) (p : Nat → Nat) (w : World) (hr : RowW w l1 h1 A n (fv p)) (hq : RowW w l2 h2 B n (fv p)) (hn : n ≤ 1048576) :
    Calls Try.prog 13 #[.slice A n c, .slice B n d] w fun e w' => e = .returned (.bool true) ∧ Hid (Below w.heap.size w w') := by
  have HR := Lib.hid hr.toRow
  have HQ := Lib.hid hq.toRow
  clear hr hq
  go_enter Try.func13, Try.ntmps13
  go_wp2
  go_loopw [5] (fun i wr => ∃ k : Nat, k ≤ n ∧ i = .int .i64 k ∧ ∃ n, wr = w.drewN n) (fun i _ => n - (intOf i).toNat)
  case atStart => exact ⟨0, Nat.zero_le _, rfl, 0, rfl⟩
  case round =>
    obtain ⟨k, hk, rfl, m, rfl⟩ := hrel
    by_cases hlt : k < n
    · obtain ⟨b, off, rfl, hb, hcell⟩ := HR.out (by omega)
      obtain ⟨b2, off2, rfl, hb2, hcell2⟩ := HQ.out (by omega)
      have hc := hcell k hlt
      have hd := hcell2 k hlt
      unfold fv at hc hd
      clear hcell hcell2
      go_wp2_with fail
      go_region_with (first | (go_at_call 22; refine (sameFloat_any _ _ (wid_eq (by assumption) (by assumption)) _).mono ?_; rintro e w' ⟨rfl, n2, rfl⟩) | ((with_reducible refine upon_wid ?_ ?_ ?_); rotate_left 2; intro _ _ _ _; rotate_left 1; kernel_rfl; kernel_rfl))
      all_goals
        go_wp2
        go_roundw
        case rel => exact ⟨k + 1, by omega, by go_num, _, rfl⟩
        case measure => simp [intOf]; omega
    · go_wp2
      go_ret
      exact ⟨rfl, belowN (Below.refl _ _)⟩

def upFv (m : Nat) : Nat → Nat := fun j => fI (m + j)
def mixFv (p : Nat → Nat) (m k : Nat) : Nat → Nat := fun j => if j < k then fI (m + j) else p j
theorem mixFv_put (p : Nat → Nat) (m k : Nat) : ∀ j, put (fv (mixFv p m k)) k (.float .f32 (fI (m + k))) j = fv (mixFv p m (k + 1)) j := fun j => by
  unfold put fv mixFv
  by_cases e : j = k
  · subst e; rw [if_pos rfl, if_pos (by omega)]
  · rw [if_neg e]
    by_cases h : j < k
    · rw [if_pos h, if_pos (by omega)]
    · rw [if_neg h, if_neg (by omega)]

theorem markFv (A : Option Addr) (n c m lo hi : Nat) (p : Nat → Nat) (w : World) (hr : RowW w lo hi A n (fv p)) (hn : n ≤ 1048576) (hm : m ≤ 1048576) :
    Calls Try.prog 14 #[.slice A n c, .int .i64 m] w fun e w' => e = .returned (.int .i64 (m + n : Nat)) ∧ Hid (RowW w' lo hi A n (fv (upFv m))) ∧ Hid (ButIn lo hi w w') := by
  have HR : Hid (RowW w lo hi A n (fv (mixFv p m 0))) := hr.ext fun j _ => by unfold fv mixFv; rw [if_neg (Nat.not_lt_zero _)]
  clear hr
  go_enter Try.func14, Try.ntmps14
  go_wp2
  go_loopw [1, 5] (fun q i wr => ∃ k : Nat, k ≤ n ∧ i = .int .i64 k ∧ q = .int .i64 (m + k : Nat) ∧ Hid (RowW wr lo hi A n (fv (mixFv p m k))) ∧ Hid (ButIn lo hi w wr)) (fun _ i _ => n - (intOf i).toNat)
  case atStart => exact ⟨0, Nat.zero_le _, rfl, rfl, HR, ButIn.refl _ _ _⟩
  case round =>
    obtain ⟨k, hk, rfl, rfl, hC, hB⟩ := hrel
    by_cases hlt : k < n
    · obtain ⟨b, off, rfl, h1, h2, hcell, hfree⟩ := hC.out.row (by omega)
      have hc := hcell k hlt
      have hf := hfree k hlt
      have N1 := Lib.hid ((hC.out.setW (u := .float .f32 (fI (m + k))) hlt).ext fun j _ => mixFv_put p m k j)
      have N2 : Hid (ButIn lo hi w (wr.setCell ⟨b, off + k, none⟩ (.float .f32 (fI (m + k))))) := hB.out.set (q := ⟨b, off + k, none⟩) h1 h2 _
      have hfl : floatOfInt .f32 ((m : Int) + (k : Int)) = fI (m + k) := by unfold fI; congr 1
      clear hcell hfree hC hB HR h1 h2
      go_wp2
      go_roundw
      case rel => exact ⟨k + 1, by omega, by go_num, by go_num, N1, N2⟩
      case measure => simp [intOf]; omega
    · have HE : Hid (RowW wr lo hi A n (fv (upFv m))) := hC.out.ext fun j hj => by unfold fv mixFv upFv; rw [if_pos (by omega)]
      have HK : Hid (k = n) := by show k = n; omega
      go_wp2
      go_ret
      exact ⟨by rw [HK.out]; rfl, HE, hB⟩

theorem heldFv (A : Option Addr) (n c m lo hi : Nat) (w : World) (hr : RowW w lo hi A n (fv (upFv m))) (hn : n ≤ 1048576) (hm : m ≤ 1048576) :
    Calls Try.prog 19 #[.slice A n c, .int .i64 m] w fun e w' => e = .returned (.int .i64 (m + n : Nat)) ∧ Hid (Below w.heap.size w w') := by
  have HR := Lib.hid hr.toRow
  clear hr
  go_enter Try.func19, Try.ntmps19
  go_wp2
  go_loop [1, 5] (fun q i => ∃ k : Nat, k ≤ n ∧ i = .int .i64 k ∧ q = .int .i64 (m + k : Nat)) (fun _ i => n - (intOf i).toNat)
  case atStart => exact ⟨0, Nat.zero_le _, rfl, rfl⟩
  case round =>
    obtain ⟨k, hk, rfl, rfl⟩ := hrel
    by_cases hlt : k < n
    · obtain ⟨b, off, rfl, hb, hcell⟩ := HR.out (by omega)
      have hc := hcell k hlt
      unfold fv upFv at hc
      have hfl : floatOfInt .f32 ((m : Int) + (k : Int)) = fI (m + k) := by unfold fI; congr 1
      have hself := fI_self (m + k)
      clear hcell
      go_wp2
      go_round
      case rel => exact ⟨k + 1, by omega, by go_num, by go_num⟩
      case measure => simp [intOf]; omega
    · have HK : Hid (k = n) := by show k = n; omega
      go_wp2
      go_ret
      exact ⟨by rw [HK.out]; rfl, Below.refl _ _⟩

end Go.Proofs.Ytnhcmloaanamnaa
