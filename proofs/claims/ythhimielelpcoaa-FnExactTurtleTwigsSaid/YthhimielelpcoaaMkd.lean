/-
  What is proved here: the law's marks and looks of rows of complex numbers, from any number on. Conditions: at most 1025 in all.
-/
import Derived.Test.YthhimielelpcoaaRci
namespace Go.Proofs.Ythhimielelpcoaa
open Flt Go.RowKit
attribute [local go_sem] run_store_complex
set_option linter.unusedVariables false

theorem markMD (m : Nat) (A : Option Addr) (c B : Nat) (zs : List (Nat × Nat)) (w : World) (hr : OwnC w B A zs) (hn : m + zs.length ≤ 1025) :
    Calls Try.prog 31 #[.slice A zs.length c, .int .i64 m] w fun e w' => e = .returned (.int .i64 (m + zs.length : Nat)) ∧ Hid (OwnC w' B A (upC m zs.length)) ∧ Hid (But B A w w') := by
  have HR : Hid (OwnC w B A (mixC zs m 0)) := by rw [mixC_zero]; exact hr
  clear hr
  go_enter Try.func31, Try.ntmps31
  go_wp2
  go_loopw [1, 5] (fun q i wr => ∃ k : Nat, k ≤ zs.length ∧ i = .int .i64 k ∧ q = .int .i64 (m + k : Nat) ∧ Hid (OwnC wr B A (mixC zs m k)) ∧ Hid (But B A w wr)) (fun _ i _ => zs.length - (intOf i).toNat)
  case atStart => exact ⟨0, Nat.zero_le _, rfl, rfl, HR, But.refl _ _ _⟩
  case round =>
    obtain ⟨k, hk, rfl, rfl, hC, hB⟩ := hrel
    by_cases hlt : k < zs.length
    · obtain ⟨b, off, rfl, hle, hb, hcell, hfree⟩ := hC.out (by rw [mixC_length]; omega)
      have hc := hcell k (by rw [mixC_length]; omega)
      unfold cV at hc
      have hf := hfree k (by rw [mixC_length]; omega)
      have N1 : Hid (OwnC (wr.setCell ⟨b, off + k, none⟩ (.complex .f32 (cI (m + k)) one32)) B (some ⟨b, off, none⟩) (mixC zs m (k + 1))) :=
        hC.out.set (x := (cI (m + k), one32)) (by rw [mixC_length]; omega) (by rw [mixC_length, mixC_length]) fun j hj => by
          rw [mixC_length] at hj
          rw [at_mixC hj, at_mixC hj]
          by_cases e : j = k
          · subst e; rw [if_pos (by omega), if_pos rfl]
          · rw [if_neg e]
            by_cases h : j < k
            · rw [if_pos h, if_pos (by omega)]
            · rw [if_neg h, if_neg (by omega)]
      have N2 : Hid (But B (some ⟨b, off, none⟩) w (wr.setCell ⟨b, off + k, none⟩ (.complex .f32 (cI (m + k)) one32))) := hB.out.setCell (p := ⟨b, off, none⟩) (q := ⟨b, off + k, none⟩) rfl rfl hle _
      have hfl : floatOfInt .f64 ((m : Int) + (k : Int)) = wI (m + k) := by unfold wI; congr 1
      have hcm := fun W => conv_markD (P := Try.prog) (src := 122) (dst := 113) (by kernel_rfl) (by kernel_rfl) (m + k) (by omega) W
      clear hcell hfree hC hB HR hle
      go_wp2
      go_roundw
      case rel => exact ⟨k + 1, by omega, by go_num, by go_num, N1, N2⟩
      case measure => simp [intOf]; omega
    · have HE : Hid (mixC zs m k = upC m zs.length) := by rw [show k = zs.length by omega]; exact mixC_all _ _
      have HK : Hid (k = zs.length) := by show k = zs.length; omega
      go_wp2
      go_ret
      exact ⟨by rw [HK.out]; rfl, by rw [← HE.out]; exact hC, hB⟩

theorem heldMD (m : Nat) (A : Option Addr) (c Z n : Nat) (w : World) (hr : RowC w Z A (upC m n)) (hn : m + n ≤ 1025) :
    Calls Try.prog 32 #[.slice A n c, .int .i64 m] w fun e w' => e = .returned (.int .i64 (m + n : Nat)) ∧ w = w' := by
  have HR := Lib.hid hr
  clear hr
  go_enter Try.func32, Try.ntmps32
  go_wp2
  go_loop [1, 5] (fun q i => ∃ k : Nat, k ≤ n ∧ i = .int .i64 k ∧ q = .int .i64 (m + k : Nat)) (fun _ i => n - (intOf i).toNat)
  case atStart => exact ⟨0, Nat.zero_le _, rfl, rfl⟩
  case round =>
    obtain ⟨k, hk, rfl, rfl⟩ := hrel
    by_cases hlt : k < n
    · obtain ⟨b, off, rfl, hb, hcell⟩ := HR.out (by rw [upC_length]; omega)
      have hc := hcell k (by rw [upC_length]; omega)
      rw [at_upC hlt] at hc
      unfold cV at hc
      simp only at hc
      have hfl : floatOfInt .f64 ((m : Int) + (k : Int)) = wI (m + k) := by unfold wI; congr 1
      have hcm := fun W => conv_markD (P := Try.prog) (src := 122) (dst := 113) (by kernel_rfl) (by kernel_rfl) (m + k) (by omega) W
      have hs1 := (cI_allD ⟨m + k, by omega⟩).2
      simp only at hs1
      have hs2 := one_all.2
      clear hcell
      go_wp2
      go_round
      case rel => exact ⟨k + 1, by omega, by go_num, by go_num⟩
      case measure => simp [intOf]; omega
    · have HK : Hid (k = n) := by show k = n; omega
      go_wp2
      go_ret
      exact ⟨by rw [HK.out]; rfl, rfl⟩

theorem markN (m : Nat) (A : Option Addr) (c lo hi : Nat) (zs : List (Nat × Nat)) (w : World) (hr : RowCI w lo hi A zs) (hn : m + zs.length ≤ 1025) :
    Calls Try.prog 31 #[.slice A zs.length c, .int .i64 m] w fun e w' => e = .returned (.int .i64 (m + zs.length : Nat)) ∧ Hid (RowCI w' lo hi A (upC m zs.length)) ∧ Hid (ButIn lo hi w w') :=
  (markMD m A c lo zs w hr.toOwn hn).mono fun _ w' ⟨h1, h2, h3⟩ => ⟨h1, ⟨by rw [h3.out.size]; exact hr.le, hr.inn, fun h0 => by
    obtain ⟨b, off, hA, q1, q2, hc, hf⟩ := h2.out h0
    exact ⟨b, off, hA, q1, (hr.inn _ hA).2, hc, hf⟩⟩, h3.out.butIn hr.inn⟩
theorem heldN (m : Nat) (A : Option Addr) (c lo hi n : Nat) (w : World) (hr : RowCI w lo hi A (upC m n)) (hn : m + n ≤ 1025) :
    Calls Try.prog 32 #[.slice A n c, .int .i64 m] w fun e w' => e = .returned (.int .i64 (m + n : Nat)) ∧ Hid (Below w.heap.size w w') :=
  (heldMD m A c w.heap.size n w hr.toRow hn).mono fun _ w' ⟨h1, h2⟩ => ⟨h1, by subst h2; exact Below.refl _ _⟩

end Go.Proofs.Ythhimielelpcoaa
