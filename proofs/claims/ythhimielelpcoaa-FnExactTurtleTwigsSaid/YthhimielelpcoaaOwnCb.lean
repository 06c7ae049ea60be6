/-
  What is proved here: the law's comparison, marks and looks of rows of complex numbers, as walks. Conditions: at most 256 numbers.
-/
import Derived.Test.YthhimielelpcoaaOwnC
namespace Go.Proofs.Ythhimielelpcoaa
open Flt Go.RowKit
attribute [local go_sem] run_store_complex

theorem widc_same {a r s : Nat} {c : Nat} (h1 : Hid (can .f64 r = wid (can .f32 a))) (h2 : Hid (can .f64 s = wid (can .f32 c))) (h : a = c) : can .f64 r = can .f64 s := by rw [h1.out, h2.out, h]

theorem sameC2 (a b c d : Nat) (h1 : can .f64 a = can .f64 c) (h2 : can .f64 b = can .f64 d) (w : World) :
    Calls Try.prog 87 #[.complex .f64 a b, .complex .f64 c d] w fun e w' => e = .returned (.bool true) ∧ ∃ n, w' = w.drewN n := by
  have H1 := Lib.hid h1
  have H2 := Lib.hid h2
  clear h1 h2
  go_enter Try.func87, Try.ntmps87
  go_wp2_with (first | (go_at_call 27; ((with_reducible refine (sameFloat_any a c H1.out _).mono ?_); rintro e w' ⟨rfl, n, rfl⟩)) | (go_at_call 27; ((with_reducible refine (sameFloat_any b d H2.out _).mono ?_); rintro e w' ⟨rfl, n, rfl⟩)))
  go_ret
  exact ⟨rfl, _, rfl⟩

set_option maxHeartbeats 16000000 in
theorem eqC (A B : Option Addr) (c d : Nat) (zs : List (Nat × Nat)) (w : World) (Z : Nat) (hr : RowC w Z A zs) (hq : RowC w Z B zs) (hn : zs.length ≤ 1048576) :
    Calls Try.prog 30 #[.slice A zs.length c, .slice B zs.length d] w fun e w' => e = .returned (.bool true) ∧ ∃ n, w' = w.drewN n := by
  have HR := Lib.hid hr
  have HQ := Lib.hid hq
  clear hr hq
  go_enter Try.func30, Try.ntmps30
  go_wp2
  go_loopw [5] (fun i wr => ∃ k : Nat, k ≤ zs.length ∧ i = .int .i64 k ∧ ∃ n, wr = w.drewN n) (fun i _ => zs.length - (intOf i).toNat)
  case atStart => exact ⟨0, Nat.zero_le _, rfl, 0, rfl⟩
  case round =>
    obtain ⟨k, hk, rfl, n, rfl⟩ := hrel
    by_cases hlt : k < zs.length
    · obtain ⟨b, off, rfl, hb, hcell⟩ := HR.out (by omega)
      obtain ⟨b2, off2, rfl, hb2, hcell2⟩ := HQ.out (by omega)
      have hc := hcell k hlt
      have hd := hcell2 k hlt
      unfold cV at hc hd
      generalize (atC zs k).1 = p at hc hd
      generalize (atC zs k).2 = q at hc hd
      clear hcell hcell2
      go_wp2_with fail
      go_region_with (first | (go_at_call 87; refine (sameC2 _ _ _ _ (widc_same (by assumption) (by assumption) rfl) (widc_same (by assumption) (by assumption) rfl) _).mono ?_; rintro e w' ⟨rfl, n2, rfl⟩) | ((with_reducible refine upon_widc ?_ ?_ ?_); rotate_left 2; intro _ _ _ _ _; rotate_left 1; kernel_rfl; kernel_rfl))
      all_goals
        go_wp2
        go_roundw
        case rel => exact ⟨k + 1, by omega, by go_num, _, rfl⟩
        case measure => simp [intOf]; omega
    · go_wp2
      go_ret
      exact ⟨rfl, _, rfl⟩

theorem mark1C (A : Option Addr) (c B : Nat) (zs : List (Nat × Nat)) (w : World) (hr : OwnC w B A zs) (hn : zs.length ≤ 256) :
    Calls Try.prog 31 #[.slice A zs.length c, .int .i64 1] w fun e w' => e = .returned (.int .i64 (1 + zs.length : Nat)) ∧ Hid (OwnC w' B A (upC 1 zs.length)) ∧ Hid (But B A w w') := by
  have HR : Hid (OwnC w B A (mixC zs 1 0)) := by rw [mixC_zero]; exact hr
  clear hr
  go_enter Try.func31, Try.ntmps31
  go_wp2
  go_loopw [1, 5] (fun q i wr => ∃ k : Nat, k ≤ zs.length ∧ i = .int .i64 k ∧ q = .int .i64 (1 + k : Nat) ∧ Hid (OwnC wr B A (mixC zs 1 k)) ∧ Hid (But B A w wr)) (fun _ i _ => zs.length - (intOf i).toNat)
  case atStart => exact ⟨0, Nat.zero_le _, rfl, rfl, HR, But.refl _ _ _⟩
  case round =>
    obtain ⟨k, hk, rfl, rfl, hC, hB⟩ := hrel
    by_cases hlt : k < zs.length
    · obtain ⟨b, off, rfl, hle, hb, hcell, hfree⟩ := hC.out (by rw [mixC_length]; omega)
      have hc := hcell k (by rw [mixC_length]; omega)
      unfold cV at hc
      have hf := hfree k (by rw [mixC_length]; omega)
      have N1 : Hid (OwnC (wr.setCell ⟨b, off + k, none⟩ (.complex .f32 (cI (1 + k)) one32)) B (some ⟨b, off, none⟩) (mixC zs 1 (k + 1))) :=
        hC.out.set (x := (cI (1 + k), one32)) (by rw [mixC_length]; omega) (by rw [mixC_length, mixC_length]) fun j hj => by
          rw [mixC_length] at hj
          rw [at_mixC hj, at_mixC hj]
          by_cases e : j = k
          · subst e; rw [if_pos (by omega), if_pos rfl]
          · rw [if_neg e]
            by_cases h : j < k
            · rw [if_pos h, if_pos (by omega)]
            · rw [if_neg h, if_neg (by omega)]
      have N2 : Hid (But B (some ⟨b, off, none⟩) w (wr.setCell ⟨b, off + k, none⟩ (.complex .f32 (cI (1 + k)) one32))) := hB.out.setCell (p := ⟨b, off, none⟩) (q := ⟨b, off + k, none⟩) rfl rfl hle _
      have hfl : floatOfInt .f64 ((1 : Int) + (k : Int)) = wI (1 + k) := by unfold wI; congr 1
      have hcm := fun W => conv_mark (P := Try.prog) (src := 122) (dst := 113) (by kernel_rfl) (by kernel_rfl) (1 + k) (by omega) W
      clear hcell hfree hC hB HR hle
      go_wp2
      go_roundw
      case rel => exact ⟨k + 1, by omega, by go_num, by go_num, N1, N2⟩
      case measure => simp [intOf]; omega
    · have HE : Hid (mixC zs 1 k = upC 1 zs.length) := by rw [show k = zs.length by omega]; exact mixC_all _ _
      have HK : Hid (k = zs.length) := by show k = zs.length; omega
      go_wp2
      go_ret
      exact ⟨by rw [HK.out]; rfl, by rw [← HE.out]; exact hC, hB⟩

theorem held1C (A : Option Addr) (c Z n : Nat) (w : World) (hr : RowC w Z A (upC 1 n)) (hn : n ≤ 256) :
    Calls Try.prog 32 #[.slice A n c, .int .i64 1] w fun e w' => e = .returned (.int .i64 (1 + n : Nat)) ∧ w = w' := by
  have HR := Lib.hid hr
  clear hr
  go_enter Try.func32, Try.ntmps32
  go_wp2
  go_loop [1, 5] (fun q i => ∃ k : Nat, k ≤ n ∧ i = .int .i64 k ∧ q = .int .i64 (1 + k : Nat)) (fun _ i => n - (intOf i).toNat)
  case atStart => exact ⟨0, Nat.zero_le _, rfl, rfl⟩
  case round =>
    obtain ⟨k, hk, rfl, rfl⟩ := hrel
    by_cases hlt : k < n
    · obtain ⟨b, off, rfl, hb, hcell⟩ := HR.out (by rw [upC_length]; omega)
      have hc := hcell k (by rw [upC_length]; omega)
      rw [at_upC hlt] at hc
      unfold cV at hc
      simp only at hc
      have hfl : floatOfInt .f64 ((1 : Int) + (k : Int)) = wI (1 + k) := by unfold wI; congr 1
      have hcm := fun W => conv_mark (P := Try.prog) (src := 122) (dst := 113) (by kernel_rfl) (by kernel_rfl) (1 + k) (by omega) W
      have hs1 := (cI_all ⟨1 + k, by omega⟩).2
      simp only at hs1
      have hs2 := one_all.2
      clear hcell
      go_wp2
      go_round
      case rel => exact ⟨k + 1, by omega, by go_num, by go_num⟩
      case measure => simp [intOf]; omega
    · have HK : Hid (k = n) := by show k = n; omega
      go_wp2
      go_ret
      exact ⟨by rw [HK.out]; rfl, rfl⟩

end Go.Proofs.Ythhimielelpcoaa
