/-
  What is proved here: the law's marks of a sheet from any number on. Conditions: at most 1048576 heights.
-/
import Derived.Test.YtckhdbnoihieeaaTfr
namespace Go.Proofs.Ytckhdbnoihieeaa
open Flt Go.RowKit
attribute [local go_sem] run_store_float

theorem markFw (A : Option Addr) (c m B : Nat) (zs : List Nat) (w : World) (hr : OwnF w B A zs) (hn : zs.length ≤ 1048576) (hm : m ≤ 4194304) :
    Calls Try.prog 51 #[.slice A zs.length c, .int .i64 m] w fun e w' => e = .returned (.int .i64 (m + zs.length : Nat)) ∧ Hid (OwnF w' B A (upF m zs.length)) ∧ Hid (But B A w w') := by
  have HR : Hid (OwnF w B A (mixF zs m 0)) := by rw [mixF_zero]; exact hr
  clear hr
  go_enter Try.func51, Try.ntmps51
  go_wp2
  go_loopw [1, 5] (fun q i wr => ∃ k : Nat, k ≤ zs.length ∧ i = .int .i64 k ∧ q = .int .i64 (m + k : Nat) ∧ Hid (OwnF wr B A (mixF zs m k)) ∧ Hid (But B A w wr)) (fun _ i _ => zs.length - (intOf i).toNat)
  case atStart => exact ⟨0, Nat.zero_le _, rfl, rfl, HR, But.refl _ _ _⟩
  case round =>
    obtain ⟨k, hk, rfl, rfl, hC, hB⟩ := hrel
    by_cases hlt : k < zs.length
    · obtain ⟨b, off, rfl, hle, hb, hcell, hfree⟩ := hC.out (by rw [mixF_length]; omega)
      have hc := hcell k (by rw [mixF_length]; omega)
      have hf := hfree k (by rw [mixF_length]; omega)
      have N1 : Hid (OwnF (wr.setCell ⟨b, off + k, none⟩ (.float .f32 (fI (m + k)))) B (some ⟨b, off, none⟩) (mixF zs m (k + 1))) :=
        hC.out.set (by rw [mixF_length]; omega) (by rw [mixF_length, mixF_length]) fun j hj => by
          rw [mixF_length] at hj
          rw [at_mixF hj, at_mixF hj]
          by_cases e : j = k
          · subst e; rw [if_pos (by omega), if_pos rfl]
          · rw [if_neg e]
            by_cases h : j < k
            · rw [if_pos h, if_pos (by omega)]
            · rw [if_neg h, if_neg (by omega)]
      have N2 : Hid (But B (some ⟨b, off, none⟩) w (wr.setCell ⟨b, off + k, none⟩ (.float .f32 (fI (m + k))))) := hB.out.setCell (p := ⟨b, off, none⟩) (q := ⟨b, off + k, none⟩) rfl rfl hle _
      have hfl : floatOfInt .f32 ((m : Int) + (k : Int)) = fI (m + k) := by unfold fI; congr 1
      clear hcell hfree hC hB HR hle
      go_wp2
      go_roundw
      case rel => exact ⟨k + 1, by omega, by go_num, by go_num, N1, N2⟩
      case measure => simp [intOf]; omega
    · have HE : Hid (mixF zs m k = upF m zs.length) := by rw [show k = zs.length by omega]; exact mixF_all _ _
      have HK : Hid (k = zs.length) := by show k = zs.length; omega
      go_wp2
      go_ret
      exact ⟨by rw [HK.out]; rfl, by rw [← HE.out]; exact hC, hB⟩

theorem markTk (x y : Int) (A : Option Addr) (c m lo hi : Nat) (zs : List Nat) (w : World) (hr : RowIn w lo hi A zs) (hn : zs.length ≤ 1048576) (hm : m ≤ 4194304) :
    Calls Try.prog 16 #[.agg #[.int .i64 x, .int .i64 y, .slice A zs.length c], .int .i64 m] w fun e w' => e = .returned (.int .i64 (m + zs.length : Nat)) ∧ Hid (RowIn w' lo hi A (upF m zs.length)) ∧ Hid (ButIn lo hi w w') := by
  have B0 : Below w.heap.size w (w.alloc (.cells #[.int .i64 x, .int .i64 y, .slice A zs.length c] 27)) := (Below.refl _ _).alloc (Nat.le_refl _) _
  have R1 := hr.but (ButIn.of B0) (.inr (Nat.zero_le _))
  have hA := hr.inn
  have HC := markFw A c m lo zs _ R1.toOwn hn hm
  have H := Lib.hid HC
  have HB0 := Lib.hid B0
  have HA := Lib.hid hA
  have HL := Lib.hid hr.le
  clear HC hr B0 R1 hA
  go_enter Try.func16, Try.ntmps16
  go_wp2_with fail
  refine H.out.mono ?_
  rintro e w' ⟨rfl, ho, hb⟩
  have HB : Hid (ButIn lo hi w w') := ButIn.after HB0.out (hb.out.butIn HA.out)
  have HO : Hid (RowIn w' lo hi A (upF m zs.length)) := ⟨Nat.le_trans HL.out HB.out.size, HA.out, fun g0 => by
    obtain ⟨b, off, e1, h1, h2, hc, hf⟩ := ho.out g0
    have := (HA.out _ e1).2
    exact ⟨b, off, e1, h1, this, hc, hf⟩⟩
  clear hb HB0 H
  go_wp2_with fail
  go_ret
  exact ⟨rfl, HO, HB⟩

end Go.Proofs.Ytckhdbnoihieeaa
