/-
  What is proved here: the law's comparison, marks and looks of desks like the new one, as walks. Conditions: none.
-/
import Derived.Test.YtegbclfjcckglaaNdk
namespace Go.Proofs.Ytegbclfjcckglaa
open Flt Go.RowKit
attribute [local go_sem] run_store_complex run_store_float

theorem markC (m : Nat) (A : Option Addr) (c B : Nat) (zs : List (Nat × Nat)) (w : World) (hr : OwnC w B A zs) (hn : m + zs.length ≤ 257) :
    Calls Try.prog 21 #[.slice A zs.length c, .int .i64 m] w fun e w' => e = .returned (.int .i64 (m + zs.length : Nat)) ∧ Hid (OwnC w' B A (upC m zs.length)) ∧ Hid (But B A w w') := by
  have HR : Hid (OwnC w B A (mixC zs m 0)) := by rw [mixC_zero]; exact hr
  clear hr
  go_enter Try.func21, Try.ntmps21
  go_wp2
  go_loopw [1, 5] (fun q i wr => ∃ k : Nat, k ≤ zs.length ∧ i = .int .i64 k ∧ q = .int .i64 (m + k : Nat) ∧ Hid (OwnC wr B A (mixC zs m k)) ∧ Hid (But B A w wr)) (fun _ i _ => zs.length - (intOf i).toNat)
  case atStart => exact ⟨0, Nat.zero_le _, rfl, rfl, HR, But.refl _ _ _⟩
  case round =>
    obtain ⟨k, hk, rfl, rfl, hC, hB⟩ := hrel
    by_cases hlt : k < zs.length
    · obtain ⟨b, off, rfl, hle, hb, hcell, hfree⟩ := hC.out (by rw [mixC_length]; omega)
      have hc := hcell k (by rw [mixC_length]; omega)
      unfold cV at hc
      have hf := hfree k (by rw [mixC_length]; omega)
      have N1 : Hid (OwnC (wr.setCell ⟨b, off + k, none⟩ (.complex .f32 (cI (m + k)) one32)) B (some ⟨b, off, none⟩) (mixC zs m (k + 1))) :=
        hC.out.set (x := (cI (m + k), one32)) (by rw [mixC_length]; omega) (by rw [mixC_length, mixC_length]) fun j hj => by
          rw [mixC_length] at hj
          rw [at_mixC hj, at_mixC hj]
          by_cases e : j = k
          · subst e; rw [if_pos (by omega), if_pos rfl]
          · rw [if_neg e]
            by_cases h : j < k
            · rw [if_pos h, if_pos (by omega)]
            · rw [if_neg h, if_neg (by omega)]
      have N2 : Hid (But B (some ⟨b, off, none⟩) w (wr.setCell ⟨b, off + k, none⟩ (.complex .f32 (cI (m + k)) one32))) := hB.out.setCell (p := ⟨b, off, none⟩) (q := ⟨b, off + k, none⟩) rfl rfl hle _
      have hfl : floatOfInt .f64 ((m : Int) + (k : Int)) = wI (m + k) := by unfold wI; congr 1
      have hcm := fun W => conv_mark (P := Try.prog) (src := 65) (dst := 22) (by kernel_rfl) (by kernel_rfl) (m + k) (by omega) W
      clear hcell hfree hC hB HR hle
      go_wp2
      go_roundw
      case rel => exact ⟨k + 1, by omega, by go_num, by go_num, N1, N2⟩
      case measure => simp [intOf]; omega
    · have HE : Hid (mixC zs m k = upC m zs.length) := by rw [show k = zs.length by omega]; exact mixC_all _ _
      have HK : Hid (k = zs.length) := by show k = zs.length; omega
      go_wp2
      go_ret
      exact ⟨by rw [HK.out]; rfl, by rw [← HE.out]; exact hC, hB⟩

theorem heldC (m : Nat) (A : Option Addr) (c Z n : Nat) (w : World) (hr : RowC w Z A (upC m n)) (hn : m + n ≤ 257) :
    Calls Try.prog 23 #[.slice A n c, .int .i64 m] w fun e w' => e = .returned (.int .i64 (m + n : Nat)) ∧ w = w' := by
  have HR := Lib.hid hr
  clear hr
  go_enter Try.func23, Try.ntmps23
  go_wp2
  go_loop [1, 5] (fun q i => ∃ k : Nat, k ≤ n ∧ i = .int .i64 k ∧ q = .int .i64 (m + k : Nat)) (fun _ i => n - (intOf i).toNat)
  case atStart => exact ⟨0, Nat.zero_le _, rfl, rfl⟩
  case round =>
    obtain ⟨k, hk, rfl, rfl⟩ := hrel
    by_cases hlt : k < n
    · obtain ⟨b, off, rfl, hb, hcell⟩ := HR.out (by rw [upC_length]; omega)
      have hc := hcell k (by rw [upC_length]; omega)
      rw [at_upC hlt] at hc
      unfold cV at hc
      simp only at hc
      have hfl : floatOfInt .f64 ((m : Int) + (k : Int)) = wI (m + k) := by unfold wI; congr 1
      have hcm := fun W => conv_mark (P := Try.prog) (src := 65) (dst := 22) (by kernel_rfl) (by kernel_rfl) (m + k) (by omega) W
      have hs1 := (cI_all ⟨m + k, by omega⟩).2
      simp only at hs1
      have hs2 := one_all.2
      clear hcell
      go_wp2
      go_round
      case rel => exact ⟨k + 1, by omega, by go_num, by go_num⟩
      case measure => simp [intOf]; omega
    · have HK : Hid (k = n) := by show k = n; omega
      go_wp2
      go_ret
      exact ⟨by rw [HK.out]; rfl, rfl⟩


def dA (g p : Nat) : Array Value := #[.int .i64 0, .complex .f32 3212836864 0, .complex .f32 0 0, .float .f32 1082130432, .int .i64 4, .int .i64 4, .string ⟨#[70, 88]⟩, .slice (some ⟨g, 0, none⟩) 2 2, .slice (some ⟨p, 0, none⟩) 2 2]

/-- a variable that holds a desk -/
structure DeskAt (w : World) (x g p : Nat) : Prop where
  lt : x < w.heap.size
  cell : ∀ o, w.cell? ⟨x, o, none⟩ = (dA g p)[o]?
theorem DeskAt.below {w w' : World} {x g p : Nat} (h : DeskAt w x g p) (hb : Below w.heap.size w w') : DeskAt w' x g p :=
  ⟨Nat.lt_of_lt_of_le h.lt hb.size, fun o => by rw [hb.cell (p := ⟨x, o, none⟩) h.lt]; exact h.cell o⟩
theorem DeskAt.block {w w' : World} {x g p : Nat} (h : DeskAt w x g p) (hs : w.heap.size ≤ w'.heap.size) (e : w'.heap[x]? = w.heap[x]?) : DeskAt w' x g p :=
  ⟨Nat.lt_of_lt_of_le h.lt hs, fun o => by rw [World.cell?_of_block (w := w) e]; exact h.cell o⟩
theorem deskAt_new (w : World) (g p : Nat) (t : TypeId) : DeskAt (w.alloc (.cells (dA g p) t)) w.heap.size g p := by
  refine ⟨by simp, fun o => ?_⟩
  simp [World.cell?, World.alloc, -World.alloc_eq]
theorem DeskAt.nine {w : World} {x g p : Nat} (h : DeskAt w x g p) : w.cell? ⟨x, 0, none⟩ = some (.int .i64 0) ∧ w.cell? ⟨x, 1, none⟩ = some (.complex .f32 3212836864 0) ∧ w.cell? ⟨x, 2, none⟩ = some (.complex .f32 0 0) ∧ w.cell? ⟨x, 3, none⟩ = some (.float .f32 1082130432) ∧ w.cell? ⟨x, 4, none⟩ = some (.int .i64 4) ∧ w.cell? ⟨x, 5, none⟩ = some (.int .i64 4) ∧ w.cell? ⟨x, 6, none⟩ = some (.string ⟨#[70, 88]⟩) ∧ w.cell? ⟨x, 7, none⟩ = some (.slice (some ⟨g, 0, none⟩) 2 2) ∧ w.cell? ⟨x, 8, none⟩ = some (.slice (some ⟨p, 0, none⟩) 2 2) :=
  ⟨h.cell 0, h.cell 1, h.cell 2, h.cell 3, h.cell 4, h.cell 5, h.cell 6, h.cell 7, h.cell 8⟩

theorem wid_samN {a r s : Nat} (h1 : Hid (can .f64 r = wid (can .f32 a))) (h2 : Hid (can .f64 s = wid (can .f32 a))) : can .f64 r = can .f64 s := by rw [h1.out, h2.out]

theorem eqMap_is (k : Int) (x y : Nat) (w : World) :
    Calls Try.prog 17 #[.agg #[.int .i64 k, .complex .f32 x y], .agg #[.int .i64 k, .complex .f32 x y]] w fun e w' => e = .returned (.bool true) ∧ Below w.heap.size w w' := by
  have B0 : Hid (Below w.heap.size w ((w.alloc (.cells #[.int .i64 k, .complex .f32 x y] 24)).alloc (.cells #[.int .i64 k, .complex .f32 x y] 24))) := ((Below.refl _ _).alloc (Nat.le_refl _) _).alloc (by simp) _
  go_enter Try.func17, Try.ntmps17
  go_wp2_with (first | (go_at_call 32; refine (sameC2 _ _ _ _ (widc_same (by assumption) (by assumption) rfl) (widc_same (by assumption) (by assumption) rfl) _).mono ?_; rintro e w' ⟨rfl, n2, rfl⟩) | ((with_reducible refine upon_widc ?_ ?_ ?_); rotate_left 2; intro _ _ _ _ _; rotate_left 1; kernel_rfl; kernel_rfl))
  go_ret
  exact ⟨rfl, B0.out.trans ⟨rfl, rfl, rfl, Nat.le_refl _, fun _ _ => rfl⟩⟩

set_option maxHeartbeats 1000000 in
theorem eqView_is (x y z : Nat) (k l : Int) (w : World) :
    Calls Try.prog 18 #[.agg #[.complex .f32 x y, .float .f32 z, .int .i64 k, .int .i64 l], .agg #[.complex .f32 x y, .float .f32 z, .int .i64 k, .int .i64 l]] w fun e w' => e = .returned (.bool true) ∧ Below w.heap.size w w' := by
  have B0 : Hid (Below w.heap.size w ((w.alloc (.cells #[.complex .f32 x y, .float .f32 z, .int .i64 k, .int .i64 l] 27)).alloc (.cells #[.complex .f32 x y, .float .f32 z, .int .i64 k, .int .i64 l] 27))) := ((Below.refl _ _).alloc (Nat.le_refl _) _).alloc (by simp) _
  go_enter Try.func18, Try.ntmps18
  go_wp2_with (first | (go_at_call 32; refine (sameC2 _ _ _ _ (widc_same (by assumption) (by assumption) rfl) (widc_same (by assumption) (by assumption) rfl) _).mono ?_; rintro e w' ⟨rfl, n2, rfl⟩) | ((with_reducible refine upon_widc ?_ ?_ ?_); rotate_left 2; intro _ _ _ _ _; rotate_left 1; kernel_rfl; kernel_rfl) | (go_at_call 33; refine (sameFloat_any _ _ (wid_samN (by assumption) (by assumption)) _).mono ?_; rintro e w' ⟨rfl, n3, rfl⟩) | ((with_reducible refine upon_wid ?_ ?_ ?_); rotate_left 2; intro _ _ _ _; rotate_left 1; kernel_rfl; kernel_rfl))
  go_ret
  exact ⟨rfl, B0.out.trans ⟨rfl, rfl, rfl, Nat.le_refl _, fun _ _ => rfl⟩⟩

end Go.Proofs.Ytegbclfjcckglaa
