/-
  What is proved here: whether a group goes from above to below with weights up to one, in the program (isCrossed), as a walk. Conditions: weights of a field.
-/
import Derived.Test.YtnhcmloaanamnaaTh1
import Derived.Test.YtnhcmloaanamnaaTh2
import Derived.Test.YtnhcmloaanamnaaSpo
namespace Go.Proofs.Ytnhcmloaanamnaa
open Flt Go.RowKit
attribute [local go_sem] run_store_bool
set_option linter.unusedVariables false
set_option linter.unusedSimpArgs false

/-- the cells that are full with weights up to one -/
def thP (zs : List Nat) (t : Int) (j : Nat) : Bool := decide (gK zs j ≤ t)
theorem le_cmp (a b : Int) : (compare a b == Ordering.lt || compare a b == Ordering.eq) = decide (a ≤ b) := by
  rcases Int.lt_trichotomy a b with h | h | h
  · rw [cmp_lt.2 h, decide_eq_true (by omega)]; rfl
  · rw [cmp_eq.2 h, decide_eq_true (by omega)]; rfl
  · rw [cmp_gt.2 h, decide_eq_false (by omega)]; rfl
theorem spR_thC {x y : Int} {zs : List Nat} {t : Int} (hv : fvB x y zs.length = true) : thC x y zs t = decide (0 < (spR x y zs.length (thP zs t)).length) := by rw [spR_yes hv]; rfl
set_option maxHeartbeats 4000000 in
set_option maxRecDepth 1000000 in
theorem implCrs (x y : Int) (A : Option Addr) (c v : Nat) (zs : List Nat) (w : World) (hr : RowF w w.heap.size A zs) (hv : fvB x y zs.length = true) (hf : finAll zs = true) (hfv : finB .f32 v = true) :
    Calls Try.prog 56 #[.slice A zs.length c, .int .i64 x, .int .i64 y, .float .f32 v] w fun e w' => e = .returned (.bool (thC x y zs (Flt.sV .f32 v))) ∧ Hid (Below w.heap.size w w') := by
  obtain ⟨hxy, hnn, hn1, hn2⟩ := fvB_yes hv
  clear hxy hnn
  have hmk := run_mkB zs.length (by omega)
  have HR := Lib.hid hr
  have HLE : Hid (∀ k, k < zs.length → FloatKind.f32.format.order (at0 zs k) v = some (compare (gK zs k) (Flt.sV .f32 v))) := fun k hk => ord_fin (finAll_at hf hk) hfv
  have C0 : Hid (RowM _ _ zs.length (bo (copB (thP zs (Flt.sV .f32 v)) 0))) := (rowM_new w zs.length (.bool false) 4).ext fun j _ => by simp [copB, bo]
  have B0 : Hid (Below w.heap.size w (w.alloc (.cells (madeCells #[.bool false] zs.length) 4))) := (Below.refl _ _).alloc (Nat.le_refl _) _
  have HSP := Lib.hid (fun (A : Option Addr) (f : Nat) (W : World) (h : RowV W W.heap.size A zs.length (bo (thP zs (Flt.sV .f32 v)))) => implSpn x y A zs.length f (thP zs (Flt.sV .f32 v)) W (by omega) h)
  have HE := Lib.hid (spR_thC (t := Flt.sV .f32 v) hv)
  have HPV : Hid (∀ k, thP zs (Flt.sV .f32 v) k = decide (gK zs k ≤ Flt.sV .f32 v)) := fun k => rfl
  clear hr hf hfv hv
  go_enter Try.func56, Try.ntmps56
  go_wp2_with fail
  clear hmk
  generalize w.alloc (.cells (madeCells #[.bool false] zs.length) 4) = w1 at *
  generalize hG : w.heap.size = G at *
  have HG := Lib.hid hG
  clear hG
  generalize thP zs (Flt.sV .f32 v) = p at *
  go_loopw [19] (fun i wr => ∃ k : Nat, k ≤ zs.length ∧ i = .int .i64 k ∧ Hid (RowM wr G zs.length (bo (copB p k))) ∧ Hid (Below G w wr)) (fun i _ => zs.length - (intOf i).toNat)
  case atStart => exact ⟨0, Nat.zero_le _, rfl, C0, B0⟩
  case round =>
    obtain ⟨k, hk, rfl, hC, hB⟩ := hrel
    by_cases hlt : k < zs.length
    · obtain ⟨b, off, rfl, hb, hcell⟩ := HR.out (by omega)
      have hc := hcell k hlt
      rw [← hB.out.cell (p := ⟨b, off + k, none⟩) hb] at hc
      have hd := hC.out.cell k hlt
      unfold bo at hd
      have hf := hC.out.free k hlt
      have hs := Lib.hid ((hC.out.set (u := .bool (p k)) hlt).ext fun j _ => copB_put p k j)
      have hs2 : Hid (Below G w (wr.setCell ⟨G, k, none⟩ (.bool (p k)))) := hB.out.setCell (Nat.le_refl _) _
      have ho := HLE.out k hlt
      have hp := HPV.out k
      rw [← le_cmp] at hp
      rw [hp] at hs hs2
      clear hp
      clear hcell hC hB
      go_wp2_with fail
      go_roundw
      case rel => exact ⟨k + 1, by omega, by go_num, hs, hs2⟩
      case measure => simp [intOf]; omega
    · have he : k = zs.length := by omega
      have HR2 : Hid (RowV wr wr.heap.size (some ⟨G, 0, none⟩) zs.length (bo p)) := (hC.out.ext (U := bo p) fun j hj => by unfold bo copB; rw [if_pos (by omega)]).row
      have HSR := Lib.hid (HSP.out (some ⟨G, 0, none⟩) zs.length wr HR2.out)
      have HBG : Hid (Below w.heap.size w wr) := by rw [HG.out]; exact hB
      clear he hC
      go_wp2_with (go_at_call 93; refine HSR.out.mono ?_; rintro e w2 ⟨A2, c2, rfl, r2, b2⟩)
      go_ret
      exact ⟨by rw [HE.out]; rfl, HBG.out.trans (b2.out.mono HBG.out.size)⟩
end Go.Proofs.Ytnhcmloaanamnaa
