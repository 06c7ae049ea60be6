/-
  What is proved here: GapsOf of the program, as a walk. Conditions: at most 1048576 numbers.
-/
import Derived.Test.YtnhcmloaanamnaaGa1
import Derived.Test.YtnhcmloaanamnaaSf7
import Derived.Test.YtnhcmloaanamnaaCpy
namespace Go.Proofs.Ytnhcmloaanamnaa
open Flt Go.RowKit
attribute [local go_sem] run_store_float
set_option linter.unusedVariables false
set_option linter.unusedSimpArgs false

def cntG (b : Bool) (n : Nat) : Nat := if b = true then n else 0
/-- the gaps, and whether all are finite -/
def gpT (zs : List Nat) (h : Nat → Nat) : Nat → Option Nat := stepT (srtL zs h) 1
def gpB (zs : List Nat) (h : Nat → Nat) : Bool := finT (gpT zs h) (zs.length - 1)
theorem sFEnv_gap (zs : List Nat) (g : Nat) (hf : finAll zs = true) : sFEnv (at0 zs) zs.length g (gK zs) (fun x y => cmpW (at0 zs x) (at0 zs y)) (fun _ => True) :=
  ⟨fun _ _ _ _ => trivial, fun _ _ _ => trivial, fun W x y _ hx hy => (cmpF _ _ (fin_num (finAll_at hf hx)) (fin_num (finAll_at hf hy)) W).mono fun e w' ⟨h1, h2⟩ => ⟨h1, 0, h2.symm⟩, fun x y hx hy => cmpW_sV (finAll_at hf hx) (finAll_at hf hy)⟩
theorem RowIn.sRow {w : World} {lo hi g : Nat} {zs : List Nat} (r : RowIn w lo hi (some ⟨g, 0, none⟩) zs) (h0 : 0 < zs.length) : sFRw (at0 zs) w g zs.length (fun j => j) := by
  obtain ⟨b, off, hA, h1, h2, hc, hf⟩ := r.row h0
  injection hA with hA
  injection hA with e1 e2 _
  subst e1 e2
  exact ⟨Nat.lt_of_lt_of_le h2 r.le, fun j hj => by have := hc j hj; rwa [Nat.zero_add] at this, fun j hj => by have := hf j hj; rwa [Nat.zero_add] at this⟩
theorem sFRw.rowF {w : World} {g : Nat} {zs : List Nat} {h : Nat → Nat} (r : sFRw (at0 zs) w g zs.length h) : RowF w w.heap.size (some ⟨g, 0, none⟩) (srtL zs h) := fun h0 =>
  ⟨g, 0, rfl, sRw.lt r, fun j hj => by
    rw [srtL_len] at hj
    rw [srtL_at hj, Nat.zero_add]
    exact sRw.cell r j hj⟩
theorem sBut.below {g X : Nat} {w w' : World} (h : sBut g w w') (hg : X ≤ g) : Below X w w' := ⟨h.os, h.tape, h.output, by rw [h.size]; exact Nat.le_refl _, fun k hk => h.block k (by omega)⟩
set_option maxHeartbeats 8000000 in
theorem implGap (A : Option Addr) (c : Nat) (zs : List Nat) (H : Nat → Nat) (w : World) (hr : RowF w w.heap.size A zs) (hb : lisB zs = true) (h2 : 2 ≤ zs.length) (hH : sEnd (gK zs) zs.length H) :
    Calls Try.prog 18 #[.slice A zs.length c] w (LP (gpT zs H) (cntG (gpB zs H) (zs.length - 1)) (gpB zs H) w) := by
  obtain ⟨h3, hfa⟩ := lisB_yes hb
  have HL := Lib.hid (implList A c zs w _ hr (by omega))
  rw [hb] at HL
  have HCL := Lib.hid (fun n => clone_any A c zs (w.drewN n) hr (by omega) (by omega))
  have HSR := Lib.hid (fun (g c : Nat) (W : World) (hR : sFRw (at0 zs) W g zs.length (fun j => j)) => sFSrt (at0 zs) g zs.length c (gK zs) (fun x y => cmpW (at0 zs x) (at0 zs y)) (fun _ => True) W (sFEnv_gap zs g hfa) trivial hR (by omega) (by omega))
  have HST : Hid (∀ (g c : Nat) (W : World), RowF W W.heap.size (some ⟨g, 0, none⟩) (srtL zs H) → Calls Try.prog 41 #[.slice (some ⟨g, 0, none⟩) zs.length c, .int .i64 1] W fun e w' => ∃ A' c' ys, e = .returned (.slice A' (zs.length - 1 : Nat) c') ∧ Hid (Tl (gpT zs H) (zs.length - 1) ys) ∧ Hid (RowIn w' W.heap.size w'.heap.size A' ys) ∧ Hid (Below W.heap.size W w')) := fun g c W hR => by
    have := implSteps (some ⟨g, 0, none⟩) c 1 (srtL zs H) W hR (Nat.le_refl _) (by rw [srtL_len]; omega) (by rw [srtL_len]; exact h3) (srtL_fin hfa hH.bd)
    rw [srtL_len] at this
    exact this
  have HH := Lib.hid hH
  have hfin : Hid (∀ ys, Tl (gpT zs H) (zs.length - 1) ys → finAll ys = gpB zs H) := fun ys h => h.fin
  clear hr hb hH hfa
  go_enter Try.func18, Try.ntmps18
  go_wp2_with (first | (go_at_call 34; refine HL.out.mono ?_; rintro e w' ⟨rfl, n, rfl⟩) | (go_at_call 39; refine (HCL.out _).mono ?_; rintro e w2 ⟨g, c2, rfl, r2, b2⟩) | (go_at_call 40; fail))
  have SR := Lib.hid (r2.out.sRow (by omega))
  have B2 : Hid (Below w.heap.size w w2) := (belowN (Below.refl _ _)).trans b2.out
  have hgw : w.heap.size ≤ g := (r2.out.inn _ rfl).1
  clear r2 b2 HL HCL
  refine (HSR.out g c2 w2 SR.out).mono ?_
  rintro e w3 ⟨rfl, h, p3, r3, b3⟩
  have B3 := Lib.hid (B2.out.trans (b3.out.below hgw))
  have EQ : Hid (srtL zs h = srtL zs H) := srtL_ext (p3.out.uniq HH.out)
  have R3 : Hid (RowF w3 w3.heap.size (some ⟨g, 0, none⟩) (srtL zs H)) := by
    have := r3.out.rowF
    rwa [EQ.out] at this
  clear SR B2 p3 r3 b3 EQ HSR
  go_wp2_with (go_at_call 41; refine (HST.out _ _ _ R3.out).mono ?_; rintro e w4 ⟨A4, c4, ys, rfl, t4, r4, b4⟩)
  have B4 := Lib.hid (B3.out.trans (b4.out.mono B3.out.size))
  have R4 : Hid (RowIn w4 w.heap.size w4.heap.size A4 ys) := r4.out.lower B3.out.size
  have hyl : ys.length = zs.length - 1 := t4.out.len
  have HF := implFins A4 c4 ys w4 _ R4.out.toRow (by omega)
  rw [hfin.out ys t4.out, hyl] at HF
  have HFI := Lib.hid HF
  clear HF hyl r4 b4 R3 B3 HST
  cases hg : gpB zs H
  · rw [hg] at HFI
    have HG := Lib.hid hg
    clear hg
    go_wp2_with (go_at_call 42; refine HFI.out.mono ?_; rintro e w' ⟨rfl, n, rfl⟩)
    go_ret2
    rw [HG.out]
    exact lp_no2 rfl rfl (belowN B4.out)
  · rw [hg] at HFI
    have HG := Lib.hid hg
    clear hg
    go_wp2_with (go_at_call 42; refine HFI.out.mono ?_; rintro e w' ⟨rfl, n, rfl⟩)
    go_ret2
    rw [HG.out]
    exact ⟨A4, c4, ys, rfl, t4, R4.out.but (ButIn.of (belowN (Below.refl _ _))) (.inr (Nat.zero_le _)), belowN B4.out⟩
end Go.Proofs.Ytnhcmloaanamnaa
