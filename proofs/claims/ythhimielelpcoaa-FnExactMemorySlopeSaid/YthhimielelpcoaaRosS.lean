/-
  What is proved here: RangeOverSpread, of the reference, as a walk. Conditions: at most 1048576 numbers.
-/
import Derived.Test.YthhimielelpcoaaRosA
namespace Go.Proofs.Ythhimielelpcoaa
open Flt Go.RowKit
attribute [local go_sem] run_store_float
set_option linter.unusedVariables false

set_option maxHeartbeats 8000000 in
theorem specSpr (A : Option Addr) (c : Nat) (zs : List Nat) (w : World) (hr : RowF w w.heap.size A zs) (h2 : 2 ≤ zs.length) (hn : zs.length ≤ 256) :
    Calls Try.prog 69 #[.slice A zs.length c] w (MPost (orNo (rosOk zs) (numC (rosC zs))) (rosOk zs && finO (rosC zs)) w) := by
  have HM := Lib.hid (specMean A c zs w _ hr (by omega))
  have HR := Lib.hid hr
  clear hr
  go_enter Try.func69, Try.ntmps69
  go_wp2_with (go_at_call 71; refine HM.out.mono ?_; rintro e w' ⟨mw, nm, rfl, rfl, hm, wm⟩)
  clear HM
  go_loopw [5, 6, 7, 8] (fun s q x i wr => ∃ (k g c h d a : Nat) (X Y : List Nat), s = .slice (some ⟨g, 0, none⟩) X.length c ∧ q = .slice (some ⟨h, 0, none⟩) Y.length d ∧ x = .float .f32 a ∧ i = .int .i64 k ∧ k ≤ zs.length ∧ g ≠ h ∧ Hid (Tl (suT zs) (k + 1) X) ∧ Hid (Tl (sqT (exT zs)) k Y) ∧ Hid (can .f32 a = suT zs k) ∧ Hid (OwnA wr w.heap.size X g c) ∧ Hid (OwnA wr w.heap.size Y h d) ∧ Hid (Below w.heap.size w wr)) (fun _ _ _ i _ => zs.length - (intOf i).toNat)
  case atStart => exact ⟨0, w.heap.size, 1, w.heap.size + 1, 0, 0, [0], [], rfl, rfl, rfl, rfl, Nat.zero_le _, by omega, (Tl.nil _).snoc rfl, Tl.nil _, rfl, (OwnA.lit1 (w.drewN _) 0).below ((Below.refl _ _).alloc (Nat.le_refl _) _), own_behind w _ _, ((belowN (Below.refl _ _)).alloc (Nat.le_refl _) _).alloc (by simp) _⟩
  case round =>
    obtain ⟨k, g, c, h, d, a, X, Y, rfl, rfl, rfl, rfl, hk, hgh, hT, hU, hA, hO, hV, hB⟩ := hrel
    have hsz : Hid (w.heap.size ≤ wr.heap.size) := hB.out.size
    have hl : X.length ≤ 257 := by rw [hT.out.len]; omega
    have hl2 : Y.length ≤ 256 := by rw [hU.out.len]; omega
    have hlo := hO.out.lo
    have hlo2 := hV.out.lo
    by_cases hlt : k < zs.length
    · obtain ⟨b, off, rfl, hb, hcell⟩ := (HR.out.below hB.out) (by omega)
      have hc := hcell k hlt
      clear hcell hb
      go_wp2_with (first | ((with_reducible refine upon_bin rfl ?_); intro _ _ _ _) | (at_builtin; (first | (refine wpApp2 rfl _ _ rfl (by exact hO.out) rfl rfl rfl (by omega) hsz.out ?_; intro g2 c2 w4 O4 B4 G4; have HO4 := Lib.hid O4; have HV4 : Hid (OwnA w4 w.heap.size Y h d) := OwnA.but (by exact hV.out) B4 (by omega); have HB4 : Hid (Below w.heap.size w w4) := below_app (by first | exact belowN hB.out | exact belowN (belowN hB.out)) (Nat.le_refl _) hlo.1 B4; have hsz4 : wr.heap.size ≤ w4.heap.size := B4.size; have G4' : g2 = g ∨ wr.heap.size ≤ g2 := G4; clear O4 B4 G4 hc) | (refine wpApp2 rfl _ _ rfl (by exact HV4.out) rfl rfl rfl (by omega) (Nat.le_trans hsz.out hsz4) ?_; intro h2 d2 w5 O5 B5 G5; have HV5 := Lib.hid O5; have HO5 : Hid (OwnA w5 w.heap.size _ g2 c2) := OwnA.but (by exact HO4.out) B5 (by omega); have HB5 : Hid (Below w.heap.size w w5) := below_app (by first | exact HB4.out | exact belowN HB4.out) (Nat.le_refl _) hlo2.1 B5; have G5' : h2 = h ∨ w4.heap.size ≤ h2 := G5; have hlo4 := HO4.out.lo; clear O5 B5 G5))))
      rename_i r1 n1 w1 e1 r2 n2 w2 e2 r3 n3 w3 e3
      have hx : Hid (can .f32 r1 = exT zs k) := by show _ = _; rw [e1.out, hm.out]; rfl
      have hA2 : Hid (can .f32 r2 = suT zs (k + 1)) := by show _ = _; rw [e2.out, hA.out, hx.out]; rfl
      have HT2 : Hid (Tl (suT zs) (k + 1 + 1) (X ++ [r2])) := hT.out.snoc hA2.out
      have HU2 : Hid (Tl (sqT (exT zs)) (k + 1) (Y ++ [r3])) := hU.out.snoc (by rw [e3.out, hx.out]; rfl)
      go_roundw
      case rel => exact ⟨k + 1, g2, c2, h2, d2, r2, X ++ [r2], Y ++ [r3], by rw [snoc_len], by rw [snoc_len], rfl, by go_num, by omega, by omega, HT2, HU2, hA2, HO5, HV5, HB5⟩
      case measure => simp [intOf]; omega
    · have HK : Hid (k = zs.length) := by show _ = _; omega
      have hT2 : Hid (Tl (suT zs) (zs.length + 1) X) := by have := hT.out; rw [HK.out] at this; exact this
      have hU2 : Hid (Tl (sqT (exT zs)) zs.length Y) := by have := hU.out; rw [HK.out] at this; exact this
      have HMF : Hid (meanF Y = fop .quo .f32 (sumT (sqT (exT zs)) zs.length) (lenF zs.length)) := by show _ = _; unfold meanF; rw [sumF_tl hU2.out, hU2.out.len]
      have HM := Lib.hid (specMean (some ⟨h, 0, none⟩) d Y wr _ hV.out.rowIn.toRow (by omega))
      have RX := hO.out.rowIn.toRow
      have HFI := Lib.hid (fun n => specFins _ c X (wr.drewN n) _ RX.drewN (by omega))
      have hX0 : 0 < X.length := by rw [hT2.out.len]; omega
      have HSR := Lib.hid (fun n => specRange6 _ c X (wr.drewN n) _ RX.drewN (by omega) hX0)
      clear RX hX0
      go_wp2_with fail
      refine HM.out.mono ?_
      rintro e w' ⟨gm, nm2, rfl, rfl, hgm, hwm⟩
      go_wp2_with fail
      refine (specSqrt _ _).mono ?_
      rintro e w' ⟨gr, nr, rfl, rfl, hgr, hwr⟩
      have hcr : Hid (can .f32 gr = rosR zs) := by show _ = _; rw [hgr.out, hgm.out, HMF.out]; rfl
      cases hp : FloatKind.f32.format.order gr 0 == some .gt
      · have N : Hid (rosOk zs = false) := by show _ = _; unfold rosOk; rw [← hcr.out, abvO_can]; unfold abvB; rw [hp, Bool.and_false, Bool.false_and]
        go_wp2_with fail
        go_ret2
        exact mpost_no (by unfold orNo; rw [N.out]; rfl) (by rw [N.out]; rfl) (belowN hB.out)
      cases hf : finB .f32 gr
      · have N : Hid (rosOk zs = false) := by show _ = _; unfold rosOk; rw [← hcr.out, abvO_can]; unfold abvB; rw [hf, Bool.false_and, Bool.false_and]
        have HF := Lib.hid hf
        clear hf
        go_wp2_with (go_at_call 79; refine (specFin _ _).mono ?_; rintro e w' ⟨rfl, nf, rfl⟩; rw [HF.out])
        go_ret2
        exact mpost_no (by unfold orNo; rw [N.out]; rfl) (by rw [N.out]; rfl) (belowN hB.out)
      have HF := Lib.hid hf
      cases hfa : finAll X
      · have N : Hid (rosOk zs = false) := by show _ = _; unfold rosOk; rw [← hT2.out.fin, hfa, Bool.and_false]
        have HFA := Lib.hid hfa
        clear hf hfa
        go_wp2_with (first | (go_at_call 79; refine (specFin _ _).mono ?_; rintro e w' ⟨rfl, nf, rfl⟩; rw [HF.out]) | (go_at_call 110; refine (HFI.out _).mono ?_; rintro e w' ⟨rfl, nf2, rfl⟩; rw [HFA.out]))
        go_ret2
        exact mpost_no (by unfold orNo; rw [N.out]; rfl) (by rw [N.out]; rfl) (belowN hB.out)
      · have N : Hid (rosOk zs = true) := by show _ = _; unfold rosOk; rw [← hT2.out.fin, hfa, ← hcr.out, abvO_can]; unfold abvB; rw [hf, hp]; rfl
        have HE : Hid (X = toldW (suT zs) (zs.length + 1)) := told_eq hT2.out (by rw [← hT2.out.fin]; exact hfa)
        have HFA := Lib.hid hfa
        clear hf hfa
        go_wp2_with (first | (go_at_call 79; refine (specFin _ _).mono ?_; rintro e w' ⟨rfl, nf, rfl⟩; rw [HF.out]) | (go_at_call 110; refine (HFI.out _).mono ?_; rintro e w' ⟨rfl, nf2, rfl⟩; rw [HFA.out]) | (go_at_call 115; refine (HSR.out _).mono ?_; rintro e w' ⟨gx, nx, rfl, rfl, hgx, hwx⟩) | ((with_reducible refine upon_bin rfl ?_); intro rq nq wq eq; have hcq : can .f32 rq = rosC zs := by rw [eq.out, hgx.out, hcr.out, HE.out]; rfl) | (go_at_call 114; refine (specNumber _ _ hcq wq _).mono ?_; rintro e w' ⟨g3, n3, rfl, rfl, hg3, hgw3⟩))
        go_ret2
        exact ⟨g3, by rw [N.out]; rfl, by show _ = _; unfold orNo; rw [N.out]; exact hg3.out, hgw3, belowN hB.out⟩

end Go.Proofs.Ythhimielelpcoaa
