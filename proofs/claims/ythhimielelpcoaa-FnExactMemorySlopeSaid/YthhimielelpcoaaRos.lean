/-
  What is proved here: RangeOverSpread, of both packages, as walks. Conditions: at most 1048576 numbers.
-/
import Derived.Test.YthhimielelpcoaaRosS
import Derived.Test.YthhimielelpcoaaStg
import Derived.Deep.RegionLaw
namespace Go.Proofs.Ythhimielelpcoaa
open Flt Go.RowKit
attribute [local go_sem] run_store_float
set_option linter.unusedVariables false

theorem butIn_set (w : World) (g k : Nat) (v : Value) : ButIn g (g + 1) w (w.setCell ⟨g, k, none⟩ v) := by
  refine ⟨rfl, rfl, rfl, by simp [World.setCell], fun j hj hd => ?_⟩
  exact Below.heap_setCell _ _ _ _ (fun h => by have h : j = g := h; omega)
theorem RowH.butIn {w w' : World} {g l h : Nat} {ws : List Nat} (r : RowH w g ws) (hb : ButIn l h w w') (hd : g < l ∨ h ≤ g) : RowH w' g ws := by
  have e := hb.block g r.lt hd
  exact ⟨Nat.lt_of_lt_of_le r.lt hb.size, fun j hj => by rw [World.cell?_of_block (w := w) e]; exact r.cell j hj, fun j hj => by rw [World.frozen?_of_block (w := w) e]; exact r.free j hj⟩
theorem own_lit1 (w : World) (n : Nat) (v : Nat) : OwnA (((w.drewN n).alloc (.cells (madeCells #[.float .f32 0] v) 43)).alloc (.cells #[.float .f32 0] 43)) (w.heap.size + 1) [0] (w.heap.size + 1) 1 := by
  have e : ((w.drewN n).alloc (.cells (madeCells #[.float .f32 0] v) 43)).heap.size = w.heap.size + 1 := by simp [World.drewN]
  have h := OwnA.lit1 ((w.drewN n).alloc (.cells (madeCells #[.float .f32 0] v) 43)) 0
  rwa [e] at h

set_option maxHeartbeats 8000000 in
theorem implRos (A : Option Addr) (c : Nat) (zs : List Nat) (w : World) (hr : RowF w w.heap.size A zs) (h2 : 2 ≤ zs.length) (hb : lisB zs = true) :
    Calls Try.prog 120 #[.slice A zs.length c] w (MPost (orNo (rosOk zs) (numC (rosC zs))) (rosOk zs && finO (rosC zs)) w) := by
  obtain ⟨h3, _⟩ := lisB_yes hb
  have HL := Lib.hid (implList A c zs w _ hr (by omega))
  rw [hb] at HL
  have HM := Lib.hid (fun n => implMean A c zs (w.drewN n) _ hr.drewN h3)
  have HR := Lib.hid hr
  have hmk := run_mk zs.length (by omega)
  have h2' : ¬ ((zs.length : Int) < 2) := by omega
  clear hr hb
  go_enter Try.func120, Try.ntmps120
  go_wp2_with (first | (go_at_call 73; refine HL.out.mono ?_; rintro e w' ⟨rfl, n, rfl⟩) | (go_at_call 121; refine (HM.out _).mono ?_; rintro e w' ⟨mw, nm, rfl, rfl, hm, wm⟩))
  clear HM HL hmk
  go_loopw [6, 26] (fun s i wr => ∃ (k g c : Nat) (L ws : List Nat), s = .slice (some ⟨g, 0, none⟩) L.length c ∧ i = .int .i64 k ∧ k ≤ zs.length ∧ Hid (Part (exT zs) zs.length k ws) ∧ Hid (Tl (suT zs) (k + 1) L) ∧ Hid (RowH wr w.heap.size ws) ∧ Hid (OwnA wr (w.heap.size + 1) L g c) ∧ Hid (Below w.heap.size w wr)) (fun _ i _ => zs.length - (intOf i).toNat)
  case atStart => exact ⟨0, w.heap.size + 1, 1, [0], List.replicate zs.length 0, rfl, rfl, Nat.zero_le _, by have := Part.start (exT zs) (List.replicate zs.length 0); rwa [List.length_replicate] at this, (Tl.nil _).snoc rfl, (rowH_new (w.drewN _) zs.length).below ((Below.refl _ _).alloc (Nat.le_refl _) _), own_lit1 _ _ _, ((belowN (Below.refl _ _)).alloc (Nat.le_refl _) _).alloc (by simp) _⟩
  case round =>
    obtain ⟨k, g, c, L, ws, rfl, rfl, hk, hP, hT, hH, hO, hB⟩ := hrel
    have hsz : Hid (w.heap.size ≤ wr.heap.size) := hB.out.size
    have hl : L.length ≤ 257 := by rw [hT.out.len]; omega
    have hlo := hO.out.lo
    by_cases hlt : k < zs.length
    · obtain ⟨b, off, rfl, hb, hcell⟩ := (HR.out.below hB.out) (by omega)
      have hc := hcell k hlt
      have hc3 := hH.out.cell k (by rw [hP.out.len]; exact hlt)
      have hf3 := hH.out.free k (by rw [hP.out.len]; exact hlt)
      clear hcell hb
      go_wp2_with ((with_reducible refine upon_bin rfl ?_); intro _ _ _ _)
      rename_i r1 n1 w1 e1
      have hx : Hid (can .f32 r1 = exT zs k) := by show _ = _; rw [e1.out, hm.out]; rfl
      have hP2 := Lib.hid (hP.out.step hlt hx.out)
      have hkw : k < ws.length := by rw [hP.out.len]; exact hlt
      have hkL : k < L.length := by rw [hT.out.len]; omega
      have hsB : Hid (ButIn w.heap.size (w.heap.size + 1) (wr.drewN n1) ((wr.drewN n1).setCell ⟨w.heap.size, k, none⟩ (.float .f32 r1))) := butIn_set _ _ _ _
      have hH2 := Lib.hid ((hH.out.dn (n := n1)).set (k := k) (u := r1) hkw)
      have hO2 := Lib.hid (OwnA.but (hO.out.dq (n := n1)) hsB.out (.inr hlo.1))
      have hB2 := Lib.hid ((belowN (n := n1) hB.out).setCell (p := ⟨w.heap.size, k, none⟩) (Nat.le_refl _) (.float .f32 r1))
      clear e1 w1 hP hH hO hB hc hc3 hf3 hsB hsz
      generalize (wr.drewN n1).setCell ⟨w.heap.size, k, none⟩ (.float .f32 r1) = W1 at *
      have hd : W1.cell? ⟨w.heap.size, k, none⟩ = some (.float .f32 r1) := by
        have := hH2.out.cell k (by rw [List.length_set]; exact hkw)
        rwa [at0_put hkw, if_pos rfl] at this
      have he : W1.cell? ⟨g, k, none⟩ = some (.float .f32 (at0 L k)) := by
        have := rowF_at hO2.out.rowIn.toRow hkL
        rwa [Nat.zero_add] at this
      obtain ⟨V, m, hrun, hV⟩ := add_run (at0 L k) r1
      have HTV : Hid (∀ W, Tl (suT zs) (k + 1 + 1) (L ++ [V W])) := fun W => hT.out.snoc (by rw [hV W, hx.out, hT.out.at' k (by omega)]; rfl)
      have hsz2 : Hid (w.heap.size + 1 ≤ W1.heap.size) := by show _ ≤ _; have := hO2.out.lo; omega
      have hlo2 := hO2.out.lo
      clear hV hT
      go_region_law (refine stepApp rfl _ _ rfl hO2.out.dq rfl (by simp [Act.eval]) (by simp [Act.eval]) (by omega) hsz2.out ?_; intro g2 c2 w4 O4 B4; have HO4 := Lib.hid O4; have HB4 : Hid (Below w.heap.size w w4) := below_app (belowN hB2.out) (Nat.le_refl _) (by omega) B4; have HH4 : Hid (RowH w4 w.heap.size _) := RowH.butIn hH2.out.dn B4 (.inl (by omega)); clear O4 B4)
      all_goals
        go_wp2_with fail
        go_roundw
        case rel => exact ⟨k + 1, g2, c2, L ++ [V _], ws.set k r1, by rw [snoc_len], by go_num, by omega, hP2, HTV.out _, HH4, HO4, HB4⟩
        case measure => simp [intOf]; omega
    · have HK : Hid (k = zs.length) := by show _ = _; omega
      have hP2 : Hid (Tl (exT zs) zs.length ws) := by have := hP.out; rw [HK.out] at this; exact this.all
      have hT2 : Hid (Tl (suT zs) (zs.length + 1) L) := by have := hT.out; rw [HK.out] at this; exact this
      have hlw := hP2.out.len
      have HM := implMsq (some ⟨w.heap.size, 0, none⟩) zs.length ws wr _ hH.out.row (by omega)
      rw [dotF_tl hP2.out hP2.out _ (Nat.le_of_eq hlw), hlw] at HM
      have HM2 := Lib.hid HM
      have RX := Lib.hid hO.out.rowIn.toRow
      have hL0 : 0 < L.length := by rw [hT2.out.len]; omega
      clear HM hlw
      go_wp2_with fail
      refine HM2.out.mono ?_
      rintro e w' ⟨gm, nm2, rfl, rfl, hgm, hwm⟩
      go_wp2_with fail
      refine (implRoot _ _).mono ?_
      rintro e w' ⟨gr, nr, rfl, rfl, hgr, hwr⟩
      have hcr : Hid (can .f32 gr = rosR zs) := by show _ = _; rw [hgr.out, hgm.out]; rfl
      cases hab : abvB gr
      · have N : Hid (rosOk zs = false) := by show _ = _; unfold rosOk; rw [← hcr.out, abvO_can, hab, Bool.false_and]
        have HAB := Lib.hid hab
        clear hab
        go_wp2_with (go_at_call 154; refine (implAbove _ _).mono ?_; rintro e w' ⟨rfl, nf, rfl⟩; rw [HAB.out])
        go_ret2
        exact mpost_no (by unfold orNo; rw [N.out]; rfl) (by rw [N.out]; rfl) (belowN hB.out)
      · have hao : abvO (rosR zs) = true := by rw [← hcr.out, abvO_can]; exact hab
        have HG := told_good hT2.out (fun j hj => su_good hao j (by omega))
        have HSR := Lib.hid (fun n => implRangeG _ c L (wr.drewN n) _ RX.out.drewN (by omega) hL0 HG)
        have HEND : Hid (orNo (rosOk zs) (numC (rosC zs)) = numC (fop .quo .f32 (rngG L) (rosR zs)) ∧ (rosOk zs && finO (rosC zs)) = finO (fop .quo .f32 (rngG L) (rosR zs))) := by
          show _ ∧ _
          cases hfa : finAll L with
          | true =>
            have HE : L = toldW (suT zs) (zs.length + 1) := told_eq hT2.out (by rw [← hT2.out.fin]; exact hfa)
            have N : rosOk zs = true := by unfold rosOk; rw [← hT2.out.fin, hfa, hao]; rfl
            have e : rosC zs = fop .quo .f32 (rngG L) (rosR zs) := by
              unfold rosC
              rw [← HE, show rngG L = rngC L from rng_same hfa hL0]
            rw [N, e]
            exact ⟨rfl, rfl⟩
          | false =>
            have N : rosOk zs = false := by unfold rosOk; rw [← hT2.out.fin, hfa, Bool.and_false]
            have e : finO (fop .quo .f32 (rngG L) (rosR zs)) = false := by
              cases e : finO (fop .quo .f32 (rngG L) (rosR zs)) with
              | false => rfl
              | true =>
                have := fin_quo e
                rw [show finO (rngG L) = false from range_inf HG hL0 hfa] at this
                cases this
            rw [N, e]
            unfold numC
            rw [e]
            exact ⟨rfl, rfl⟩
        have HAB := Lib.hid hab
        clear hab hao HG hL0
        go_wp2_with (first | (go_at_call 154; refine (implAbove _ _).mono ?_; rintro e w' ⟨rfl, nf, rfl⟩; rw [HAB.out]) | (go_at_call 156; refine (HSR.out _).mono ?_; rintro e w' ⟨gx, nx, rfl, rfl, hgx, hwx⟩) | ((with_reducible refine upon_bin rfl ?_); intro rq nq wq eq; have hcq : can .f32 rq = fop .quo .f32 (rngG L) (rosR zs) := by rw [eq.out, hgx.out, hcr.out]) | (go_at_call 155; refine (implNumber _ _ hcq wq _).mono ?_; rintro e w' ⟨g3, n3, rfl, rfl, hg3, hgw3⟩))
        go_ret2
        exact ⟨g3, by rw [HEND.out.2]; rfl, by show _ = _; rw [HEND.out.1]; exact hg3.out, hgw3, belowN hB.out⟩


end Go.Proofs.Ythhimielelpcoaa
