/-
  What is proved here: MemorySlope of the reference, as a walk; both packages give the same. Conditions: at most 1048576 numbers.
-/
import Derived.Test.YthhimielelpcoaaMsb
namespace Go.Proofs.Ythhimielelpcoaa
open Flt Go.RowKit
attribute [local go_sem] run_store_float
set_option linter.unusedVariables false
set_option linter.unusedSimpArgs false

theorem own_two0 (w : World) (n : Nat) : OwnA (((w.drewN n).alloc (.cells #[] 43)).alloc (.cells #[] 43)) w.heap.size [] w.heap.size 0 := (OwnA.lit0 (w.drewN n)).below ((Below.refl _ _).alloc (Nat.le_refl _) _)
theorem meB_end {F G : Nat → Option Nat} {zs : List Nat} {ss : List Int} (h1 : lisB zs = true) (h2 : inB (ss.length : Int) 2 16 = true) (h3 : ∀ k, k < ss.length → sOk zs (atI ss k) = true) (h4 : ∀ j, j < ss.length → abvO (sCs zs ss j) = false → finO (G j) = false) : meB F G zs ss = sloAT F G ss.length := by
  unfold meB
  rw [h1, h2, allS_yes h3]
  cases e : abvT (sCs zs ss) ss.length with
  | true => rfl
  | false =>
    unfold abvT at e
    rw [List.all_eq_false] at e
    obtain ⟨j, hj, hf⟩ := e
    rw [List.mem_range] at hj
    have hf2 : abvO (sCs zs ss j) = false := by simpa using hf
    rw [sloAT_no (finT_no hj (h4 j hj hf2))]; rfl
theorem meB_no {F G : Nat → Option Nat} {zs : List Nat} {ss : List Int} {k : Nat} (hk : k < ss.length) (h : sOk zs (atI ss k) = false) : meB F G zs ss = false := by
  unfold meB
  rw [allS_no hk h, Bool.false_and, Bool.and_false]
set_option maxHeartbeats 16000000 in
set_option maxRecDepth 1000000 in
theorem specMes (A B : Option Addr) (c d : Nat) (zs : List Nat) (ss : List Int) (F G : Nat → Option Nat) (w : World) (hr : RowF w w.heap.size A zs) (hq : RowI w w.heap.size B ss) (hc : zs.length ≤ c) (hn : zs.length ≤ 1048576) (hm : ss.length ≤ 1048576) (hF : LgZ ss F) (hG : ∀ j, LgM (sCs zs ss j) (G j)) :
    Calls Try.prog 24 #[.slice A zs.length c, .slice B ss.length d] w (VQ (meC F G zs ss) (meB F G zs ss) w) := by
  have HL := specList A c zs w _ hr hn
  unfold meC
  cases hb : lisB zs with
  | false =>
    have N : Hid (meB F G zs ss = false) := by show _ = _; unfold meB; rw [hb]; rfl
    rw [hb] at HL
    have HLH := Lib.hid HL
    clear HL hr hq hF hG hb
    go_enter Try.func24, Try.ntmps24
    go_wp2_with (go_at_call 68; refine HLH.out.mono ?_; rintro e w' ⟨rfl, n, rfl⟩)
    go_ret2
    exact vq_no N.out (belowN (Below.refl _ _))
  | true =>
    rw [hb] at HL
    have HLH := Lib.hid HL
    by_cases h2 : ss.length < 2
    · have N : Hid (meB F G zs ss = false) := by show _ = _; unfold meB; rw [show inB (ss.length : Int) 2 16 = false by unfold inB; rw [decide_eq_false (by omega)]; rfl, Bool.and_false]; rfl
      have h2' : (ss.length : Int) < 2 := by omega
      clear HL hr hq hF hG hb h2
      go_enter Try.func24, Try.ntmps24
      go_wp2_with (go_at_call 68; refine HLH.out.mono ?_; rintro e w' ⟨rfl, n, rfl⟩)
      go_ret2
      exact vq_no N.out (belowN (Below.refl _ _))
    by_cases h16 : 16 < ss.length
    · have N : Hid (meB F G zs ss = false) := by show _ = _; unfold meB; rw [show inB (ss.length : Int) 2 16 = false by unfold inB; rw [decide_eq_false (p := (ss.length : Int) ≤ 16) (by omega), Bool.and_false], Bool.and_false]; rfl
      have h2' : ¬ (ss.length : Int) < 2 := by omega
      have h16' : (16 : Int) < (ss.length : Int) := by omega
      clear HL hr hq hF hG hb h2 h16
      go_enter Try.func24, Try.ntmps24
      go_wp2_with (go_at_call 68; refine HLH.out.mono ?_; rintro e w' ⟨rfl, n, rfl⟩)
      go_ret2
      exact vq_no N.out (belowN (Below.refl _ _))
    have h2' : ¬ (ss.length : Int) < 2 := by omega
    have h16' : ¬ (16 : Int) < (ss.length : Int) := by omega
    have hi : inB (ss.length : Int) 2 16 = true := by unfold inB; rw [decide_eq_true (by omega), decide_eq_true (by omega)]; rfl
    have HEND := Lib.hid (fun h3 h4 => meB_end (F := F) (G := G) hb hi h3 h4)
    have HNO := Lib.hid (fun (k : Nat) hk h => meB_no (F := F) (G := G) (zs := zs) (ss := ss) (k := k) hk h)
    have h256 := (lisB_yes hb).1
    have HB := Lib.hid hb
    have HR := Lib.hid hr
    have HQ := Lib.hid hq
    have HFF := Lib.hid hF
    have HGG := Lib.hid hG
    have HC := Lib.hid hc
    clear HL hr hq hF hG hb hi h2 h16 hc
    go_enter Try.func24, Try.ntmps24
    go_wp2_with (go_at_call 68; refine HLH.out.mono ?_; rintro e w' ⟨rfl, n, rfl⟩)
    go_loopw [6, 7, 8] (fun x y i wr => ∃ (k g c1 h d1 : Nat) (X Y : List Nat), x = .slice (some ⟨g, 0, none⟩) X.length c1 ∧ y = .slice (some ⟨h, 0, none⟩) Y.length d1 ∧ i = .int .i64 k ∧ k ≤ ss.length ∧ g ≠ h ∧ Hid (Tl F k X) ∧ Hid (Tl G k Y) ∧ Hid (∀ j, j < k → sOk zs (atI ss j) = true) ∧ Hid (∀ j, j < k → abvO (sCs zs ss j) = false → finO (G j) = false) ∧ Hid (OwnA wr w.heap.size X g c1) ∧ Hid (OwnA wr w.heap.size Y h d1) ∧ Hid (Below w.heap.size w wr)) (fun _ _ i _ => ss.length - (intOf i).toNat)
    case atStart => exact ⟨0, w.heap.size, 0, w.heap.size + 1, 0, [], [], rfl, rfl, rfl, Nat.zero_le _, by omega, Tl.nil _, Tl.nil _, fun j hj => absurd hj (Nat.not_lt_zero _), fun j hj => absurd hj (Nat.not_lt_zero _), own_two0 w _, own_second w _, ((belowN (Below.refl _ _)).alloc (Nat.le_refl _) _).alloc (by simp) _⟩
    case round =>
      obtain ⟨k, g, c1, h, d1, X, Y, rfl, rfl, rfl, hk, hgh, hTX, hTY, hJ, hV, hOX, hOY, hBw⟩ := hrel
      have hsz : Hid (w.heap.size ≤ wr.heap.size) := hBw.out.size
      have hlx : X.length ≤ 16 := by rw [hTX.out.len]; omega
      have hly : Y.length ≤ 16 := by rw [hTY.out.len]; omega
      have hlo1 := hOX.out.lo
      have hlo2 := hOY.out.lo
      by_cases hlt : k < ss.length
      · obtain ⟨bb, ob, rfl, hbb, hcell⟩ := (HQ.out.below hBw.out) (by omega)
        have hc := hcell k hlt
        clear hcell
        have HIN := Lib.hid (fun W => inS_any (atI ss k) 2 (zs.length : Int) W)
        have HNk := Lib.hid (HNO.out k hlt)
        have HSO : Hid (sOk zs (atI ss k) = (inB (atI ss k) 2 (zs.length : Int) && mOk zs (atI ss k).toNat)) := rfl
        have HSC : Hid (sCs zs ss k = mC zs (atI ss k).toNat) := rfl
        have HFk := Lib.hid (fun h1 h2 => (HFF.out k hlt h1 h2).1)
        have HGk := Lib.hid (HGG.out k)
        have HJk : Hid (sOk zs (atI ss k) = true → ∀ j, j < k + 1 → sOk zs (atI ss j) = true) := fun hp j hj => by
          by_cases e : j = k
          · rw [e]; exact hp
          · exact hJ.out j (by omega)
        generalize atI ss k = sz at *
        cases hi : inB sz 2 (zs.length : Int)
        · rw [hi] at HIN
          have N := Lib.hid (HNk.out (by rw [HSO.out, hi]; rfl))
          clear hi
          go_wp2_with (go_at_call 46; refine (HIN.out _).mono ?_; rintro e w' ⟨rfl, rfl⟩)
          go_ret2
          exact vq_no N.out hBw.out
        · rw [hi] at HIN
          obtain ⟨i1, i2⟩ := inB_yes hi
          obtain ⟨z, rfl⟩ := Int.eq_ofNat_of_zero_le (show 0 ≤ sz by omega)
          have i3 : 2 ≤ z := by omega
          have i4 : z ≤ zs.length := by omega
          have HSO2 : Hid (sOk zs (z : Int) = mOk zs z) := by show _ = _; rw [HSO.out, hi]; rfl
          have HLX := Lib.hid (HFk.out i1 (by omega))
          have hcnt : zs.length / z ≤ 256 := Nat.le_trans (Nat.div_le_self _ _) h256
          have hfit : Hid (∀ j, j < zs.length / z → j * z + z ≤ zs.length) := fun j hj => by have := pcz_fit hj; rwa [Nat.succ_mul] at this
          have hend : Hid (∀ j, j ≤ zs.length / z → ¬ j < zs.length / z → ¬ j * z + z ≤ zs.length) := fun j h1 h2 h3 => by
            have : j + 1 ≤ zs.length / z := (Nat.le_div_iff_mul_le (by omega)).2 (by rw [Nat.succ_mul]; exact h3)
            omega
          have HSP : Hid (∀ (j p : Nat) (bb ob : Nat) (W : World) (cc : Nat), j < zs.length / z → p = j * z → bb < W.heap.size → (∀ i, i < zs.length → W.cell? ⟨bb, ob + i, none⟩ = some (.float .f32 (at0 zs i))) → Calls Try.prog 69 #[.slice (some ⟨bb, ob + p, none⟩) z cc] W (MPost (pC zs z j) (pOk zs z j) W)) := fun j p bb ob W cc hj hp h1 h2 => by
            subst hp
            have hf := pcz_fit hj
            have hl := pcz_len hf
            have := specSpr (some ⟨bb, ob + j * z, none⟩) cc (pcz zs z j) W (pcz_row hf h1 h2) (by rw [hl]; exact i3) (by rw [hl]; omega)
            rw [hl] at this
            exact this
          have hMN : Hid (∀ j, j < zs.length / z → pOk zs z j = false → mOk zs z = false) := fun j hj h => mOk_no hj h
          have hMY : Hid ((∀ j, j < zs.length / z → pOk zs z j = true) → mOk zs z = true) := fun h => mOk_yes h
          have hMF : Hid (∀ ys, Tl (pC zs z) (zs.length / z) ys → meanF ys = mC zs z) := fun ys h => mean_tl h
          generalize hcn : zs.length / z = cn at *
          have HCN := Lib.hid hcn
          have HRo := Lib.hid (HR.out.below hBw.out)
          clear hi HSO hcn
          have hHSC : Hid (sCs zs ss k = mC zs z) := HSC.out
          clear HSC
          go_wp2_with (go_at_call 46; refine (HIN.out _).mono ?_; rintro e w' ⟨rfl, rfl⟩)
          generalize wr = wo at *
          go_loopw [10, 11] (fun s q wr => ∃ (j p g2 c2 : Nat) (R : List Nat), s = .slice (some ⟨g2, 0, none⟩) R.length c2 ∧ q = .int .i64 p ∧ Hid (p = j * z) ∧ p ≤ zs.length ∧ j ≤ cn ∧ Hid (Tl (pC zs z) j R) ∧ Hid (∀ i, i < j → pOk zs z i = true) ∧ Hid (OwnA wr wo.heap.size R g2 c2) ∧ Hid (Below wo.heap.size wo wr)) (fun _ q _ => zs.length + 1 - (intOf q).toNat)
          case atStart => exact ⟨0, 0, _, 0, [], rfl, rfl, by show _ = _; rw [Nat.zero_mul], Nat.zero_le _, Nat.zero_le _, Tl.nil _, fun j hj => absurd hj (Nat.not_lt_zero _), OwnA.lit0 wo, (Below.refl _ _).alloc (Nat.le_refl _) _⟩
          case round =>
            obtain ⟨j, p, g2, c2, R, rfl, rfl, hp, hpl, hj, hTR, hJ2, hOR, hB2⟩ := hrel
            have hlr : R.length ≤ 256 := by rw [hTR.out.len]; omega
            have hsz2 : Hid (wo.heap.size ≤ wr.heap.size) := hB2.out.size
            have hlo3 := hOR.out.lo
            by_cases hjl : j < cn
            · have hf := hfit.out j hjl
              rw [← hp.out] at hf
              obtain ⟨b, off, rfl, hb3, hcell3⟩ := HRo.out (by omega)
              have hb4 : b < wo.heap.size := by have := hBw.out.size; omega
              have HSPj := Lib.hid (fun cc => HSP.out j p b off wr cc hjl hp.out (Nat.lt_of_lt_of_le hb4 hB2.out.size) (fun i hi => by rw [hB2.out.cell (p := ⟨b, off + i, none⟩) hb4]; exact hcell3 i hi))
              have hp2 : Hid (p + z = (j + 1) * z) := by show _ = _; rw [Nat.succ_mul, hp.out]
              have hNc := HC.out
              have HPN := Lib.hid (hMN.out j hjl)
              have HJ3 : Hid (pOk zs z j = true → ∀ i, i < j + 1 → pOk zs z i = true) := fun hq i hi => by
                by_cases e : i = j
                · rw [e]; exact hq
                · exact hJ2.out i (by omega)
              clear hcell3
              cases hpk : pOk zs z j
              · rw [hpk] at HSPj
                have N := Lib.hid (HNk.out (by rw [HSO2.out]; exact HPN.out hpk))
                clear hpk
                go_wp2_with (go_at_call 69; refine (HSPj.out _).mono ?_; rintro e w2 ⟨r2, rfl, e2, -, b2⟩)
                go_ret2
                exact vq_no N.out (hBw.out.trans ((hB2.out.trans (b2.out.mono hB2.out.size)).mono hBw.out.size))
              · rw [hpk] at HSPj
                have HJ4 := Lib.hid (HJ3.out hpk)
                clear hpk HJ3
                go_wp2_with (first | (go_at_call 69; refine (HSPj.out _).mono ?_; rintro e w2 ⟨r2, rfl, e2, -, b2⟩; have OR2 := Lib.hid (hOR.out.below b2.out); have B3 := Lib.hid (hB2.out.trans (b2.out.mono hB2.out.size)); clear b2) | (at_builtin; refine wpApp rfl _ _ rfl (w0 := w2) OR2.out rfl rfl rfl (by omega) B3.out.size ?_; intro g3 c3 w4 O4 B4; have HO4 := Lib.hid O4; have HB4 := Lib.hid (below_app B3.out (Nat.le_refl _) hlo3.1 B4); clear O4 B4))
                have HT2 : Hid (Tl (pC zs z) (j + 1) (R ++ [r2])) := hTR.out.snoc e2.out
                go_roundw
                case rel => exact ⟨j + 1, p + z, g3, c3, R ++ [r2], by rw [snoc_len], by go_num, hp2, hf, by omega, HT2, HJ4, HO4, HB4⟩
                case measure => simp [intOf]; omega
            · have hne := hend.out j hj hjl
              rw [← hp.out] at hne
              have ej : j = cn := by omega
              subst ej
              have N := Lib.hid (hMY.out hJ2.out)
              have HJ5 := Lib.hid (HJk.out (by rw [HSO2.out]; exact N.out))
              have OX2 := Lib.hid (hOX.out.below hB2.out)
              have OY2 := Lib.hid (hOY.out.below hB2.out)
              have Bw2 := Lib.hid (hBw.out.trans (hB2.out.mono hBw.out.size))
              have HMF := Lib.hid (hMF.out R hTR.out)
              have szX := OX2.out.lo
              have szY := OY2.out.lo
              have szw : Hid (w.heap.size ≤ wr.heap.size) := Bw2.out.size
              have hkc : ((z : Nat) : Int) = (z : Int) := rfl
              clear HSP hMN hMY hend hfit HIN HJk
              go_wp2_with (first
                | (go_at_call 70; (first
                  | ((with_reducible refine (HLX.out _).mono ?_); rintro e w' ⟨gx, nx, rfl, rfl, ex, wx⟩)
                  | ((refine ((HGk.out.1 gm wm (by rw [em.out, HMF.out, hHSC.out])) _).mono ?_); rintro e w' ⟨gy, ny, rfl, rfl, ey, wy⟩)))
                | (go_at_call 71; refine (specMean (some ⟨g2, 0, none⟩) c2 R _ _ (by exact RR5.out) (by omega)).mono ?_; rintro e w' ⟨gm, nm, rfl, rfl, em, wm⟩)
                | (at_builtin; (first
                  | (refine wpApp2 rfl _ _ rfl (by exact OX2.out) rfl rfl rfl (by omega) (by exact szw.out) ?_; intro g5 c5 w5 O5 B5 p5; have OX5 := Lib.hid O5; have OY5 : Hid (OwnA w5 w.heap.size Y h d1) := OwnA.but (by exact OY2.out) B5 (by omega); have OR5 : Hid (OwnA w5 wo.heap.size R g2 c2) := OwnA.but (by exact hOR.out) B5 (by omega); have Bw5 : Hid (Below w.heap.size w w5) := below_app (by exact belowN Bw2.out) (Nat.le_refl _) szX.1 B5; have RR5 := Lib.hid OR5.out.rowIn.toRow; have p5' : g5 = g ∨ wr.heap.size ≤ g5 := p5; have lo5 := OX5.out.lo; have sz5 : Hid (w.heap.size ≤ w5.heap.size) := Bw5.out.size; clear O5 B5 p5)
                  | (refine wpApp2 rfl _ _ rfl (by exact OY5.out) rfl rfl rfl (by omega) (by exact sz5.out) ?_; intro g6 c6 w6 O6 B6 p6; have OY6 := Lib.hid O6; have OX6 : Hid (OwnA w6 w.heap.size _ g5 c5) := OwnA.but (by exact OX5.out) B6 (by omega); have Bw6 : Hid (Below w.heap.size w w6) := below_app (by first | exact belowN Bw5.out | exact belowN (belowN Bw5.out)) (Nat.le_refl _) szY.1 B6; have p6' : g6 = h ∨ w5.heap.size ≤ g6 := p6; clear O6 B6 p6))))
              have HTX2 : Hid (Tl F (k + 1) (X ++ [gx])) := hTX.out.snoc ex.out
              have HTY2 : Hid (Tl G (k + 1) (Y ++ [gy])) := hTY.out.snoc ey.out
              have HV2 : Hid (∀ j, j < k + 1 → abvO (sCs zs ss j) = false → finO (G j) = false) := fun j hj ha => by
                by_cases e : j = k
                · subst e
                  have em2 : can .f32 gm = sCs zs ss j := by rw [em.out, HMF.out, hHSC.out]
                  exact HGk.out.2.1 ⟨gm, wm, em2, by rw [← em2, abvO_can] at ha; exact ha⟩
                · exact hV.out j (by omega) ha
              go_roundw
              case rel => exact ⟨k + 1, g5, c5, g6, c6, X ++ [gx], Y ++ [gy], by rw [snoc_len], by rw [snoc_len], by go_num, by omega, by omega, HTX2, HTY2, HJ5, HV2, OX6, OY6, Bw6⟩
              case measure => simp [intOf]; omega
      · have ek : k = ss.length := by omega
        subst ek
        have N := Lib.hid (HEND.out hJ.out hV.out)
        have HS := specSlO (some ⟨g, 0, none⟩) (some ⟨h, 0, none⟩) c1 d1 X Y wr wr.heap.size hOX.out.rowIn.toRow hOY.out.rowIn.toRow (by omega) (by omega)
        rw [sloA_told hTX.out hTY.out, slo_told hTX.out hTY.out, ← N.out] at HS
        have HSL := Lib.hid HS
        clear HS
        cases hmb : meB F G zs ss
        · rw [hmb] at HSL
          have HMB := Lib.hid hmb
          clear hmb
          go_wp2_with fail
          refine HSL.out.mono ?_
          rintro e w3 ⟨g3, g4, rfl, q1, q2, b3⟩
          go_wp2_with fail
          go_ret2
          rw [HMB.out]
          exact ⟨0, rfl, (by decide : can .f32 0 = some 0), hBw.out.trans (b3.out.mono hBw.out.size)⟩
        · rw [hmb] at HSL
          have HMB := Lib.hid hmb
          clear hmb
          go_wp2_with fail
          refine HSL.out.mono ?_
          rintro e w3 ⟨g3, g4, rfl, q1, q2, b3⟩
          go_wp2_with fail
          go_ret2
          rw [HMB.out]
          exact ⟨g3, rfl, q1, hBw.out.trans (b3.out.mono hBw.out.size)⟩
theorem mesBoth (zs : List Nat) (ss : List Int) (hn : zs.length ≤ 1048576) (hm : ss.length ≤ 1048576) : ∃ cc b,
    (∀ W A c B d, RowF W W.heap.size A zs → zs.length ≤ c → RowI W W.heap.size B ss → Calls Try.prog 24 #[.slice A zs.length c, .slice B ss.length d] W (VQ cc b W)) ∧
    (∀ W A c B d, RowF W W.heap.size A zs → zs.length ≤ c → RowI W W.heap.size B ss → Calls Try.prog 26 #[.slice A zs.length c, .slice B ss.length d] W (VQ cc b W)) := by
  obtain ⟨F, hF⟩ := lgZ_any ss
  obtain ⟨G, hG⟩ := Classical.axiomOfChoice (fun j => lgM_any (sCs zs ss j))
  exact ⟨_, _, fun W A c B d h1 h2 h3 => specMes A B c d zs ss F G W h1 h3 h2 hn hm hF hG, fun W A c B d h1 h2 h3 => implMes A B c d zs ss F G W h1 h3 h2 hn hm hF hG⟩
end Go.Proofs.Ythhimielelpcoaa
