/-
  What is proved here: a drop on a sheet, of the reference, as a walk. Conditions: a valid sheet's sides, a place of it, at most 128 steps.
-/
import Derived.Test.YtckhdbnoihieeaaDrl
import Derived.Deep.CutRange
namespace Go.Proofs.Ytckhdbnoihieeaa
open Flt Go.RowKit
attribute [local go_sem] run_store_float
set_option linter.unusedVariables false

set_option maxHeartbeats 16000000 in
set_option maxRecDepth 1000000 in
theorem specDrop (v : Nat) (x y : Int) (g c' n : Nat) (ws : List Nat) (f : Nat → Option Nat) (a0 : Nat) (st : Nat) (tk lv : Nat) (w : World) (V : VarT w v x y (some ⟨g, 0, none⟩) n c') (hvg : v < g ∨ g + 1 ≤ v) (hG : RowG w g ws) (hT : Told f n n ws) (hv : sidesB x y = true) (hx : 1 ≤ x) (hn : (n : Int) = x * y) (ha : a0 < n) (hs : st ≤ 128) :
    Calls Try.prog 60 #[.pointer (some ⟨v, 0, none⟩), .int .i64 (a0 : Nat), .int .i64 (st : Nat), .float .f32 tk, .float .f32 lv] w fun e w' => ∃ vs, e = .returned (.int .i64 ((drI tk lv x y ⟨f, can .f32 0, a0, 0⟩ st).n : Nat)) ∧ Hid (Told (drF (drI tk lv x y ⟨f, can .f32 0, a0, 0⟩ st)) n n vs) ∧ Hid (RowG w' g vs) ∧ Hid (ButIn g (g + 1) w w') := by
  have HV := Lib.hid V
  have HSB := Lib.hid (And.intro hv (And.intro hx hn))
  have HG0 := Lib.hid hG
  have HT0 := Lib.hid hT
  have gb : g < w.heap.size := by have := hG.le; omega
  obtain ⟨s0, hs0⟩ : ∃ s0 : DrS, s0 = ⟨f, can .f32 0, a0, 0⟩ := ⟨_, rfl⟩
  rw [← hs0]
  have I0 : Hid ((drI tk lv x y s0 0).n = 0 ∧ (drI tk lv x y s0 0).a = a0 ∧ (drI tk lv x y s0 0).f = f ∧ (drI tk lv x y s0 0).c = can .f32 0) := by rw [hs0]; exact ⟨rfl, rfl, rfl, rfl⟩
  clear hs0 V hG hT hv hx hn
  have HSTOP := Lib.hid (fun k => @drI_stop tk lv x y s0 k)
  have HGO := Lib.hid (fun k => @drI_go tk lv x y s0 k)
  generalize hI : drI tk lv x y s0 = I at *
  clear hI s0
  go_enter Try.func60, Try.ntmps60
  go_wp2_with fail
  go_loopw [1, 11, 12] (fun p q r wr => ∃ (k ca : Nat) (vs : List Nat), k ≤ st ∧ (I k).n = k ∧ (I k).a < n ∧ p = .int .i64 ((I k).a : Nat) ∧ q = .float .f32 ca ∧ r = .int .i64 (k : Nat) ∧ Hid (Told (I k).f n n vs) ∧ Hid (can .f32 ca = (I k).c) ∧ Hid (RowG wr g vs) ∧ Hid (ButIn g (g + 1) w wr)) (fun _ _ r _ => st - (intOf r).toNat)
  case atStart => exact ⟨0, 0, ws, Nat.zero_le _, I0.out.1, by rw [I0.out.2.1]; exact ha, by rw [I0.out.2.1], rfl, rfl, by rw [I0.out.2.2.1]; exact HT0, by rw [I0.out.2.2.2]; rfl, HG0, ButIn.refl _ _ _⟩
  case round =>
    clear I0 HG0 HT0 ha
    obtain ⟨k, ca, vs, hk, hkn, ha, rfl, rfl, rfl, hT, hA, hG, hB⟩ := hrel
    have HKN := Lib.hid hkn
    clear hkn
    by_cases hlt : k < st
    · obtain ⟨a, hae⟩ : ∃ a, a = (I k).a := ⟨_, rfl⟩
      have HAE := Lib.hid hae
      rw [← hae] at ha ⊢
      clear hae
      have HSI := Lib.hid (specBes v x y (a : Int) (some ⟨g, 0, none⟩) n c' wr (HV.out.but hB.out (by omega)) HSB.out.1 (by omega) (by have := HSB.out.2.2; omega))
      have HS : Hid (∀ m, m < (Fk.sidL x y (a : Int)).length → ∃ j : Nat, atI (Fk.sidL x y (a : Int)) m = j ∧ j < n ∧ (j : Int) ≠ (a : Int)) := fun m hm => side_at HSB.out.2.1 (by omega) (by have := HSB.out.2.2; omega) HSB.out.2.2 hm
      have HLW : Hid (∀ i, i ≤ (Fk.sidL x y (a : Int)).length → lowF (I k).f (Fk.sidL x y (a : Int)) a i < n) := lowF_lt ha (fun m hm => by obtain ⟨j, h1, h2, _⟩ := HS.out m hm; exact ⟨j, h1, h2⟩)
      have HD : Hid (lowB (I k).f x y a = lowF (I k).f (Fk.sidL x y (a : Int)) a (Fk.sidL x y (a : Int)).length) := rfl
      have hll : (Fk.sidL x y (a : Int)).length ≤ 4 := Fk.sidL_len _ _ _
      go_wp2_with fail
      refine HSI.out.mono ?_
      rintro e wq ⟨B, d, rfl, hO, hbq⟩
      have hBq := Lib.hid (hB.out.andB hbq.out)
      have hGq := Lib.hid (hG.out.but (ButIn.of hbq.out) (.inr (Nat.zero_le _)))
      have LQ : Hid (LstR wq (g + 1) B (Fk.sidL x y (a : Int))) := Lib.hid ((LstR.of hO.out).lower (by have := hB.out.size; omega))
      clear hO hbq hB hG HSI
      generalize Fk.sidL x y (a : Int) = L at *
      have VQ := HV.out.but hBq.out (by omega)
      have v2 := VQ.c2
      have vl := VQ.lt
      have gq : g < wq.heap.size := by have := hGq.out.le; omega
      clear VQ
      go_wp2_with fail
      go_loopw [14, 27] (fun l i wr => ∃ m : Nat, m ≤ L.length ∧ i = .int .i64 m ∧ l = .int .i64 (lowF (I k).f L a m : Nat) ∧ Hid (Below wq.heap.size wq wr)) (fun _ i _ => L.length - (intOf i).toNat)
      case atStart => exact ⟨0, Nat.zero_le _, rfl, rfl, Below.refl _ _⟩
      case round =>
        obtain ⟨m, hm, rfl, rfl, hb⟩ := hrel
        have hlw := HLW.out m hm
        have v2' : wr.cell? ⟨v, 2, none⟩ = some (.slice (some ⟨g, 0, none⟩) n c') := by rw [hb.out.cell (p := ⟨v, 2, none⟩) vl]; exact v2
        have hGr := Lib.hid (hGq.out.but (ButIn.of hb.out) (.inr (Nat.zero_le _)))
        by_cases hlm : m < L.length
        · obtain ⟨j, hj1, hj2, _⟩ := HS.out m hlm
          obtain ⟨bl, ob, rfl, hl1, hl2, hcl⟩ := (LQ.out.but (ButIn.of hb.out) (Nat.zero_le _)) (by omega)
          have hc := hcl m hlm
          rw [hj1] at hc
          obtain ⟨hg1, hg2⟩ := hGr.out.cell (k := j) (by rw [hT.out.1]; exact hj2)
          obtain ⟨hg3, hg4⟩ := hGr.out.cell (k := lowF (I k).f L a m) (by rw [hT.out.1]; exact hlw)
          have HST : Hid (lowF (I k).f L a (m + 1) = if (FloatKind.f32.format.order (at0 vs j) (at0 vs (lowF (I k).f L a m)) == some .lt) = true then j else lowF (I k).f L a m) := by
            show (if ltO ((I k).f (atI L m).toNat) ((I k).f (lowF (I k).f L a m)) = true then (atI L m).toNat else lowF (I k).f L a m) = _
            rw [hj1, Int.toNat_natCast, ltO_eq (hT.out.2 j hj2) (hT.out.2 _ hlw)]
          have hB' := Lib.hid (fun n => belowN (n := n) hb.out)
          generalize lowF (I k).f L a m = q at *
          clear hcl hj1 hl1 v2 hg2 hg4 hGr
          cases hg : (FloatKind.f32.format.order (at0 vs j) (at0 vs q) == some .lt)
          · rw [hg] at HST
            go_wp2_with fail
            go_quiet (fail)
            go_wp2_with fail
            go_roundw
            case rel => exact ⟨m + 1, by omega, by go_num, by rw [HST.out]; rfl, hB'.out _⟩
            case measure => simp [intOf]; omega
          · rw [hg] at HST
            go_wp2_with fail
            go_quiet (fail)
            go_wp2_with fail
            go_roundw
            case rel => exact ⟨m + 1, by omega, by go_num, by rw [HST.out]; rfl, hB'.out _⟩
            case measure => simp [intOf]; omega
        · have HE : Hid (m = L.length) := by show m = L.length; omega
          have HQ : Hid (lowF (I k).f L a m = lowB (I k).f x y a) := by show _ = _; rw [HD.out, HE.out]
          rw [HQ.out] at hlw ⊢
          obtain ⟨b, hbe⟩ : ∃ b, b = lowB (I k).f x y a := ⟨_, rfl⟩
          have HBE := Lib.hid hbe
          rw [← hbe] at hlw ⊢
          have hBr := Lib.hid (hBq.out.andB hb.out)
          obtain ⟨hg1, hg2⟩ := hGr.out.cell (k := a) (by rw [hT.out.1]; exact ha)
          obtain ⟨hg3, hg4⟩ := hGr.out.cell (k := b) (by rw [hT.out.1]; exact hlw)
          clear hbe HE HQ HD HLW HS LQ v2 hBq hGq hb
          generalize hwz : wr = wz at *
          clear hwz
          by_cases hba : b = a
          · -- it stops here
            have HST : Hid (I st = I k) := by
              show _ = _
              have := HSTOP.out k HKN.out (by rw [← HAE.out, ← HBE.out]; exact hba) (st - k)
              rwa [show k + (st - k) = st by omega] at this
            subst hba
            have hSA := Lib.hid HAE.out
            go_wp2_with fail
            go_region_with ((with_reducible refine upon_bin rfl ?_); intro _ _ _ _)
            all_goals
              rename_i r2 n2 w2 e2
              have NT : Hid (Told (drF (I k)) n n (vs.set b r2)) := by
                show Told (updO (I k).f (I k).a _) _ _ _
                rw [← hSA.out]
                exact hT.out.upd hlw (by rw [e2.out, hA.out, hT.out.2 b hlw])
              go_wp2_with fail
              go_ret
              exact ⟨vs.set b r2, by rw [HST.out, HKN.out]; rfl, by rw [HST.out]; exact NT, (hGr.out.but (ButIn.of (belowN (Below.refl _ _))) (.inr (Nat.zero_le _))).set (by rw [hT.out.1]; exact hlw), (hBr.out.drewN).set (q := ⟨g, b, none⟩) (Nat.le_refl _) (Nat.lt_succ_self _) _⟩
          · have hba2 : ¬ (b : Int) = (a : Int) := by omega
            have HSG : Hid (I (k + 1) = drT tk lv b (I k)) := by
              show _ = _
              have := HGO.out k HKN.out (by rw [← HAE.out, ← HBE.out]; exact hba)
              rw [← HAE.out, ← HBE.out] at this
              exact this
            go_wp2_with fail
            rename_i K1 hK1
            go_cut [16] from 53 to 72 (fun s wc => ∃ rx : Nat, s = .float .f32 rx ∧ Hid (can .f32 rx = drX tk b (I k)) ∧ Hid (RowG wc g vs) ∧ Hid (ButIn g (g + 1) w wc))
            case first =>
              clear hK1
              go_region_with ((with_reducible refine upon_bin rfl ?_); intro _ _ _ _)
              all_goals
                rename_i r1 n1 w1 e1 r2 n2 w2 e2
                (try simp only [Act.put, List.getElem_toArray, List.getElem_cons_succ, List.getElem_cons_zero, List.setIfInBounds_toArray, List.set_cons_zero, List.set_cons_succ])
                go_wp2_with fail
                go_meet
                case rel => exact ⟨r2, rfl, by show _ = _; rw [e2.out, e1.out, hT.out.2 a ha, hT.out.2 b hlw, HAE.out]; rfl, hGr.out.but (ButIn.of (belowN (Below.refl _ _))) (.inr (Nat.zero_le _)), hBr.out.drewN⟩
            case rest =>
              clear hGr hBr hg1 hg2 hg3 hg4 v2'
              obtain ⟨rx, rfl, hX, hGr, hBr⟩ := hcut
              have v2' := (HV.out.but hBr.out (by omega)).c2
              have vl' := (HV.out.but hBr.out (by omega)).lt
              obtain ⟨hg1, hg2⟩ := hGr.out.cell (k := a) (by rw [hT.out.1]; exact ha)
              go_wp2_with fail
              rename_i K2 hK2
              go_cut [] from 73 to 87 (fun wc => ∃ vs1 : List Nat, Hid (Told (drG tk b (I k)) n n vs1) ∧ Hid (RowG wc g vs1) ∧ Hid (ButIn g (g + 1) w wc))
              case first =>
                clear hK2
                go_region_with ((with_reducible refine upon_bin rfl ?_); intro _ _ _ _)
                all_goals
                  rename_i r2 n2 w2 e2
                  have NT : Hid (Told (drG tk b (I k)) n n (vs.set a r2)) := by
                    show Told (updO (I k).f (I k).a _) _ _ _
                    rw [← HAE.out]
                    exact hT.out.upd ha (by rw [e2.out, hT.out.2 a ha, hX.out])
                  go_wp2_with fail
                  go_meet
                  case rel => exact ⟨_, NT, (hGr.out.but (ButIn.of (belowN (Below.refl _ _))) (.inr (Nat.zero_le _))).set (by rw [hT.out.1]; exact ha), (hBr.out.drewN).set (q := ⟨g, a, none⟩) (Nat.le_refl _) (Nat.lt_succ_self _) _⟩
              case rest =>
                clear hGr hBr hg1 hg2 v2' vl'
                obtain ⟨vs1, hT1, hG1, hB1⟩ := hcut
                have v2' := (HV.out.but hB1.out (by omega)).c2
                have vl' := (HV.out.but hB1.out (by omega)).lt
                obtain ⟨hg1, hg2⟩ := hG1.out.cell (k := a) (by rw [hT1.out.1]; exact ha)
                go_wp2_with ((with_reducible refine upon_bin rfl ?_); intro _ _ _ _)
                rename_i r3 n3 w3 e3 r4 n4 w4 e4 K3 hK3
                have HC : Hid (can .f32 r3 = drC tk b (I k)) := by show _ = _; rw [e3.out, hA.out, hX.out]; rfl
                have HY : Hid (can .f32 r4 = drY tk lv b (I k)) := by show _ = _; rw [e4.out, HC.out]; rfl
                go_cut [] from 94 to 108 (fun wc => ∃ vs2 : List Nat, Hid (Told (updO (drG tk b (I k)) a (fop .add .f32 (drG tk b (I k) a) (drY tk lv b (I k)))) n n vs2) ∧ Hid (RowG wc g vs2) ∧ Hid (ButIn g (g + 1) w wc))
                case first =>
                  clear hK3
                  go_region_with ((with_reducible refine upon_bin rfl ?_); intro _ _ _ _)
                  all_goals
                    rename_i r2 n2 w2 e2
                    have NT := Lib.hid (hT1.out.upd ha (show can .f32 r2 = fop .add .f32 (drG tk b (I k) a) (drY tk lv b (I k)) by rw [e2.out, hT1.out.2 a ha, HY.out]))
                    go_wp2_with fail
                    go_meet
                    case rel => exact ⟨_, NT, (hG1.out.but (ButIn.of (belowN (Below.refl _ _))) (.inr (Nat.zero_le _))).set (by rw [hT1.out.1]; exact ha), (hB1.out.drewN).set (q := ⟨g, a, none⟩) (Nat.le_refl _) (Nat.lt_succ_self _) _⟩
                case rest =>
                  clear hG1 hB1 hg1 hg2 v2' vl' hT1
                  obtain ⟨vs2, hT2, hG2, hB2⟩ := hcut
                  go_wp2_with ((with_reducible refine upon_bin rfl ?_); intro _ _ _ _)
                  rename_i r5 n5 w5 e5
                  have GB2 := Lib.hid (fun n => Lib.hid (hG2.out.but (ButIn.of (belowN (n := n) (Below.refl _ _))) (.inr (Nat.zero_le _))))
                  have BB2 := Lib.hid (fun n => Lib.hid (hB2.out.drewN (n := n)))
                  have N5 : Hid (can .f32 r5 = (I (k + 1)).c) := by show _ = _; rw [e5.out, HC.out, HY.out, HSG.out]; rfl
                  have NT2 : Hid (Told (I (k + 1)).f n n vs2) := by show _; rw [HSG.out]; show Told (updO (drG tk b (I k)) (I k).a (fop .add .f32 (drG tk b (I k) (I k).a) _)) _ _ _; rw [← HAE.out]; exact hT2.out
                  have N1 : Hid ((I (k + 1)).n = k + 1) := by show _; rw [HSG.out]; show (I k).n + 1 = _; rw [HKN.out]
                  have NA : Hid ((I (k + 1)).a = b) := by show _; rw [HSG.out]; rfl
                  clear hG2 hB2 hT2 e5 w5
                  go_roundw
                  case rel => exact ⟨k + 1, r5, vs2, by omega, N1.out, by rw [NA.out]; exact hlw, by rw [NA.out], rfl, by go_num, NT2, N5, GB2.out _, BB2.out _⟩
                  case measure => simp [intOf]; omega
    · have HE : Hid (k = st) := by show k = st; omega
      have HST : Hid (I st = I k) := by show _ = _; rw [HE.out]
      have v2' := (HV.out.but hB.out (by omega)).c2
      have vl' := (HV.out.but hB.out (by omega)).lt
      obtain ⟨hg1, hg2⟩ := hG.out.cell (k := (I k).a) (by rw [hT.out.1]; exact ha)
      generalize hab : (I k).a = a at *
      have hSA := Lib.hid hab
      clear hab
      go_wp2_with fail
      go_region_with ((with_reducible refine upon_bin rfl ?_); intro _ _ _ _)
      all_goals
        rename_i r2 n2 w2 e2
        have NT : Hid (Told (drF (I k)) n n (vs.set a r2)) := by
          show Told (updO (I k).f (I k).a _) _ _ _
          rw [hSA.out]
          exact hT.out.upd ha (by rw [e2.out, hA.out, hT.out.2 a ha])
        go_wp2_with fail
        go_ret
        exact ⟨vs.set a r2, by rw [HST.out, HKN.out]; rfl, by rw [HST.out]; exact NT, (hG.out.but (ButIn.of (belowN (Below.refl _ _))) (.inr (Nat.zero_le _))).set (by rw [hT.out.1]; exact ha), (hB.out.drewN).set (q := ⟨g, a, none⟩) (Nat.le_refl _) (Nat.lt_succ_self _) _⟩

end Go.Proofs.Ytckhdbnoihieeaa
