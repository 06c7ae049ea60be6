/-
  What is proved here: the merge of a stable sort where the second part is one, as walks. Conditions: at most 65536 of them.
-/
import Derived.Test.YtnhcmloaanamnaaSf4
namespace Go.Proofs.Ytnhcmloaanamnaa
open Flt Go.RowKit
attribute [local go_sem] run_store_fS
set_option linter.unusedVariables false
set_option linter.unusedSimpArgs false

set_option maxHeartbeats 16000000 in
set_option maxRecDepth 1000000 in
theorem sFSy2 (v : Nat → Nat) (g n c a m b : Nat) (f : Nat → Nat) (K : Nat → Int) (C : Nat → Nat → Int) (Env : World → Prop) (w : World) (hE : sFEnv v n g K C Env) (he : Env w) (hr : sFRw v w g n f) (hp : sPre K f a m b) (hb : b ≤ n) (hn : n ≤ 65536) (hbd : ∀ j, j < n → f j < n) (h1 : b = m + 1) (h0 : m ≠ a + 1) :
    Calls Try.prog 110 #[.slice (some ⟨g, 0, none⟩) n c, .int .i64 (a : Nat), .int .i64 (m : Nat), .int .i64 (b : Nat), .func (.func 37) #[] #[]] w fun e w' => e = .returned (.tuple #[]) ∧ ∃ h, Hid (sPost K f h a b) ∧ Hid (sFRw v w' g n h) ∧ Hid (sBut g w w') := by
  have am := hp.am
  have mb := hp.mb
  have HP := Lib.hid hp
  have HR := Lib.hid hr
  have HEE := Lib.hid hE
  have HBD := Lib.hid hbd
  have HEN := Lib.hid he
  clear hp hr hE hbd he
  have e0 : IntKind.i64.wrap ((m : Int) - (a : Int)) = (m : Int) - (a : Int) := IntWalk.i64_in _ (by omega)
  have e0' : ((m : Int) - (a : Int) == 1) = false := beq_eq_false_iff_ne.2 (by omega)
  have e1 : IntKind.i64.wrap ((b : Int) - (m : Int)) = 1 := by rw [show (b : Int) - (m : Int) = 1 by omega]; rfl
  have e2 : (b : Int) - (m : Int) = 1 := by omega
  have HM1 := Lib.hid h1
  clear h1 h0
  go_enter Try.func110, Try.ntmps110
  go_wp2_with fail
  clear e1 e2 e0 e0'
  go_loopw [14, 15] (fun i j wr => ∃ (p q : Nat), i = .int .i64 ((p : Nat) : Int) ∧ j = .int .i64 ((q : Nat) : Int) ∧ a ≤ p ∧ p ≤ q ∧ q ≤ m ∧ Hid (p = a ∨ K (f (p - 1)) ≤ K (f m)) ∧ Hid (∀ k, q ≤ k → k < m → K (f m) < K (f k)) ∧ ∃ k, wr = w.drewN k) (fun i j _ => (intOf j).toNat - (intOf i).toNat)
  case atStart => exact ⟨a, m, rfl, rfl, Nat.le_refl _, by omega, Nat.le_refl _, .inl rfl, fun k k1 k2 => by omega, 0, rfl⟩
  case round =>
    obtain ⟨p, q, rfl, rfl, hp1, hpq, hqb, hL, hG, kd, rfl⟩ := hrel
    by_cases hlt : p < q
    · have hh1 : (p + q) / 2 < q := by omega
      have hh2 : p ≤ (p + q) / 2 := by omega
      have hsh : ((p : Int) + (q : Int)) / 2 = (((p + q) / 2 : Nat) : Int) := by omega
      generalize hhd : (p + q) / 2 = hd at *
      clear hhd
      have HRd : Hid (sFRw v (w.drewN kd) g n f) := HR.out.dn _
      have HEd : Hid (∀ k, Env ((w.drewN kd).drewN k)) := fun k => HEE.out.dn _ k (HEE.out.dn _ _ HEN.out)
      obtain ⟨wd, hwd⟩ : ∃ wd, wd = w.drewN kd := ⟨_, rfl⟩
      rw [← hwd] at HRd HEd ⊢
      have HWD := Lib.hid hwd
      clear hwd
      have hxn : ((m : Nat) : Int) < (n : Int) := by omega
      have hyn : ((hd : Nat) : Int) < (n : Int) := by omega
      have c1 := HRd.out.cell _ (j := m) (by omega)
      have c2 := HRd.out.cell _ (j := hd) (by omega)
      have HCN : Hid (∀ k, Calls Try.prog 37 #[.float .f32 (v (f (m))), .float .f32 (v (f (hd)))] (wd.drewN k) fun e w' => e = .returned (.int .i64 (C (f (m)) (f (hd)))) ∧ ∃ k2, w' = (wd.drewN k).drewN k2) := fun k => HEE.out.cmp _ (f (m)) (f (hd)) (HEd.out k) (HBD.out _ (by omega)) (HBD.out _ (by omega))
      have HS : Hid (C (f (m)) (f (hd)) < 0 ↔ K (f (m)) < K (f (hd))) := HEE.out.sgn _ _ (HBD.out _ (by omega)) (HBD.out _ (by omega))
      have HL2 : Hid (K (f m) < K (f hd) → ∀ k, hd ≤ k → k < m → K (f m) < K (f k)) := fun hk k k1 k2 => by
        by_cases e : k = hd
        · rw [e]; exact hk
        · have := HP.out.l hd k (by omega) (by omega) (by omega)
          unfold sLt at this
          omega
      have HG2 : Hid (¬ K (f m) < K (f hd) → (hd + 1 = a ∨ K (f (hd + 1 - 1)) ≤ K (f m))) := fun h => .inr (Int.not_lt.1 h)
      by_cases hk : K (f m) < K (f hd)
      · have HL3 := Lib.hid (HL2.out hk)
        have hcv : C (f m) (f hd) < 0 := HS.out.2 hk
        clear HL2 HG2 hk HS
        generalize C (f m) (f hd) = cv at *
        go_wp2_with fail
        go_quiet ((go_at_call 37; refine (HCN.out _).mono ?_; rintro e w' ⟨rfl, kk, rfl⟩; exact ⟨rfl, _, by rw [World.drewN_drewN]⟩))
        go_wp2_with fail
        go_roundw
        case rel => exact ⟨p, hd, rfl, rfl, hp1, by omega, by omega, hL, HL3, _, by rw [HWD.out, World.drewN_drewN]⟩
        case measure => simp [intOf]; omega
      · have HG3 := Lib.hid (HG2.out hk)
        have hcv : ¬ C (f m) (f hd) < 0 := fun h => hk (HS.out.1 h)
        have hcv2 : 0 ≤ C (f m) (f hd) := Int.not_lt.1 hcv
        have hcv3 : decide (C (f m) (f hd) < 0) = false := decide_eq_false hcv
        clear HL2 HG2 hk HS
        generalize C (f m) (f hd) = cv at *
        go_wp2_with fail
        go_quiet ((go_at_call 37; refine (HCN.out _).mono ?_; rintro e w' ⟨rfl, kk, rfl⟩; exact ⟨rfl, _, by rw [World.drewN_drewN]⟩))
        go_wp2_with fail
        go_roundw
        case rel => exact ⟨hd + 1, q, by go_num, rfl, by omega, by omega, hqb, HG3, hG, _, by rw [HWD.out, World.drewN_drewN]⟩
        case measure => simp [intOf]; omega
    · have e : p = q := by omega
      subst e
      have hl9 := HM1.out
      have HEND : Hid (sPost K f (sMv f m p) a b) := by
        rw [hl9]
        exact ⟨sMv_sam hp1 hqb, sMv_srt hp1 hqb HP.out.l (fun k k1 k2 => HP.out.tag k m k1 k2 (Nat.le_refl _) mb) hG.out (hL.out.imp id fun h => Int.not_lt.2 h)⟩
      have HR0 : Hid (sFRw v (w.drewN kd) g n (sMv f m m)) := by rw [sMv_start]; exact HR.out.dn _
      have hB0 : Hid (sBut g w (w.drewN kd)) := (sBut.refl g w).dn
      clear hl9 hL hG
      go_wp2_with fail
      generalize w.drewN kd = wo at *
      go_loopw [17] (fun i wr => ∃ t : Nat, i = .int .i64 ((t : Nat) : Int) ∧ p ≤ t ∧ t ≤ m ∧ Hid (sFRw v wr g n (sMv f m t)) ∧ Hid (sBut g w wr)) (fun i _ => (intOf i).toNat)
      case atStart => exact ⟨m, rfl, hqb, Nat.le_refl _, HR0, hB0⟩
      case round =>
        clear HR0 hB0
        obtain ⟨t, rfl, ht1, ht2, hR2, hB2⟩ := hrel
        by_cases hlt2 : p < t
        · have ht3 : (p : Int) < (t : Int) := by omega
          have c1 := hR2.out.cell _ (j := t) (by omega)
          have c2 := hR2.out.cell _ (j := t - 1) (by omega)
          have f1 := hR2.out.free (t) (by omega)
          have f2 := hR2.out.free (t - 1) (by omega)
          have R3 : Hid (sFRw v ((wr.setCell ⟨g, t, none⟩ (.float .f32 (v (sMv f m t (t - 1))))).setCell ⟨g, t - 1, none⟩ (.float .f32 (v (sMv f m t (t))))) g n (sMv f m (t - 1))) := by
            have := hR2.out.swap _ (p := t) (q := t - 1) (by omega) (by omega) (by omega)
            rw [sMv_step (by omega) ht2] at this
            exact this
          have B3 : Hid (sBut g w ((wr.setCell ⟨g, t, none⟩ (.float .f32 (v (sMv f m t (t - 1))))).setCell ⟨g, t - 1, none⟩ (.float .f32 (v (sMv f m t (t)))))) := (hB2.out.set _).set _
          generalize sMv f m t (t) = u1 at *
          generalize sMv f m t (t - 1) = u2 at *
          have e6 : IntKind.i64.wrap ((t : Int) - 1) = ((t - 1 : Nat) : Int) := by rw [show (t : Int) - 1 = ((t - 1 : Nat) : Int) by omega]; exact IntWalk.i64_in _ (by omega)
          have hq1 : (t : Int) < (n : Int) := by omega
          have hq2 : ((t - 1 : Nat) : Int) < (n : Int) := by omega
          go_wp2_with fail
          go_region
          all_goals
            go_wp2_with fail
            go_roundw
            case rel => exact ⟨t - 1, by first | rfl | (congr 1; omega) | go_num, by omega, by omega, R3.out.eqh _ rfl, B3.out.eqh rfl rfl rfl rfl⟩
            case measure => simp [intOf]; omega
        · have ht3 : ¬ (p : Int) < (t : Int) := by omega
          have e : t = p := by omega
          have HE : Hid (t = p) := e
          clear e
          go_wp2_with fail
          refine bodyPost_ret (results_none rfl _ _ _) rfl ?_
          exact ⟨rfl, sMv f m p, HEND, by rw [← HE.out]; exact hR2, hB2⟩
end Go.Proofs.Ytnhcmloaanamnaa
