/-
  What is proved here: insertions of a stable sort, as walks. Conditions: at most 65536 of them.
-/
import Derived.Test.YtnhcmloaanamnaaSf1
namespace Go.Proofs.Ytnhcmloaanamnaa
open Flt Go.RowKit
attribute [local go_sem] run_store_fS
set_option linter.unusedVariables false
set_option linter.unusedSimpArgs false

set_option maxHeartbeats 8000000 in
theorem sFIns (v : Nat → Nat) (g n c a b : Nat) (f : Nat → Nat) (K : Nat → Int) (C : Nat → Nat → Int) (Env : World → Prop) (w : World) (hE : sFEnv v n g K C Env) (he : Env w) (hr : sFRw v w g n f) (hab : a ≤ b) (hb : b ≤ n) (hn : n ≤ 65536) (hbd : ∀ j, j < n → f j < n) (ht : ∀ i j, a ≤ i → i < j → j < b → f i < f j) :
    Calls Try.prog 109 #[.slice (some ⟨g, 0, none⟩) n c, .int .i64 (a : Nat), .int .i64 (b : Nat), .func (.func 37) #[] #[]] w fun e w' => e = .returned (.tuple #[]) ∧ ∃ h, Hid (sPost K f h a b) ∧ Hid (sFRw v w' g n h) ∧ Hid (sBut g w w') := by
  have HR := Lib.hid hr
  have HEN := Lib.hid he
  have HEE := Lib.hid hE
  have HBD := Lib.hid hbd
  have HTT := Lib.hid ht
  clear hr he hE hbd ht
  go_enter Try.func109, Try.ntmps109
  go_wp2_with fail
  go_loopw [8] (fun i wr => ∃ (p : Nat) (h : Nat → Nat), i = .int .i64 (p : Nat) ∧ a + 1 ≤ p ∧ (p ≤ b ∨ p = a + 1) ∧ Hid (sPost K f h a (min p b)) ∧ Hid (sFRw v wr g n h) ∧ Hid (sBut g w wr)) (fun i _ => b + 1 - (intOf i).toNat)
  case atStart => exact ⟨a + 1, f, by go_num, Nat.le_refl _, .inr rfl, sPost.self (fun i j h1 h2 h3 => by omega), HR, sBut.refl _ _⟩
  case round =>
    clear HR
    obtain ⟨p, h, rfl, hp1, hp2, hP, hR, hB⟩ := hrel
    by_cases hlt : p < b
    · have hm : min p b = p := Nat.min_eq_left (by omega)
      rw [hm] at hP
      have HSR := Lib.hid hP.out.srt
      have HTG : Hid (∀ k, a ≤ k → k < p → h k < h p) := fun k k1 k2 => by
        obtain ⟨i, i1, i2, e⟩ := hP.out.sam.fro k k1 k2
        rw [e, hP.out.sam.out p (by omega)]
        exact HTT.out i p i1 (by omega) hlt
      have HHB : Hid (∀ j, j < n → h j < n) := hP.out.sam.bd (by omega) HBD.out
      clear hm
      go_wp2_with fail
      generalize wr = wo at *
      go_loopw [9] (fun i wr => ∃ (q : Nat), i = .int .i64 (q : Nat) ∧ a ≤ q ∧ q ≤ p ∧ Hid (∀ k, q ≤ k → k < p → K (h p) < K (h k)) ∧ Hid (sFRw v wr g n (sMv h p q)) ∧ Hid (sBut g wo wr)) (fun i _ => (intOf i).toNat)
      case atStart => exact ⟨p, rfl, by omega, Nat.le_refl _, fun k h1 h2 => by omega, by rw [sMv_start]; exact hR, sBut.refl _ _⟩
      case round =>
        obtain ⟨q, rfl, hq1, hq2, hG, hR2, hB2⟩ := hrel
        have HEND : Hid (q = a ∨ ¬ K (h p) < K (h (q - 1)) → sPost K f (sMv h p q) a (min (p + 1) b)) := fun hl => by
          rw [Nat.min_eq_left (by omega)]
          exact ⟨(hP.out.sam.wide (Nat.le_refl _) (Nat.le_succ _)).trans (sMv_sam hq1 hq2), sMv_srt hq1 hq2 HSR.out HTG.out hG.out hl⟩
        by_cases hqa : a < q
        · have hq0 : 0 < q := by omega
          have c1 := hR2.out.cell _ (j := q) (by omega)
          have c2 := hR2.out.cell _ (j := q - 1) (by omega)
          have f1 := hR2.out.free q (by omega)
          have f2 := hR2.out.free (q - 1) (by omega)
          have e1 : sMv h p q q = h p := by unfold sMv; rw [if_neg (by omega), if_pos rfl]
          have e2 : sMv h p q (q - 1) = h (q - 1) := by unfold sMv; rw [if_pos (by omega)]
          rw [e1] at c1
          rw [e2] at c2
          have R3 : Hid (sFRw v ((wr.setCell ⟨g, q, none⟩ (.float .f32 (v (h (q - 1))))).setCell ⟨g, q - 1, none⟩ (.float .f32 (v (h p)))) g n (sMv h p (q - 1))) := by
            have := hR2.out.swap _ (p := q) (q := q - 1) (by omega) (by omega) (by omega)
            rw [sMv_step hq0 hq2, e1, e2] at this
            exact this
          have B3 : Hid (sBut g wo ((wr.setCell ⟨g, q, none⟩ (.float .f32 (v (h (q - 1))))).setCell ⟨g, q - 1, none⟩ (.float .f32 (v (h p))))) := (hB2.out.set _).set _
          have HEV : Hid (Env wr) := HEE.out.but _ _ HEN.out (hB.out.trans hB2.out)
          have HCM : Hid (∀ W, Env W → Calls Try.prog 37 #[.float .f32 (v (h p)), .float .f32 (v (h (q - 1)))] W fun e w' => e = .returned (.int .i64 (C (h p) (h (q - 1)))) ∧ ∃ k, w' = W.drewN k) := fun W hW => HEE.out.cmp W (h p) (h (q - 1)) hW (HHB.out p (by omega)) (HHB.out (q - 1) (by omega))
          have HGN : Hid (K (h p) < K (h (q - 1)) → ∀ k, q - 1 ≤ k → k < p → K (h p) < K (h k)) := fun hk k k1 k2 => by
            by_cases e : k = q - 1
            · rw [e]; exact hk
            · exact hG.out k (by omega) k2
          have w1 : IntKind.i64.wrap ((q : Int) - 1) = ((q - 1 : Nat) : Int) := by rw [show (q : Int) - 1 = ((q - 1 : Nat) : Int) by omega]; exact IntWalk.i64_in _ (by omega)
          have HKK : Hid (C (h p) (h (q - 1)) < 0 ↔ K (h p) < K (h (q - 1))) := HEE.out.sgn _ _ (HHB.out p (by omega)) (HHB.out (q - 1) (by omega))
          generalize h p = x1 at *
          generalize h (q - 1) = x2 at *
          generalize C x1 x2 = cv at *
          clear e1 e2 hG HSR HTG HHB
          have HE1 : Hid (∀ k, Env (wr.drewN k)) := fun k => HEE.out.dn _ k HEV.out
          have hqn : (q : Int) < (n : Int) := by omega
          have hqm : ((q - 1 : Nat) : Int) < (n : Int) := by omega
          have hqa2 : (a : Int) < (q : Int) := by omega
          by_cases hk : K x1 < K x2
          · have hcv : cv < 0 := HKK.out.2 hk
            have HG2 := Lib.hid (HGN.out hk)
            clear hk HGN HEND HKK
            go_wp2_with fail
            go_quiet ((go_at_call 37; refine (HCM.out (wr.drewN _) (HE1.out _)).mono ?_; rintro e w' ⟨rfl, kk, rfl⟩; exact ⟨rfl, _, by rw [World.drewN_drewN]⟩))
            go_wp2_with fail
            go_region
            all_goals
              go_wp2_with fail
              go_roundw
              case rel => exact ⟨q - 1, by first | rfl | (congr 1; omega) | go_num, by omega, by omega, HG2, R3.out.eqh _ rfl, B3.out.eqh rfl rfl rfl rfl⟩
              case measure => simp [intOf]; omega
          · have hcv : ¬ cv < 0 := fun h => hk (HKK.out.1 h)
            have HP2 := Lib.hid (HEND.out (.inr hk))
            clear hk HGN HEND HKK
            go_wp2_with fail
            go_quiet ((go_at_call 37; refine (HCM.out (wr.drewN _) (HE1.out _)).mono ?_; rintro e w' ⟨rfl, kk, rfl⟩; exact ⟨rfl, _, by rw [World.drewN_drewN]⟩))
            have B4 := Lib.hid (hB.out.trans hB2.out)
            go_wp2_with fail
            go_roundw
            case rel => exact ⟨p + 1, sMv h p q, by go_num, by omega, .inl (by omega), HP2, hR2.out.eqh _ rfl, B4.out.eqh rfl rfl rfl rfl⟩
            case measure => simp [intOf]; omega
        · have e : q = a := by omega
          have HP2 := Lib.hid (HEND.out (.inl e))
          have hqa2 : ¬ (a : Int) < (q : Int) := by omega
          have hqa3 : (decide ((a : Int) < (q : Int))) = false := decide_eq_false hqa2
          clear HEND hG
          have B4 := Lib.hid (hB.out.trans hB2.out)
          go_wp2_with fail
          go_quiet (fail)
          go_wp2_with fail
          go_roundw
          case rel => exact ⟨p + 1, sMv h p q, by go_num, by omega, .inl (by omega), HP2, hR2.out.eqh _ rfl, B4.out.eqh rfl rfl rfl rfl⟩
          case measure => simp [intOf]; omega
    · have e : min p b = b := Nat.min_eq_right (by omega)
      rw [e] at hP
      go_wp2_with fail
      go_end0
      exact ⟨rfl, h, hP, hR, hB⟩
end Go.Proofs.Ytnhcmloaanamnaa
