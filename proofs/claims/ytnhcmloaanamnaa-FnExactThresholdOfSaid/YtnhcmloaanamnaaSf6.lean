/-
  What is proved here: the merge of a stable sort, as walks. Conditions: at most 65536 of them.
-/
import Derived.Test.YtnhcmloaanamnaaSf5
import Derived.Deep.CutRange
namespace Go.Proofs.Ytnhcmloaanamnaa
open Flt Go.RowKit
attribute [local go_sem] run_store_fS
set_option linter.unusedVariables false
set_option linter.unusedSimpArgs false

set_option maxHeartbeats 16000000 in
set_option maxRecDepth 1000000 in
theorem sFSy3 (v : Nat → Nat) (g n c a m b : Nat) (f : Nat → Nat) (K : Nat → Int) (C : Nat → Nat → Int) (Env : World → Prop) (w : World) (hE : sFEnv v n g K C Env) (he : Env w) (hr : sFRw v w g n f) (hp : sPre K f a m b) (hb : b ≤ n) (hn : n ≤ 65536) (hbd : ∀ j, j < n → f j < n) (h1 : m ≠ a + 1) (h2 : b ≠ m + 1)
    (IH : ∀ (x y z : Nat) (h : Nat → Nat) (W : World), z - x < b - a → sPre K h x y z → z ≤ n → Env W → sFRw v W g n h → (∀ j, j < n → h j < n) → Calls Try.prog 110 #[.slice (some ⟨g, 0, none⟩) n c, .int .i64 (x : Nat), .int .i64 (y : Nat), .int .i64 (z : Nat), .func (.func 37) #[] #[]] W fun e w' => e = .returned (.tuple #[]) ∧ ∃ h2, Hid (sPost K h h2 x z) ∧ Hid (sFRw v w' g n h2) ∧ Hid (sBut g W w')) :
    Calls Try.prog 110 #[.slice (some ⟨g, 0, none⟩) n c, .int .i64 (a : Nat), .int .i64 (m : Nat), .int .i64 (b : Nat), .func (.func 37) #[] #[]] w fun e w' => e = .returned (.tuple #[]) ∧ ∃ h, Hid (sPost K f h a b) ∧ Hid (sFRw v w' g n h) ∧ Hid (sBut g w w') := by
  have HIH := Lib.hid IH
  clear IH
  have am := hp.am
  have mb := hp.mb
  have HP := Lib.hid hp
  have HR := Lib.hid hr
  have HEE := Lib.hid hE
  have HBD := Lib.hid hbd
  have HEN := Lib.hid he
  clear hp hr hE hbd he
  have e0 : ((m : Int) - (a : Int) == 1) = false := beq_eq_false_iff_ne.2 (by omega)
  have e1 : ((b : Int) - (m : Int) == 1) = false := beq_eq_false_iff_ne.2 (by omega)
  have HRO : Hid (∀ (s en : Nat) (is ie : Int), is = (s : Int) → ie = (en : Int) → True → s < m → m < en → en ≤ n → ∀ (W : World), sFRw v W g n f → Calls Try.prog 126 #[.slice (some ⟨g, 0, none⟩) n c, .int .i64 is, .int .i64 (m : Nat), .int .i64 ie, .func (.func 37) #[] #[]] W fun e w' => e = .returned (.tuple #[]) ∧ Hid (sFRw v w' g n (sRt f s m en)) ∧ Hid (sBut g W w')) := fun s en is ie h1 h2 _ h3 h4 h5 W hR => by
    subst h1 h2
    exact sFRot v g n c s m en f W hR h3 h4 h5 hn
  obtain ⟨d, hd⟩ : ∃ d, d = (a + b) / 2 := ⟨_, rfl⟩
  have hsh : ((a : Int) + (b : Int)) / 2 = (d : Int) := by omega
  obtain ⟨en0, he0⟩ : ∃ q, q = d + m := ⟨_, rfl⟩
  have hs1 : (d : Int) + (m : Int) = (en0 : Int) := by omega
  obtain ⟨lo, hi, hLH⟩ : ∃ lo hi : Nat, (d < m ∧ lo = en0 - b ∧ hi = d) ∨ (¬ d < m ∧ lo = a ∧ hi = m) := by
    by_cases h : d < m
    · exact ⟨_, _, .inl ⟨h, rfl, rfl⟩⟩
    · exact ⟨_, _, .inr ⟨h, rfl, rfl⟩⟩
  obtain ⟨pp, hpp⟩ : ∃ q, q = en0 - 1 := ⟨_, rfl⟩
  have hs4 : (en0 : Int) - 1 = (pp : Int) := by omega
  have HLH := Lib.hid hLH
  have hlohi : lo ≤ hi ∧ a ≤ lo ∧ hi ≤ m ∧ hi ≤ d ∧ en0 - lo ≤ b ∧ m + hi ≤ en0 := by omega
  obtain ⟨k1, k2, k3, k4, k5, k6⟩ := hlohi
  have HD := Lib.hid hd
  have HE0 := Lib.hid he0
  have HPP := Lib.hid hpp
  clear h1 h2 hLH hd he0 hpp
  go_enter Try.func110, Try.ntmps110
  go_upto_if 140 with fail
  go_cut [20, 21] from 138 to 146 (fun s r wc => s = .int .i64 (lo : Nat) ∧ r = .int .i64 (hi : Nat) ∧ wc = w)
  case first =>
    rcases HLH.out with ⟨g1, g2, g3⟩ | ⟨g1, g2, g3⟩
    · have q1 : (d : Int) < (m : Int) := by omega
      have q2 : (en0 : Int) - (b : Int) = (lo : Int) := by have := HE0.out; omega
      have G3 := Lib.hid g3
      clear g2 g3
      go_wp2_with fail
      go_meet
      case rel => exact ⟨rfl, by rw [G3.out], rfl⟩
    · have q1 : ¬ (d : Int) < (m : Int) := by omega
      have G2 := Lib.hid g2
      have G3 := Lib.hid g3
      clear g2 g3
      go_wp2_with fail
      go_meet
      case rel => exact ⟨by rw [G2.out], by rw [G3.out], rfl⟩
  case rest =>
    obtain ⟨rfl, rfl, rfl⟩ := hcut
    go_wp2_with fail
    go_loopw [20, 21] (fun i j wr => ∃ (p q : Nat), i = .int .i64 ((p : Nat) : Int) ∧ j = .int .i64 ((q : Nat) : Int) ∧ lo ≤ p ∧ p ≤ q ∧ q ≤ hi ∧ Hid (p = lo ∨ K (f (p - 1)) ≤ K (f (en0 - p))) ∧ Hid (q = hi ∨ K (f (en0 - q - 1)) < K (f q)) ∧ ∃ k, wr = wc.drewN k) (fun i j _ => (intOf j).toNat - (intOf i).toNat)
    case atStart => exact ⟨lo, hi, rfl, rfl, Nat.le_refl _, by omega, Nat.le_refl _, .inl rfl, .inl rfl, 0, rfl⟩
    case round =>
      obtain ⟨p, q, rfl, rfl, hp1, hpq, hqb, hL, hG, kd, rfl⟩ := hrel
      by_cases hlt : p < q
      · have hh1 : (p + q) / 2 < q := by omega
        have hh2 : p ≤ (p + q) / 2 := by omega
        have hsh : ((p : Int) + (q : Int)) / 2 = (((p + q) / 2 : Nat) : Int) := by omega
        generalize hhd : (p + q) / 2 = hd at *
        clear hhd
        have hppq := HPP.out
        have hx : pp - hd < n := by omega
        have HRd : Hid (sFRw v (wc.drewN kd) g n f) := HR.out.dn _
        have HEd : Hid (∀ k, Env ((wc.drewN kd).drewN k)) := fun k => HEE.out.dn _ k (HEE.out.dn _ _ HEN.out)
        obtain ⟨wd, hwd⟩ : ∃ wd, wd = wc.drewN kd := ⟨_, rfl⟩
        rw [← hwd] at HRd HEd ⊢
        have HWD := Lib.hid hwd
        clear hwd
        have hxn : ((pp - hd : Nat) : Int) < (n : Int) := by omega
        have hyn : ((hd : Nat) : Int) < (n : Int) := by omega
        have c1 := HRd.out.cell _ (j := pp - hd) (by omega)
        have c2 := HRd.out.cell _ (j := hd) (by omega)
        have HCN : Hid (∀ k, Calls Try.prog 37 #[.float .f32 (v (f (pp - hd))), .float .f32 (v (f (hd)))] (wd.drewN k) fun e w' => e = .returned (.int .i64 (C (f (pp - hd)) (f (hd)))) ∧ ∃ k2, w' = (wd.drewN k).drewN k2) := fun k => HEE.out.cmp _ (f (pp - hd)) (f (hd)) (HEd.out k) (HBD.out _ (by omega)) (HBD.out _ (by omega))
        have HS : Hid (C (f (pp - hd)) (f (hd)) < 0 ↔ K (f (pp - hd)) < K (f (hd))) := HEE.out.sgn _ _ (HBD.out _ (by omega)) (HBD.out _ (by omega))
        have e7 : (pp : Int) - (hd : Int) = ((pp - hd : Nat) : Int) := by omega
        have e8 : IntKind.i64.wrap ((pp : Int) - (hd : Int)) = ((pp - hd : Nat) : Int) := by rw [e7]; exact IntWalk.i64_in _ (by omega)
        have eqq : en0 - hd - 1 = pp - hd := by omega
        have eqr : en0 - (hd + 1) = pp - hd := by omega
        have HL2 : Hid (K (f (pp - hd)) < K (f hd) → (hd = hi ∨ K (f (en0 - hd - 1)) < K (f hd))) := fun h => .inr (by rw [eqq]; exact h)
        have HG2 : Hid (¬ K (f (pp - hd)) < K (f hd) → (hd + 1 = lo ∨ K (f (hd + 1 - 1)) ≤ K (f (en0 - (hd + 1))))) := fun h => .inr (by rw [eqr]; exact Int.not_lt.1 h)
        clear eqq eqr hppq hx
        generalize pp - hd = xx at *
        by_cases hk : K (f xx) < K (f hd)
        · have HL3 := Lib.hid (HL2.out hk)
          have hcv : C (f xx) (f hd) < 0 := HS.out.2 hk
          clear HL2 HG2 hk HS
          generalize C (f xx) (f hd) = cv at *
          go_wp2_with fail
          go_quiet ((go_at_call 37; refine (HCN.out _).mono ?_; rintro e w' ⟨rfl, kk, rfl⟩; exact ⟨rfl, _, by rw [World.drewN_drewN]⟩))
          go_wp2_with fail
          go_roundw
          case rel => exact ⟨p, hd, rfl, rfl, hp1, by omega, by omega, hL, HL3, _, by rw [HWD.out, World.drewN_drewN]⟩
          case measure => simp [intOf]; omega
        · have HG3 := Lib.hid (HG2.out hk)
          have hcv : ¬ C (f xx) (f hd) < 0 := fun h => hk (HS.out.1 h)
          have hcv2 : 0 ≤ C (f xx) (f hd) := Int.not_lt.1 hcv
          have hcv3 : decide (C (f xx) (f hd) < 0) = false := decide_eq_false hcv
          clear HL2 HG2 hk HS
          generalize C (f xx) (f hd) = cv at *
          go_wp2_with fail
          go_quiet ((go_at_call 37; refine (HCN.out _).mono ?_; rintro e w' ⟨rfl, kk, rfl⟩; exact ⟨rfl, _, by rw [World.drewN_drewN]⟩))
          go_wp2_with fail
          go_roundw
          case rel => exact ⟨hd + 1, q, by go_num, rfl, by omega, by omega, hqb, HG3, hG, _, by rw [HWD.out, World.drewN_drewN]⟩
          case measure => simp [intOf]; omega
      · have e : p = q := by omega
        subst e
        have hdd := HD.out
        have hee := HE0.out
        obtain ⟨en, hen⟩ : ∃ q, q = en0 - p := ⟨_, rfl⟩
        have hs5 : (en0 : Int) - (p : Int) = (en : Int) := by omega
        have hd' : (a + b) / 2 = d := hdd.symm
        have hen' : (a + b) / 2 + m - p = en := by omega
        have HF : sFnd K f a m b p := by
          refine ⟨by omega, by omega, by omega, by omega, by omega, ?_, ?_⟩
          · rw [hen', hen]
            rcases hL.out with h | h
            · rcases HLH.out with ⟨g1, g2, g3⟩ | ⟨g1, g2, g3⟩
              · right; left; omega
              · left; omega
            · right; right; exact Int.not_lt.2 h
          · rw [hen', hen]
            rcases hG.out with h | h
            · rcases HLH.out with ⟨g1, g2, g3⟩ | ⟨g1, g2, g3⟩
              · right; left; omega
              · left; omega
            · right; right; exact h
        have HHV := HF.halves HP.out
        rw [hen', hd'] at HHV
        obtain ⟨v1, v2, v3, v4, v5⟩ := HHV
        have hSM : sSam f (sRt f p m en) p en := sRt_sam (by omega) (by omega)
        have hBR := hSM.bd (n := n) (by omega) HBD.out
        have S0 := Lib.hid (hSM.wide (c := a) (d := b) (by omega) (by omega))
        have HNR : Hid (p = m ∨ m = en → sRt f p m en = f) := fun h => sRt_none h (by omega) (by omega)
        have V1 := Lib.hid v1
        have V2 := Lib.hid v2
        have V3 := Lib.hid v3
        have V4 := Lib.hid v4
        have V5 := Lib.hid v5
        have HBR := Lib.hid hBR
        have hpm : p ≤ m := by omega
        have hmen : m ≤ en := by omega
        have hen4 : en ≤ n := by omega
        have hap : a ≤ p := by omega
        have hpd : p ≤ d := by omega
        have hden : d ≤ en := by omega
        have henb : en ≤ b := by omega
        have hadb : a < d ∧ d < b := by omega
        have HRd : Hid (sFRw v (wc.drewN kd) g n f) := HR.out.dn _
        have hB0 : Hid (sBut g wc (wc.drewN kd)) := (sBut.refl g wc).dn
        have HEB : Hid (∀ W, sBut g wc W → Env W) := fun W h => HEE.out.but _ _ HEN.out h
        clear v1 v2 v3 v4 v5 hSM hBR HF hL hG hd' hen' hdd hee hen
        generalize hRR : sRt f p m en = R at *
        have HRQ := Lib.hid hRR
        clear hRR
        obtain ⟨t1, ht1⟩ : ∃ t : Bool, t = decide (p < m ∧ m < en) := ⟨_, rfl⟩
        obtain ⟨t2, ht2⟩ : ∃ t : Bool, t = decide (a < p ∧ p < d) := ⟨_, rfl⟩
        obtain ⟨t3, ht3⟩ : ∃ t : Bool, t = decide (d < en ∧ en < b) := ⟨_, rfl⟩
        have T1 := Lib.hid ht1
        have T2 := Lib.hid ht2
        have T3 := Lib.hid ht3
        clear ht1 ht2 ht3
        go_upto_region 39 with fail
        generalize wc.drewN kd = wd at *
        obtain ⟨W0, hW0⟩ : ∃ W0, W0 = wc := ⟨_, rfl⟩
        rw [← hW0] at hB0 HEB
        have HW0 := Lib.hid hW0
        clear hW0
        go_cut [185] from 178 to 184 (fun t wc => t = .bool t1 ∧ wc = wd)
        case first =>
          by_cases r1 : p < m
          · by_cases r2 : m < en
            · skip
              have TT : Hid (t1 = true) := by
                show _ = _
                rw [T1.out]
                exact decide_eq_true ⟨r1, r2⟩
              have s1 : (p : Int) < (m : Int) := by omega
              have s2 : (m : Int) < (en : Int) := by omega
              go_wp2_with fail
              go_meet
              case rel => exact ⟨by rw [TT.out], rfl⟩
            · skip
              have TT : Hid (t1 = false) := by
                show _ = _
                rw [T1.out]
                exact decide_eq_false (by omega)
              have s1 : (p : Int) < (m : Int) := by omega
              have s2 : ¬ (m : Int) < (en : Int) := by omega
              go_wp2_with fail
              go_meet
              case rel => exact ⟨by rw [TT.out], rfl⟩
          · skip
            have TT : Hid (t1 = false) := by
              show _ = _
              rw [T1.out]
              exact decide_eq_false (by omega)
            have s1 : ¬ (p : Int) < (m : Int) := by omega
            go_wp2_with fail
            go_meet
            case rel => exact ⟨by rw [TT.out], rfl⟩
        case rest =>
          obtain ⟨rfl, rfl⟩ := hcut
          generalize wc = wd at *
          go_upto_if 185 with fail
          go_cut [] from 186 to 191 (fun wc => Hid (sFRw v wc g n R) ∧ Hid (sBut g W0 wc))
          case first =>
            cases t1
            · have hf : ¬ (p < m ∧ m < en) := of_decide_eq_false T1.out.symm
              have HRR : Hid (R = f) := HNR.out (by omega)
              go_wp2_with fail
              go_meet
              case rel => exact ⟨by rw [HRR.out]; exact HRd, hB0⟩
            · obtain ⟨hr1, hr2⟩ : p < m ∧ m < en := of_decide_eq_true T1.out.symm
              go_wp2_with (go_at_call 126; refine (HRO.out p en _ _ rfl rfl trivial hr1 hr2 hen4 _ HRd.out).mono ?_; rintro e w2 ⟨rfl, r2, b2⟩)
              go_meet
              case rel => exact ⟨by rw [← HRQ.out]; exact r2, hB0.out.trans b2.out⟩
          case rest =>
            obtain ⟨hR1, hB1⟩ := hcut
            clear HRd hB0 HRO HRQ
            generalize wc = wd2 at *
            go_upto_region 41 with fail
            go_cut [199] from 192 to 198 (fun t wc => t = .bool t2 ∧ wc = wd2)
            case first =>
              by_cases r1 : a < p
              · by_cases r2 : p < d
                · skip
                  have TT : Hid (t2 = true) := by
                    show _ = _
                    rw [T2.out]
                    exact decide_eq_true ⟨r1, r2⟩
                  have s1 : (a : Int) < (p : Int) := by omega
                  have s2 : (p : Int) < (d : Int) := by omega
                  go_wp2_with fail
                  go_meet
                  case rel => exact ⟨by rw [TT.out], rfl⟩
                · skip
                  have TT : Hid (t2 = false) := by
                    show _ = _
                    rw [T2.out]
                    exact decide_eq_false (by omega)
                  have s1 : (a : Int) < (p : Int) := by omega
                  have s2 : ¬ (p : Int) < (d : Int) := by omega
                  go_wp2_with fail
                  go_meet
                  case rel => exact ⟨by rw [TT.out], rfl⟩
              · skip
                have TT : Hid (t2 = false) := by
                  show _ = _
                  rw [T2.out]
                  exact decide_eq_false (by omega)
                have s1 : ¬ (a : Int) < (p : Int) := by omega
                go_wp2_with fail
                go_meet
                case rel => exact ⟨by rw [TT.out], rfl⟩
            case rest =>
              obtain ⟨rfl, rfl⟩ := hcut
              generalize wc = wd2 at *
              go_upto_if 199 with fail
              go_cut [] from 200 to 205 (fun wc => ∃ h1, Hid (sPost K R h1 a d) ∧ Hid (sFRw v wc g n h1) ∧ Hid (sBut g W0 wc))
              case first =>
                cases t2
                · have hf : ¬ (a < p ∧ p < d) := of_decide_eq_false T2.out.symm
                  have HS0 : Hid (sPost K R R a d) := sPost.self (V2.out hf)
                  go_wp2_with fail
                  go_meet
                  case rel => exact ⟨R, HS0, hR1, hB1⟩
                · have ht : a < p ∧ p < d := of_decide_eq_true T2.out.symm
                  have HCA := Lib.hid (HIH.out a p d R wd2 (by omega) (V1.out ht.1 ht.2) (by omega) (HEB.out _ hB1.out) hR1.out HBR.out)
                  go_wp2_with (go_at_call 110; refine HCA.out.mono ?_; rintro e w2 ⟨rfl, h1, p1, r2, b2⟩)
                  go_meet
                  case rel => exact ⟨h1, p1, r2, hB1.out.trans b2.out⟩
              case rest =>
                obtain ⟨h1, hP1, hR2, hB2⟩ := hcut
                have HB1 : Hid (∀ j, j < n → h1 j < n) := hP1.out.sam.bd (by omega) HBR.out
                clear hR1 hB1 V1 V2
                generalize wc = wd3 at *
                go_upto_region 43 with fail
                go_cut [213] from 206 to 212 (fun t wc => t = .bool t3 ∧ wc = wd3)
                case first =>
                  by_cases r1 : d < en
                  · by_cases r2 : en < b
                    · skip
                      have TT : Hid (t3 = true) := by
                        show _ = _
                        rw [T3.out]
                        exact decide_eq_true ⟨r1, r2⟩
                      have s1 : (d : Int) < (en : Int) := by omega
                      have s2 : (en : Int) < (b : Int) := by omega
                      go_wp2_with fail
                      go_meet
                      case rel => exact ⟨by rw [TT.out], rfl⟩
                    · skip
                      have TT : Hid (t3 = false) := by
                        show _ = _
                        rw [T3.out]
                        exact decide_eq_false (by omega)
                      have s1 : (d : Int) < (en : Int) := by omega
                      have s2 : ¬ (en : Int) < (b : Int) := by omega
                      go_wp2_with fail
                      go_meet
                      case rel => exact ⟨by rw [TT.out], rfl⟩
                  · skip
                    have TT : Hid (t3 = false) := by
                      show _ = _
                      rw [T3.out]
                      exact decide_eq_false (by omega)
                    have s1 : ¬ (d : Int) < (en : Int) := by omega
                    go_wp2_with fail
                    go_meet
                    case rel => exact ⟨by rw [TT.out], rfl⟩
                case rest =>
                  obtain ⟨rfl, rfl⟩ := hcut
                  generalize wc = wd3 at *
                  cases t3
                  · have hf : ¬ (d < en ∧ en < b) := of_decide_eq_false T3.out.symm
                    have HS0 : Hid (sPost K f h1 a b) := sPost.join (by omega) (by omega) S0.out V5.out hP1.out (sPost.self ((V4.out hf).ext fun j j1 j2 => hP1.out.sam.out j (by omega)))
                    go_wp2_with fail
                    go_end0
                    exact ⟨rfl, h1, HS0, hR2, by rw [← HW0.out]; exact hB2⟩
                  · have ht : d < en ∧ en < b := of_decide_eq_true T3.out.symm
                    have HCA := Lib.hid (HIH.out d en b h1 wd3 (by omega) ((V3.out ht.1 ht.2).ext fun j j1 j2 => hP1.out.sam.out j (by omega)) hb (HEB.out _ hB2.out) hR2.out HB1.out)
                    go_wp2_with (go_at_call 110; refine HCA.out.mono ?_; rintro e w2 ⟨rfl, h2, p2, r2, b2⟩)
                    have HS0 : Hid (sPost K f h2 a b) := sPost.join (by omega) (by omega) S0.out V5.out hP1.out p2.out
                    go_end0
                    exact ⟨rfl, h2, HS0, r2, by rw [← HW0.out]; exact hB2.out.trans b2.out⟩
end Go.Proofs.Ytnhcmloaanamnaa
