/-
  What is proved here: a stable sort, whole, as walks. Conditions: at most 65536 of them.
-/
import Derived.Test.YtnhcmloaanamnaaSf6
namespace Go.Proofs.Ytnhcmloaanamnaa
open Flt Go.RowKit
attribute [local go_sem] run_store_fS
set_option linter.unusedVariables false
set_option linter.unusedSimpArgs false

theorem sFSym (v : Nat → Nat) (g n c : Nat) (K : Nat → Int) (C : Nat → Nat → Int) (Env : World → Prop) (hE : sFEnv v n g K C Env) (hn : n ≤ 65536) : ∀ (N a m b : Nat) (f : Nat → Nat) (w : World), b - a ≤ N → sPre K f a m b → b ≤ n → Env w → sFRw v w g n f → (∀ j, j < n → f j < n) →
    Calls Try.prog 110 #[.slice (some ⟨g, 0, none⟩) n c, .int .i64 (a : Nat), .int .i64 (m : Nat), .int .i64 (b : Nat), .func (.func 37) #[] #[]] w fun e w' => e = .returned (.tuple #[]) ∧ ∃ h, Hid (sPost K f h a b) ∧ Hid (sFRw v w' g n h) ∧ Hid (sBut g w w')
  | 0, a, m, b, f, w, h1, hp, _, _, _, _ => by have := hp.am; have := hp.mb; omega
  | N + 1, a, m, b, f, w, h1, hp, hb, he, hr, hbd => by
    by_cases q1 : m = a + 1
    · exact sFSy1 v g n c a m b f K C Env w hE he hr hp hb hn hbd q1
    · by_cases q2 : b = m + 1
      · exact sFSy2 v g n c a m b f K C Env w hE he hr hp hb hn hbd q2 q1
      · exact sFSy3 v g n c a m b f K C Env w hE he hr hp hb hn hbd q1 q2 fun x y z h W hlt hp2 hz hW hR hB => sFSym v g n c K C Env hE hn N x y z h W (by omega) hp2 hz hW hR hB

set_option maxHeartbeats 16000000 in
set_option maxRecDepth 1000000 in
theorem sFStb (v : Nat → Nat) (g n c : Nat) (K : Nat → Int) (C : Nat → Nat → Int) (Env : World → Prop) (w : World) (hE : sFEnv v n g K C Env) (he : Env w) (hr : sFRw v w g n (fun j => j)) (h0 : 0 < n) (hn : n ≤ 65536) :
    Calls Try.prog 80 #[.slice (some ⟨g, 0, none⟩) n c, .int .i64 (n : Nat), .func (.func 37) #[] #[]] w fun e w' => e = .returned (.tuple #[]) ∧ ∃ h, Hid (sEnd K n h) ∧ Hid (sFRw v w' g n h) ∧ Hid (sBut g w w') := by
  have HR := Lib.hid hr
  have HEN : Hid (∀ W, sBut g w W → Env W) := fun W h => hE.but _ _ he h
  have HIN : Hid (∀ (a b : Nat) (ia ib : Int) (h : Nat → Nat) (W : World), ia = (a : Int) → ib = (b : Int) → Env W → sFRw v W g n h → a ≤ b → b ≤ n → (∀ j, j < n → h j < n) → (∀ j, a ≤ j → h j = j) → Calls Try.prog 109 #[.slice (some ⟨g, 0, none⟩) n c, .int .i64 ia, .int .i64 ib, .func (.func 37) #[] #[]] W fun e w' => e = .returned (.tuple #[]) ∧ ∃ h2, Hid (sPost K h h2 a b) ∧ Hid (sFRw v w' g n h2) ∧ Hid (sBut g W w')) := fun a b ia ib h W e1 e2 hW hR hab hb hbd hid => by
    subst e1 e2
    exact sFIns v g n c a b h K C Env W hE hW hR hab hb hn hbd (fun i j h1 h2 h3 => by rw [hid i h1, hid j (by omega)]; exact h2)
  have HSY : Hid (∀ (a m b : Nat) (ia im ib : Int) (h : Nat → Nat) (W : World), ia = (a : Int) → im = (m : Int) → ib = (b : Int) → Env W → sFRw v W g n h → sPre K h a m b → b ≤ n → (∀ j, j < n → h j < n) → Calls Try.prog 110 #[.slice (some ⟨g, 0, none⟩) n c, .int .i64 ia, .int .i64 im, .int .i64 ib, .func (.func 37) #[] #[]] W fun e w' => e = .returned (.tuple #[]) ∧ ∃ h2, Hid (sPost K h h2 a b) ∧ Hid (sFRw v w' g n h2) ∧ Hid (sBut g W w')) := fun a m b ia im ib h W e1 e2 e3 hW hR hp hb hbd => by
    subst e1 e2 e3
    exact sFSym v g n c K C Env hE hn (b - a) a m b h W (Nat.le_refl _) hp hb hW hR hbd
  clear hr hE he
  go_enter Try.func80, Try.ntmps80
  go_wp2_with fail
  go_loopw [7, 8] (fun a b wr => ∃ (t u : Nat) (h : Nat → Nat), a = .int .i64 ((u : Nat) : Int) ∧ b = .int .i64 ((u + 20 : Nat) : Int) ∧ Hid (u = t * 20) ∧ u ≤ n ∧ Hid (∀ r, r < t → sBlk K h (r * 20) (r * 20 + 20)) ∧ Hid (∀ j, u ≤ j → h j = j) ∧ Hid (sSam (fun j => j) h 0 n) ∧ Hid (sFRw v wr g n h) ∧ Hid (sBut g w wr)) (fun a _ _ => n - (intOf a).toNat)
  case atStart => exact ⟨0, 0, fun j => j, rfl, rfl, by show _ = _; rfl, Nat.zero_le _, fun r hr => by omega, fun j _ => rfl, sSam.refl _ _ _, HR, sBut.refl _ _⟩
  case round =>
    clear HR
    obtain ⟨t, u, h, rfl, rfl, hu, hun, hB, hI, hS, hR, hBw⟩ := hrel
    have HBD : Hid (∀ j, j < n → h j < n) := hS.out.bd (Nat.le_refl _) (fun j hj => hj)
    have HEV : Hid (Env wr) := HEN.out _ hBw.out
    by_cases hlt : u + 20 ≤ n
    · have hlt2 : ((u + 20 : Nat) : Int) ≤ (n : Int) := by omega
      have HBN : Hid (∀ h2, sPost K h h2 u (u + 20) → (∀ r, r < t + 1 → sBlk K h2 (r * 20) (r * 20 + 20)) ∧ (∀ j, u + 20 ≤ j → h2 j = j)) := fun h2 hp => by
        have hue := hu.out
        refine ⟨fun r hr => ?_, fun j hj => by rw [hp.sam.out j (by omega)]; exact hI.out j (by omega)⟩
        by_cases e : r = t
        · rw [e, ← hue]; exact hp.blk fun j j1 j2 => by rw [hI.out j j1]; omega
        · have := mul_far (k := 20) (show r < t by omega)
          exact (hB.out r (by omega)).ext fun j j1 j2 => hp.sam.out j (by omega)
      have hu2 : Hid (u + 20 = (t + 1) * 20) := by show _ = _; rw [hu.out, Nat.succ_mul]
      go_wp2_with (go_at_call 109; refine (HIN.out u (u + 20) _ _ h _ (by first | rfl | omega) (by first | rfl | omega) HEV.out hR.out (by omega) hlt HBD.out hI.out).mono ?_; rintro e w2 ⟨rfl, h2, p2, r2, b2⟩)
      have HB2 : Hid (∀ r, r < t + 1 → sBlk K h2 (r * 20) (r * 20 + 20)) := (HBN.out h2 p2.out).1
      have HI2 : Hid (∀ j, u + 20 ≤ j → h2 j = j) := (HBN.out h2 p2.out).2
      have HS2 : Hid (sSam (fun j => j) h2 0 n) := hS.out.trans (p2.out.sam.wide (Nat.zero_le _) (by omega))
      have HBW2 := Lib.hid (hBw.out.trans b2.out)
      go_roundw
      case rel => exact ⟨t + 1, u + 20, h2, by first | rfl | (congr 1; omega) | go_num, by first | rfl | (congr 1; omega) | go_num, hu2, hlt, HB2, HI2, HS2, r2, HBW2⟩
      case measure => simp [intOf]; omega
    · have hlt2 : ¬ ((u + 20 : Nat) : Int) ≤ (n : Int) := by omega
      have HBN : Hid (∀ h2, sPost K h h2 u n → sBks K n h2 20 0 n) := fun h2 hp t' _ ht' => by
        have hue := hu.out
        by_cases e : t' = t
        · rw [e, ← hue, Nat.min_eq_right (by omega)]; exact hp.blk fun j j1 j2 => by rw [hI.out j j1]; omega
        · by_cases e2 : t' < t
          · have := mul_far (k := 20) e2
            rw [Nat.min_eq_left (by omega)]
            exact (hB.out t' e2).ext fun j j1 j2 => hp.sam.out j (by omega)
          · have := mul_far (k := 20) (show t < t' by omega)
            omega
      go_wp2_with (go_at_call 109; refine (HIN.out u n _ _ h _ (by first | rfl | omega) (by first | rfl | omega) HEV.out hR.out hun (Nat.le_refl _) HBD.out hI.out).mono ?_; rintro e w2 ⟨rfl, h2, p2, r2, b2⟩)
      have HK2 : Hid (sBks K n h2 20 0 n) := HBN.out h2 p2.out
      have HS2 : Hid (sSam (fun j => j) h2 0 n) := hS.out.trans (p2.out.sam.wide (Nat.zero_le _) (Nat.le_refl _))
      have HBW2 := Lib.hid (hBw.out.trans b2.out)
      clear hB hI hS hR hBw HBD HEV HBN p2 b2 hu
      go_loopw [6] (fun s wr => ∃ (bs : Nat) (h : Nat → Nat), s = .int .i64 ((bs : Nat) : Int) ∧ 0 < bs ∧ bs ≤ 131072 ∧ Hid (sBks K n h bs 0 n) ∧ Hid (sSam (fun j => j) h 0 n) ∧ Hid (sFRw v wr g n h) ∧ Hid (sBut g w wr)) (fun s _ => n - (intOf s).toNat)
      case atStart => exact ⟨20, h2, rfl, by omega, by omega, HK2, HS2, r2, HBW2⟩
      case round =>
        clear HK2 HS2 HBW2 r2
        obtain ⟨bs, h, rfl, hb0, hb1, hK, hS, hR, hBw⟩ := hrel
        by_cases hbn : bs < n
        · have hbn2 : (bs : Int) < (n : Int) := by omega
          obtain ⟨b2, hb2⟩ : ∃ q, q = 2 * bs := ⟨_, rfl⟩
          have e1 : (2 : Int) * (bs : Int) = (b2 : Int) := by omega
          have e2 : (bs : Int) * 2 = (b2 : Int) := by omega
          have M0 : Hid (sMrg K n h bs 0) := sMrg.start hK.out
          have HB2 := Lib.hid hb2
          clear hb2
          go_wp2_with fail
          generalize wr = wo at *
          go_loopw [7, 8] (fun a b wr => ∃ (t u : Nat) (h : Nat → Nat), a = .int .i64 ((u : Nat) : Int) ∧ b = .int .i64 ((u + b2 : Nat) : Int) ∧ Hid (u = t * (2 * bs)) ∧ u ≤ n ∧ Hid (sMrg K n h bs t) ∧ Hid (sSam (fun j => j) h 0 n) ∧ Hid (sFRw v wr g n h) ∧ Hid (sBut g w wr)) (fun a _ _ => n - (intOf a).toNat)
          case atStart => exact ⟨0, 0, h, rfl, by first | rfl | (congr 1; omega) | go_num, by show _ = _; rw [Nat.zero_mul], Nat.zero_le _, M0, hS, hR, hBw⟩
          case round =>
            clear M0 hS hR hBw hK
            obtain ⟨t, u, h, rfl, rfl, hu, hun, hM, hS, hR, hBw⟩ := hrel
            have HBD : Hid (∀ j, j < n → h j < n) := hS.out.bd (Nat.le_refl _) (fun j hj => hj)
            have HEV : Hid (Env wr) := HEN.out _ hBw.out
            have hbb := HB2.out
            by_cases hlt : u + b2 ≤ n
            · have hlt2 : ((u + b2 : Nat) : Int) ≤ (n : Int) := by omega
              have HPR : Hid (sPre K h u (u + bs) (u + b2)) := by
                have hue := hu.out
                obtain ⟨p1, p2⟩ := hM.out.parts (e := u + b2) hb0 (by rw [← hue]; omega) hlt (by rw [← hue]; omega)
                rw [← hue] at p1 p2
                exact p1.pre p2 (by omega) (by omega)
              have HST : Hid (∀ h2, sPost K h h2 u (u + b2) → sMrg K n h2 bs (t + 1)) := fun h2 hp => by
                have hue := hu.out
                rw [hbb, hue] at hp hlt
                exact hM.out.step hb0 hlt hp
              have hu2 : Hid (u + b2 = (t + 1) * (2 * bs)) := by show _ = _; rw [hu.out, hbb, Nat.add_mul t 1, Nat.one_mul]
              have hbsn : u + bs ≤ 65536 := by omega
              have hb2n : u + b2 + b2 ≤ 1048576 := by omega
              have hb20 : 0 < b2 := by omega
              clear hbb
              go_wp2_with (go_at_call 110; refine (HSY.out u (u + bs) (u + b2) _ _ _ h _ (by first | rfl | omega) (by first | rfl | omega) (by first | rfl | omega) HEV.out hR.out HPR.out hlt HBD.out).mono ?_; rintro e w2 ⟨rfl, h2, p2, r2, b2'⟩)
              have HM2 := Lib.hid (HST.out h2 p2.out)
              have HS2 : Hid (sSam (fun j => j) h2 0 n) := hS.out.trans (p2.out.sam.wide (Nat.zero_le _) hlt)
              have HBW2 := Lib.hid (hBw.out.trans b2'.out)
              go_roundw
              case rel => exact ⟨t + 1, u + b2, h2, by first | rfl | (congr 1; omega) | go_num, by first | rfl | (congr 1; omega) | go_num, hu2, hlt, HM2, HS2, r2, HBW2⟩
              case measure => simp [intOf]; omega
            · have hlt2 : ¬ ((u + b2 : Nat) : Int) ≤ (n : Int) := by omega
              by_cases hm : u + bs < n
              · have hm2 : (u : Int) + (bs : Int) < (n : Int) := by omega
                have HPR : Hid (sPre K h u (u + bs) n) := by
                  have hue := hu.out
                  obtain ⟨p1, p2⟩ := hM.out.parts (e := n) hb0 (by rw [← hue]; omega) (Nat.le_refl _) (by rw [← hue]; omega)
                  rw [← hue] at p1 p2
                  exact p1.pre p2 (by omega) (by omega)
                have HST : Hid (∀ h2, sPost K h h2 u n → sBks K n h2 b2 0 n) := fun h2 hp => by
                  have hue := hu.out
                  rw [hbb]
                  rw [hue] at hp
                  exact hM.out.last hb0 (by rw [← hue]; omega) (by rw [← hue]; omega) hp
                have hb20 : 0 < b2 ∧ b2 ≤ 131072 := by omega
                have hmeas : n - b2 < n - bs := by omega
                clear hbb
                go_wp2_with (go_at_call 110; refine (HSY.out u (u + bs) n _ _ _ h _ (by first | rfl | omega) (by first | rfl | omega) (by first | rfl | omega) HEV.out hR.out HPR.out (Nat.le_refl _) HBD.out).mono ?_; rintro e w2 ⟨rfl, h2, p2, r2, b2'⟩)
                have HK2 := Lib.hid (HST.out h2 p2.out)
                have HS2 : Hid (sSam (fun j => j) h2 0 n) := hS.out.trans (p2.out.sam.wide (Nat.zero_le _) (Nat.le_refl _))
                have HBW2 := Lib.hid (hBw.out.trans b2'.out)
                go_roundw
                case rel => exact ⟨b2, h2, by first | rfl | (congr 1; omega) | go_num, hb20.1, hb20.2, HK2, HS2, r2, HBW2⟩
                case measure => simp [intOf]; omega
              · have hm2 : ¬ (u : Int) + (bs : Int) < (n : Int) := by omega
                have HK2 : Hid (sBks K n h b2 0 n) := by
                  have hue := hu.out
                  show sBks K n h b2 0 n
                  rw [hbb]
                  exact hM.out.rest hb0 (by rw [← hue]; omega) (by rw [← hue]; omega) (by rw [← hue]; omega)
                have hb20 : 0 < b2 ∧ b2 ≤ 131072 := by omega
                have hmeas : n - b2 < n - bs := by omega
                clear hbb
                go_wp2_with fail
                go_roundw
                case rel => exact ⟨b2, h, by first | rfl | (congr 1; omega) | go_num, hb20.1, hb20.2, HK2, hS, hR, hBw⟩
                case measure => simp [intOf]; omega
        · have hbn2 : ¬ (bs : Int) < (n : Int) := by omega
          have HEND : Hid (sEnd K n h) := ⟨hS.out, hK.out.all (by omega) h0⟩
          go_wp2_with fail
          go_end0
          exact ⟨rfl, h, HEND, hR, hBw⟩

theorem sFSrt (v : Nat → Nat) (g n c : Nat) (K : Nat → Int) (C : Nat → Nat → Int) (Env : World → Prop) (w : World) (hE : sFEnv v n g K C Env) (he : Env w) (hr : sFRw v w g n (fun j => j)) (h0 : 0 < n) (hn : n ≤ 65536) :
    Calls Try.prog 40 #[.slice (some ⟨g, 0, none⟩) n c, .func (.func 37) #[] #[]] w fun e w' => e = .returned (.tuple #[]) ∧ ∃ h, Hid (sEnd K n h) ∧ Hid (sFRw v w' g n h) ∧ Hid (sBut g w w') := by
  have H := Lib.hid (sFStb v g n c K C Env w hE he hr h0 hn)
  clear hr hE he
  go_enter Try.func40, Try.ntmps40
  go_wp2_with (go_at_call 80; refine H.out.mono ?_; rintro e w2 ⟨rfl, h, p1, p2, p3⟩)
  go_end0
  exact ⟨rfl, h, p1, p2, p3⟩
end Go.Proofs.Ytnhcmloaanamnaa
