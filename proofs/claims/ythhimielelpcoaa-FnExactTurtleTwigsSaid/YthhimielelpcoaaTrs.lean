/-
  What is proved here: TurtleLine of the model, as a walk. Conditions: a text that a machine can hold.
-/
import Derived.Test.YthhimielelpcoaaTrq
namespace Go.Proofs.Ythhimielelpcoaa
open Flt Go.RowKit
set_option linter.unusedVariables false
set_option linter.unusedSimpArgs false

theorem below_dn {w : World} {n : Nat} : Below w.heap.size w (w.drewN n) := belowN (Below.refl _ _)
theorem brkB_is {L : Nat} (h : brkB L = true) : L = 91 ∨ L = 93 := by
  unfold brkB at h
  rw [Bool.or_eq_true] at h
  exact h.imp of_decide_eq_true of_decide_eq_true
theorem brkB_not {L : Nat} (h : brkB L = false) : ¬ L = 91 ∧ ¬ L = 93 := by
  unfold brkB at h
  rw [Bool.or_eq_false_iff] at h
  exact ⟨of_decide_eq_false h.1, of_decide_eq_false h.2⟩
/-- what is known of the phasors -/
def PhF (PF : Option Nat → OC) : Prop := ∀ (u r : Nat), WF .f64 r → can .f64 r = wid (can .f32 u) →
    (∀ w, Calls Try.prog 126 #[.float .f64 r] w (CPost (PF (can .f32 u)).1 (PF (can .f32 u)).2 w)) ∧ (∀ w, Calls Try.prog 132 #[.float .f64 r] w (CPost (PF (can .f32 u)).1 (PF (can .f32 u)).2 w))
theorem tlW_no {PF : Option Nat → OC} {s : ByteArray} {T S : Option Nat} (h : tlOk PF s T S = false) : tlW PF s T S = [] := by unfold tlW; rw [h]; rfl

set_option maxHeartbeats 8000000 in
set_option maxRecDepth 1000000 in
theorem specTur (PF : Option Nat → OC) (hPF : PhF PF) (s : ByteArray) (u v : Nat) (hs : s.size ≤ 9223372036854775807) (w : World) :
    Calls Try.prog 28 #[.string s, .float .f32 u, .float .f32 v] w (KPost (tlW PF s (can .f32 u) (can .f32 v)) (tlOk PF s (can .f32 u) (can .f32 v)) w) := by
  have HWD := Lib.hid (fun W => specIsWord s hs W)
  have HFU := Lib.hid (fun W => specFin u W)
  have HFV := Lib.hid (fun W => specFin v W)
  have hfu := finO_can u
  have hfv := finO_can v
  cases h1 : wordB s 4000
  · have N : Hid (tlOk PF s (can .f32 u) (can .f32 v) = false) := by show _ = _; unfold tlOk; rw [h1]; rfl
    rw [h1] at HWD
    clear h1 hfu hfv HFU HFV
    go_enter Try.func28, Try.ntmps28
    go_wp2_with (go_at_call 78; refine (HWD.out _).mono ?_; rintro e w' ⟨rfl, rfl⟩)
    go_ret2
    exact kpost_no (tlW_no N.out) N.out (Below.refl _ _)
  · rw [h1] at HWD
    cases h2 : finB .f32 u
    · have N : Hid (tlOk PF s (can .f32 u) (can .f32 v) = false) := by show _ = _; unfold tlOk; rw [h1, hfu, h2]; rfl
      rw [h2] at HFU
      clear h1 h2 hfu hfv HFV
      go_enter Try.func28, Try.ntmps28
      go_wp2_with (first | (go_at_call 78; refine (HWD.out _).mono ?_; rintro e w' ⟨rfl, rfl⟩) | (go_at_call 79; refine (HFU.out _).mono ?_; rintro e w' ⟨rfl, n, rfl⟩))
      go_ret2
      exact kpost_no (tlW_no N.out) N.out below_dn
    · rw [h2] at HFU
      cases h3 : finB .f32 v
      · have N : Hid (tlOk PF s (can .f32 u) (can .f32 v) = false) := by show _ = _; unfold tlOk; rw [h1, hfu, h2, hfv, h3]; rfl
        rw [h3] at HFV
        clear h1 h2 h3 hfu hfv
        go_enter Try.func28, Try.ntmps28
        go_wp2_with (first | (go_at_call 78; refine (HWD.out _).mono ?_; rintro e w' ⟨rfl, rfl⟩) | (go_at_call 79; (with_reducible first | refine (HFU.out _).mono ?_ | refine (HFV.out _).mono ?_); rintro e w' ⟨rfl, n, rfl⟩))
        go_ret2
        exact kpost_no (tlW_no N.out) N.out below_dn
      · rw [h3] at HFV
        have hz : s.size ≤ 4000 := by unfold wordB at h1; rw [Bool.and_eq_true] at h1; exact of_decide_eq_true h1.1
        have NOK : Hid (tlOk PF s (can .f32 u) (can .f32 v) = (nobB s s.size && decide ((tuA PF s (can .f32 u) (can .f32 v) s.size).2.2.length ≤ 256) && (tuA PF s (can .f32 u) (can .f32 v) s.size).2.2.all fun p => finO p.1 && finO p.2)) := by show _ = _; unfold tlOk; rw [h1, hfu, h2, hfv, h3]; simp
        have HTR : Hid (∀ (L z : Nat) (W : World), L < 256 → Calls Try.prog 80 #[.int .u8 (L : Nat), .float .f32 z, .float .f32 u] W fun e w' => ∃ g, e = .returned (.float .f32 g) ∧ Hid (can .f32 g = trnO L (can .f32 z) (can .f32 u)) ∧ Hid (Below W.heap.size W w')) := fun L z W hL => (specTrn L z u hL W).mono fun e w' h => by
          obtain ⟨g, n, rfl, rfl, h3⟩ := h
          exact ⟨g, rfl, h3, below_dn⟩
        have HFW : Hid (∀ (a b z : Nat) (W : World), Calls Try.prog 82 #[.complex .f32 a b, .float .f32 z, .float .f32 v] W fun e w' => ∃ g h, e = .returned (.complex .f32 g h) ∧ Hid (can .f32 g = fwd (PF (can .f32 z)).1 (can .f32 a) (can .f32 v)) ∧ Hid (can .f32 h = fwd (PF (can .f32 z)).2 (can .f32 b) (can .f32 v)) ∧ Hid (Below W.heap.size W w')) := fun a b z W => (specFwd PF hPF a b z v W).mono fun e w' h => by
          obtain ⟨g, h, n, rfl, rfl, h3, h4⟩ := h
          exact ⟨g, h, rfl, h3, h4, below_dn⟩
        have HPT : Hid (∀ (A : Option Addr) (c : Nat) (L : List (Nat × Nat)) (W : World), RowC W W.heap.size A L → L.length ≤ 256 → Calls Try.prog 83 #[.slice A L.length c] W fun e w' => e = .returned (.bool (L.all cfT)) ∧ Hid (Below W.heap.size W w')) := fun A c L W hr hn => (specPts A c W.heap.size L W hr hn).mono fun e w' h => by
          obtain ⟨h1, n, rfl⟩ := h
          exact ⟨h1, below_dn⟩
        have HST : Hid (∀ k, tuA PF s (can .f32 u) (can .f32 v) (k + 1) = (trnO (ltr s k) (tuA PF s (can .f32 u) (can .f32 v) k).1 (can .f32 u), (if movB (ltr s k) = true then ((fwd (PF (trnO (ltr s k) (tuA PF s (can .f32 u) (can .f32 v) k).1 (can .f32 u))).1 (tuA PF s (can .f32 u) (can .f32 v) k).2.1.1 (can .f32 v), fwd (PF (trnO (ltr s k) (tuA PF s (can .f32 u) (can .f32 v) k).1 (can .f32 u))).2 (tuA PF s (can .f32 u) (can .f32 v) k).2.1.2 (can .f32 v)), (tuA PF s (can .f32 u) (can .f32 v) k).2.2 ++ [(fwd (PF (trnO (ltr s k) (tuA PF s (can .f32 u) (can .f32 v) k).1 (can .f32 u))).1 (tuA PF s (can .f32 u) (can .f32 v) k).2.1.1 (can .f32 v), fwd (PF (trnO (ltr s k) (tuA PF s (can .f32 u) (can .f32 v) k).1 (can .f32 u))).2 (tuA PF s (can .f32 u) (can .f32 v) k).2.1.2 (can .f32 v))]) else ((tuA PF s (can .f32 u) (can .f32 v) k).2.1, (tuA PF s (can .f32 u) (can .f32 v) k).2.2)))) := fun k => rfl
        have HLE : Hid (∀ k, k ≤ s.size → (tuA PF s (can .f32 u) (can .f32 v) k).2.2.length ≤ (tuA PF s (can .f32 u) (can .f32 v) s.size).2.2.length) := fun k hk => by
          have := tuA_len (PF := PF) (s := s) (T := can .f32 u) (S := can .f32 v) (j := k) (s.size - k)
          rwa [show k + (s.size - k) = s.size by omega] at this
        have S0 : Hid (tuA PF s (can .f32 u) (can .f32 v) 0 = (some 0, (some 0, some 0), [(some 0, some 0)])) := rfl
        have c00 : can .f32 0 = some 0 := can_num (nanW_of_le (by decide))
        have HC0 := Lib.hid c00
        have O0 : ∀ k, Hid (GroC ((w.alloc (.cells #[.complex .f32 0 0] 113)).drewN k) w.heap.size [(0, 0)] (some ⟨w.heap.size, 0, none⟩) 1) := fun k => (GroC.lit1 w (Nat.le_refl _) (0, 0)).dn
        have B0 : ∀ k, Hid (Below w.heap.size w ((w.alloc (.cells #[.complex .f32 0 0] 113)).drewN k)) := fun k => belowN ((Below.refl _ _).alloc (Nat.le_refl _) _)
        have OO0 := Lib.hid O0
        have BB0 := Lib.hid B0
        clear h1 h2 h3 hfu hfv hPF c00 O0 B0
        go_enter Try.func28, Try.ntmps28
        go_wp2_with (first | (go_at_call 78; refine (HWD.out _).mono ?_; rintro e w' ⟨rfl, rfl⟩) | (go_at_call 79; (with_reducible first | refine (HFU.out _).mono ?_ | refine (HFV.out _).mono ?_); rintro e w' ⟨rfl, n, rfl⟩))
        generalize hTU : tuA PF s (can .f32 u) (can .f32 v) = tu at *
        have HTU := Lib.hid hTU
        clear hTU
        go_loopw [8, 9, 10, 11] (fun o p z i wr => ∃ (k : Nat) (A' : Option Addr) (c' : Nat) (L : List (Nat × Nat)) (q1 q2 zz : Nat), k ≤ s.size ∧ o = .slice A' L.length c' ∧ p = .complex .f32 q1 q2 ∧ z = .float .f32 zz ∧ i = .int .i64 k ∧ L.length ≤ 256 ∧ nobB s k = true ∧ Hid (can .f32 zz = (tu k).1) ∧ Hid ((can .f32 q1, can .f32 q2) = (tu k).2.1) ∧ Hid (L.map canT = (tu k).2.2) ∧ Hid (GroC wr w.heap.size L A' c') ∧ Hid (Below w.heap.size w wr)) (fun _ _ _ i _ => s.size - (intOf i).toNat)
        case atStart => exact ⟨0, _, _, [(0, 0)], 0, 0, 0, Nat.zero_le _, rfl, rfl, rfl, rfl, by decide, rfl, by show _ = _; rw [HC0.out, S0.out], by show (_, _) = _; rw [HC0.out, S0.out], by show [canT (0, 0)] = _; unfold canT; rw [HC0.out, S0.out], OO0.out _, BB0.out _⟩
        case round =>
          clear OO0 BB0
          obtain ⟨k, A', c', L, q1, q2, zz, hk, rfl, rfl, rfl, rfl, hL, hnb, hZ, hQ, hM, hO, hB⟩ := hrel
          have HNB := Lib.hid hnb
          clear hnb
          by_cases hlt : k < s.size
          · have hx := ltr_at hlt
            have hl256 := ltr_lt s k
            have hst := HST.out k
            have HBK : Hid (brkB (ltr s k) = false → nobB s (k + 1) = true) := fun h => nobB_succ HNB.out h
            have HBN : Hid (brkB (ltr s k) = true → nobB s s.size = false) := fun h => nobB_no hlt h
            generalize ltr s k = Lk at *
            cases hbk : brkB Lk
            · have hnb2 := Lib.hid (HBK.out hbk)
              obtain ⟨n91, n93⟩ := brkB_not hbk
              have hb91 : (((Lk : Nat) : Int) == 91) = false := beq_eq_false_iff_ne.2 (by omega)
              have hb93 : (((Lk : Nat) : Int) == 93) = false := beq_eq_false_iff_ne.2 (by omega)
              have HT := Lib.hid (fun W => HTR.out Lk zz W hl256)
              have HM := Lib.hid (fun W => specMov Lk W)
              clear hbk n91 n93 HBK HBN
              cases hmv : movB Lk
              · rw [hmv] at hst HM
                have HS2 := Lib.hid hst
                clear hst hmv
                go_wp2_with (first | (go_at_call 80; refine (HT.out _).mono ?_; rintro e wj ⟨g1, rfl, hg1, hbj⟩) | (go_at_call 81; refine (HM.out _).mono ?_; rintro e w' ⟨rfl, rfl⟩))
                go_roundw
                case rel => exact ⟨k + 1, A', c', L, q1, q2, g1, by omega, rfl, rfl, rfl, by go_num, hL, hnb2.out, by show _ = _; rw [HS2.out, hg1.out, hZ.out], by show (_, _) = _; rw [HS2.out]; exact hQ.out, by show _ = _; rw [HS2.out]; exact hM.out, hO.out.below hbj.out, hB.out.trans (hbj.out.mono hB.out.size)⟩
                case measure => simp [intOf]; omega
              · rw [hmv] at hst HM
                have hlk : (tu k).2.2.length = L.length := by rw [← hM.out, List.length_map]
                have HS2 := Lib.hid hst
                have hle := HLE.out (k + 1) (by omega)
                rw [hst] at hle
                have hle2 : L.length + 1 ≤ (tu s.size).2.2.length := by
                  have h9 : ((tu k).2.2 ++ [(fwd (PF (trnO Lk (tu k).1 (can .f32 u))).1 (tu k).2.1.1 (can .f32 v), fwd (PF (trnO Lk (tu k).1 (can .f32 u))).2 (tu k).2.1.2 (can .f32 v))]).length ≤ (tu s.size).2.2.length := hle
                  rw [List.length_append, hlk] at h9
                  exact h9
                have HLE2 := Lib.hid hle2
                clear hst hmv hlk hle hle2
                by_cases h256 : L.length < 256
                · have hng : ¬ ((256 : Int) < (L.length : Int) + 1) := by omega
                  go_wp2_with (first
                    | (go_at_call 80; refine (HT.out _).mono ?_; rintro e wj ⟨g1, rfl, hg1, hbj⟩)
                    | (go_at_call 81; refine (HM.out _).mono ?_; rintro e w' ⟨rfl, rfl⟩)
                    | (go_at_call 82; refine (HFW.out _ _ _ _).mono ?_; rintro e wf ⟨g3, g4, rfl, e3, e4, hbf⟩; have OF := Lib.hid ((hO.out.below hbj.out).below hbf.out); have BF := Lib.hid ((hB.out.trans (hbj.out.mono hB.out.size)).trans (hbf.out.mono (hB.out.trans (hbj.out.mono hB.out.size)).size)); have hszf : Hid (w.heap.size ≤ wf.heap.size) := BF.out.size)
                    | (at_builtin; refine wpGroC rfl _ _ rfl (w0 := wf) (y := (g3, g4)) OF.out rfl rfl rfl (by omega) hszf.out ?_; intro g9 c9 w9 O9 B9; have HO9 := Lib.hid O9; have HB9 := Lib.hid B9; clear O9 B9))
                  go_roundw
                  case rel => exact ⟨k + 1, some ⟨g9, 0, none⟩, c9, L ++ [(g3, g4)], g3, g4, g1, by omega, by rw [List.length_append]; rfl, rfl, rfl, by go_num, by rw [List.length_append]; show L.length + 1 ≤ 256; omega, hnb2.out, by show _ = _; rw [HS2.out, hg1.out, hZ.out], by
                    show (_, _) = _
                    rw [HS2.out, e3.out, e4.out, hg1.out, hZ.out, show can .f32 q1 = (tu k).2.1.1 by rw [← hQ.out], show can .f32 q2 = (tu k).2.1.2 by rw [← hQ.out]]
                    rfl, by
                    show _ = _
                    rw [List.map_append, hM.out, HS2.out]
                    show _ ++ [(can .f32 g3, can .f32 g4)] = _
                    rw [e3.out, e4.out, hg1.out, hZ.out, show can .f32 q1 = (tu k).2.1.1 by rw [← hQ.out], show can .f32 q2 = (tu k).2.1.2 by rw [← hQ.out]]
                    rfl, HO9, BF.out.trans HB9.out⟩
                  case measure => simp [intOf]; omega
                · have hng : (256 : Int) < (L.length : Int) + 1 := by omega
                  have N : Hid (tlOk PF s (can .f32 u) (can .f32 v) = false) := by
                    show _ = _
                    rw [NOK.out, decide_eq_false (by have := HLE2.out; omega : ¬ (tu s.size).2.2.length ≤ 256)]; simp
                  go_wp2_with (first
                    | (go_at_call 80; refine (HT.out _).mono ?_; rintro e wj ⟨g1, rfl, hg1, hbj⟩)
                    | (go_at_call 81; refine (HM.out _).mono ?_; rintro e w' ⟨rfl, rfl⟩)
                    | (go_at_call 82; refine (HFW.out _ _ _ _).mono ?_; rintro e wf ⟨g3, g4, rfl, e3, e4, hbf⟩; have OF := Lib.hid ((hO.out.below hbj.out).below hbf.out); have BF := Lib.hid ((hB.out.trans (hbj.out.mono hB.out.size)).trans (hbf.out.mono (hB.out.trans (hbj.out.mono hB.out.size)).size)); have hszf : Hid (w.heap.size ≤ wf.heap.size) := BF.out.size)
                    | (at_builtin; refine wpGroC rfl _ _ rfl (w0 := wf) (y := (g3, g4)) OF.out rfl rfl rfl (by omega) hszf.out ?_; intro g9 c9 w9 O9 B9; have HO9 := Lib.hid O9; have HB9 := Lib.hid B9; clear O9 B9))
                  go_ret2
                  exact kpost_no (tlW_no N.out) N.out (BF.out.trans HB9.out)
            · have N : Hid (tlOk PF s (can .f32 u) (can .f32 v) = false) := by
                show _ = _
                rw [NOK.out, HBN.out hbk]; rfl
              clear hst HBK HBN
              rcases brkB_is hbk with rfl | rfl
              · clear hbk
                go_wp2_with fail
                go_ret2
                exact kpost_no (tlW_no N.out) N.out hB.out
              · clear hbk
                go_wp2_with fail
                go_ret2
                exact kpost_no (tlW_no N.out) N.out hB.out
          · obtain rfl : k = s.size := by omega
            have HP := Lib.hid (HPT.out A' c' L wr hO.out.rowCI.toRow hL)
            have hfa := told_fin hM.out
            have hlk : (tu s.size).2.2.length = L.length := by rw [← hM.out, List.length_map]
            have NK : Hid (tlOk PF s (can .f32 u) (can .f32 v) = L.all cfT) := by
              show _ = _
              rw [NOK.out, HNB.out, hlk, decide_eq_true hL, hfa]; rfl
            clear hfa hlk
            cases hall : L.all cfT
            · rw [hall] at HP NK
              clear hall
              go_wp2_with (go_at_call 83; refine HP.out.mono ?_; rintro e wp ⟨rfl, hbp⟩)
              go_ret2
              exact kpost_no (tlW_no NK.out) NK.out (hB.out.trans (hbp.out.mono hB.out.size))
            · have HEQ : Hid (tlW PF s (can .f32 u) (can .f32 v) = L) := by
                show _ = _
                unfold tlW
                rw [NK.out, hall, if_pos rfl, HTU.out]
                exact (told_word hM.out hall).symm
              rw [hall] at HP NK
              clear hall
              go_wp2_with (go_at_call 83; refine HP.out.mono ?_; rintro e wp ⟨rfl, hbp⟩)
              go_ret2
              refine ⟨A', c', by rw [HEQ.out, NK.out]; rfl, ?_, hB.out.trans (hbp.out.mono hB.out.size)⟩
              rw [HEQ.out]
              exact (hO.out.below hbp.out).rowCI
end Go.Proofs.Ythhimielelpcoaa
