/-
  What is proved here: the program's turtle, as it draws the twigs of a word (drawWord with TurtleTwigs' closure), as a walk. Conditions: a text that a machine can hold, two lines behind two variables.
-/
import Derived.Test.YthhimielelpcoaaTwe
namespace Go.Proofs.Ythhimielelpcoaa
open Flt Go.RowKit
set_option linter.unusedVariables false
set_option linter.unusedSimpArgs false
attribute [local go_sem] run_store_float run_store_cpx

set_option maxHeartbeats 16000000 in
set_option maxRecDepth 1000000 in
theorem implDrT (PF : Option Nat → OC) (hPF : PhF PF) (s : ByteArray) (u v : Nat) (hs : s.size ≤ 9223372036854775807) (b1 b2 G : Nat) (w : World) (h : Ln2 w G b1 b2 [] [] none none 0 0) (hG1 : G ≤ b1) (hG2 : G ≤ b2) :
    Calls Try.prog 84 #[.string s, .float .f32 u, .float .f32 v, .func (.func 88) #[] #[.pointer (some ⟨b1, 0, none⟩), .pointer (some ⟨b2, 0, none⟩)]] w (DwQ PF s (can .f32 u) (can .f32 v) b1 b2 G w) := by
  have HWD := Lib.hid (fun W => implIsWord s W)
  have HFU := Lib.hid (fun W => implFin u W)
  have HFV := Lib.hid (fun W => implFin v W)
  have hfu := finO_can u
  have hfv := finO_can v
  have hGw : G ≤ w.heap.size := by have := h.l1.lt; omega
  have HH := Lib.hid h
  clear h
  cases h1 : wordB s 4000
  · have N : Hid (twOk PF s (can .f32 u) (can .f32 v) = false) := by show _ = _; unfold twOk; rw [h1]; rfl
    rw [h1] at HWD
    clear h1 hfu hfv HFU HFV
    go_enter Try.func84, Try.ntmps84
    go_wp2_with (go_at_call 128; refine (HWD.out _).mono ?_; rintro e w1 ⟨rfl, hb1⟩)
    go_ret
    exact dwQ_no (hb1.mono hGw) N.out
  · rw [h1] at HWD
    have hz : s.size ≤ 4000 := by unfold wordB at h1; rw [Bool.and_eq_true] at h1; exact of_decide_eq_true h1.1
    cases h2 : finB .f32 u
    · have N : Hid (twOk PF s (can .f32 u) (can .f32 v) = false) := by show _ = _; unfold twOk; rw [h1, hfu, h2]; rfl
      rw [h2] at HFU
      clear h1 h2 hfu hfv HFV
      go_enter Try.func84, Try.ntmps84
      go_wp2_with (first | (go_at_call 128; refine (HWD.out _).mono ?_; rintro e w1 ⟨rfl, hb1⟩) | (go_at_call 129; refine (HFU.out _).mono ?_; rintro e w' ⟨rfl, n, rfl⟩))
      go_ret
      exact dwQ_no (belowN (hb1.mono hGw)) N.out
    · rw [h2] at HFU
      cases h3 : finB .f32 v
      · have N : Hid (twOk PF s (can .f32 u) (can .f32 v) = false) := by show _ = _; unfold twOk; rw [h1, hfu, h2, hfv, h3]; rfl
        rw [h3] at HFV
        clear h1 h2 h3 hfu hfv
        go_enter Try.func84, Try.ntmps84
        go_wp2_with (first | (go_at_call 128; refine (HWD.out _).mono ?_; rintro e w1 ⟨rfl, hb1⟩) | (go_at_call 129; (with_reducible first | refine (HFU.out _).mono ?_ | refine (HFV.out _).mono ?_); rintro e w' ⟨rfl, n, rfl⟩))
        go_ret
        exact dwQ_no (belowN (hb1.mono hGw)) N.out
      · rw [h3] at HFV
        have HWB := Lib.hid h1
        have HST : Hid (∀ k, twA PF s (can .f32 u) (can .f32 v) (k + 1) = (twA PF s (can .f32 u) (can .f32 v) k).bind (twN PF (can .f32 u) (can .f32 v) (ltr s k))) := fun k => rfl
        have HND : Hid (∀ j z, j ≤ s.size → twA PF s (can .f32 u) (can .f32 v) j = some z → (256 < z.to'.length ∨ z.to'.all finC = false) → twOk PF s (can .f32 u) (can .f32 v) = false) := fun j z hj h hz => twOk_many hj h hz
        have HNN : Hid (∀ j, j ≤ s.size → twA PF s (can .f32 u) (can .f32 v) j = none → twOk PF s (can .f32 u) (can .f32 v) = false) := fun j hj h => twOk_none hj h
        have HEN : Hid (∀ L1 L2 K q1 q2 zz, Tel (twA PF s (can .f32 u) (can .f32 v) s.size) L1 L2 K q1 q2 zz → L2.length ≤ 256 → twOk PF s (can .f32 u) (can .f32 v) = ((K.length : Int) == 0) ∧ (K = [] → L1 = twF PF s (can .f32 u) (can .f32 v) ∧ L2 = twT PF s (can .f32 u) (can .f32 v))) := fun L1 L2 K q1 q2 zz h hl => twOk_end HWB.out (hfu.trans h2) (hfv.trans h3) h hl
        have c00 : can .f32 0 = some 0 := can_num (nanW_of_le (by decide))
        have TL0 : Hid (Tel (twA PF s (can .f32 u) (can .f32 v) 0) [] [] [] 0 0 0) := ⟨by rw [c00]; rfl, rfl⟩
        clear h1 h2 h3 hfu hfv c00
        go_enter Try.func84, Try.ntmps84
        go_upto_region 3 with (first | (go_at_call 128; refine (HWD.out _).mono ?_; rintro e w1 ⟨rfl, hb1⟩) | (go_at_call 129; (with_reducible first | refine (HFU.out _).mono ?_ | refine (HFV.out _).mono ?_); rintro e w' ⟨rfl, n, rfl⟩))
        have HB1 := Lib.hid hb1
        clear hb1
        generalize hTU : twA PF s (can .f32 u) (can .f32 v) = tu at *
        clear hTU
        have L1 : Ln2 w1 G b1 b2 [] [] none none 0 0 := HH.out.below HB1.out
        have bA : Below w1.heap.size w1 (w1.alloc (.cells #[.complex .f32 0 0, .float .f32 0] 157)) := (Below.refl _ _).alloc (Nat.le_refl _) _
        have sA : (w1.alloc (.cells #[.complex .f32 0 0, .float .f32 0] 157)).heap.size = w1.heap.size + 1 := by simp
        have bB : Below (w1.alloc (.cells #[.complex .f32 0 0, .float .f32 0] 157)).heap.size (w1.alloc (.cells #[.complex .f32 0 0, .float .f32 0] 157)) ((w1.alloc (.cells #[.complex .f32 0 0, .float .f32 0] 157)).alloc (.stringIter s 0)) := (Below.refl _ _).alloc (Nat.le_refl _) _
        have bC : Below w1.heap.size w1 ((w1.alloc (.cells #[.complex .f32 0 0, .float .f32 0] 157)).alloc (.stringIter s 0)) := bA.trans (bB.mono (by rw [sA]; omega))
        have L2 : Ln2 ((w1.alloc (.cells #[.complex .f32 0 0, .float .f32 0] 157)).alloc (.stringIter s 0)) G b1 b2 [] [] none none 0 0 := L1.below bC
        have D0 : Hid (DwT s b1 b2 G w1.heap.size w ((w1.alloc (.cells #[.complex .f32 0 0, .float .f32 0] 157)).alloc (.stringIter s 0)) 0 [] [] none none 0 0 [] none 0 0 0 0) := by
          refine ⟨?_, L2, GroT.nil _ _, fun a ha => (by cases ha), fun a ha => (by cases ha), fun a b ha => (by cases ha), fun a b ha => (by cases ha), ?_, ?_, ?_, ?_, (HB1.out.mono hGw).trans (bC.mono (by have := HB1.out.size; omega)), L1.l1.lt, L1.l2.lt, hG1, hG2, rfl, by decide, by decide⟩
          · rw [← sA]; exact heap_alloc_new _ _
          · rw [bB.cell (p := ⟨w1.heap.size, 0, none⟩) (by rw [sA]; exact Nat.lt_succ_self _)]; simp [World.cell?, World.alloc, -World.alloc_eq]
          · rw [bB.cell (p := ⟨w1.heap.size, 1, none⟩) (by rw [sA]; exact Nat.lt_succ_self _)]; simp [World.cell?, World.alloc, -World.alloc_eq]
          · rw [bB.frozen (p := ⟨w1.heap.size, 0, none⟩) (by rw [sA]; exact Nat.lt_succ_self _)]; simp [World.frozen?, World.alloc, -World.alloc_eq]
          · rw [bB.frozen (p := ⟨w1.heap.size, 1, none⟩) (by rw [sA]; exact Nat.lt_succ_self _)]; simp [World.frozen?, World.alloc, -World.alloc_eq]
        have D00 : Hid (∀ n, DwT s b1 b2 G w1.heap.size w (((w1.alloc (.cells #[.complex .f32 0 0, .float .f32 0] 157)).alloc (.stringIter s 0)).drewN n) 0 [] [] none none 0 0 [] none 0 0 0 0) := fun n => D0.out.dn
        clear L1 bA sA bB bC L2 D0
        go_wp2_with fail
        generalize hX : w1.heap.size = X at *
        go_loopw [10] (fun r wr => ∃ (pos : Nat) (L1 L2 : List (Nat × Nat)) (A1 A2 : Option Addr) (c1 c2 : Nat) (K : List TU) (SA : Option Addr) (sc q1 q2 zz : Nat), pos ≤ s.size ∧ K.length ≤ pos ∧ r = .slice SA K.length sc ∧ Hid (DwT s b1 b2 G X w wr pos L1 L2 A1 A2 c1 c2 K SA sc q1 q2 zz) ∧ Hid (Tel (tu pos) L1 L2 K q1 q2 zz)) (fun _ wr => s.size - wr.iterPos (X + 1))
        case atStart => exact ⟨0, [], [], none, none, 0, 0, [], none, 0, 0, 0, 0, Nat.zero_le _, Nat.le_refl _, rfl, D00.out _, TL0⟩
        case round =>
          clear D00 hX TL0
          obtain ⟨pos, L1, L2, A1, A2, c1, c2, K, SA, sc, q1, q2, zz, hpos, hKp, rfl, hD, hT⟩ := hrel
          have hit := hD.out.it
          have hitH := Lib.hid hit
          by_cases hlt : pos < s.size
          · have ha := wordB_atT HWB.out hlt
            have hnx : ∀ ty, (Instr.next (.pointer (some ⟨X + 1, 0, none⟩)) true ty).run Try.prog wr = _ := fun ty => Lib.run_next_ascii_at wr (X + 1) s pos ty hit hlt ha
            have hx0 := ltr_at hlt
            have DI := Lib.hid (hD.out.next (pos + 1))
            rw [hx0] at hnx ha
            clear hx0 hit hD
            generalize wr.iterAt (X + 1) s (pos + 1) = wi at *
            have v0 := DI.out.v0
            have v1 := DI.out.v1
            have f0 := DI.out.f0
            have f1 := DI.out.f1
            have hst := HST.out pos
            obtain ⟨Lk, hx⟩ : ∃ Lk, ltr s pos = Lk := ⟨_, rfl⟩
            rw [hx] at hnx ha hst
            have E := Lib.hid hst
            clear hx hst
            by_cases l70 : Lk = 70
            · subst l70
              have HPH := Lib.hid (hPF zz)
              go_upto_region 13 with (first
                | ((with_reducible refine upon_wid ?_ ?_ ?_); rotate_left 2; intro r0 n0 hr0 e0; rotate_left 1; kernel_rfl; kernel_rfl)
                | (go_at_call 132; refine ((HPH.out _ (by assumption) (by exact (‹Hid (can .f64 _ = wid (can .f32 zz))›).out)).2 _).mono ?_; rintro e w2 ⟨g1, g2, n1, rfl, rfl, a1, a2⟩)
                | (go_at_call 131; refine (implScl _ _ _ _).mono ?_; rintro e w2 ⟨g3, g4, n2, rfl, rfl, a3, a4⟩)
                | (go_at_call 130; refine (implAdC _ _ _ _ _).mono ?_; rintro e w2 ⟨g5, g6, n3, rfl, rfl, a5, a6⟩))
              have P9 : Hid (tu (pos + 1) = some ⟨can .f32 zz, (can .f32 g5, can .f32 g6), K.map remT, (L1 ++ [(q1, q2)]).map canT, (L2 ++ [(g5, g6)]).map canT⟩) := hT.out.move E.out (by decide) (by decide) rfl (by rw [a5.out, a3.out, a1.out]; rfl) (by rw [a6.out, a4.out, a2.out]; rfl)
              have IB : ButIn X (X + 1) wi (wi.setCell ⟨X, 0, none⟩ (.complex .f32 g5 g6)) := ButIn.setT wi X 0 _
              have D2 : Hid (∀ n, DwT s b1 b2 G X w (((wi.drewN (n0 + n1 + n2 + n3)).setCell ⟨X, 0, none⟩ (.complex .f32 g5 g6)).drewN n) (pos + 1) L1 L2 A1 A2 c1 c2 K SA sc g5 g6 zz) := fun n => ((DI.out.setV IB (by rw [World.cell?_setCell_same _ _ _ DI.out.v0]) (by rw [World.cell?_setCell_other _ _ _ _ (by intro h; injection h with _ h2 _; omega)]; exact DI.out.v1) (by rw [World.frozen?_setCell]; exact DI.out.f0) (by rw [World.frozen?_setCell]; exact DI.out.f1)).dn (n := n0 + n1 + n2 + n3)).dn (n := n)
              have hGX : G ≤ X := by have h1 := DI.out.hg1; have h2 := DI.out.hb1; omega
              have hLL1 : L1.length ≤ 256 := by have := DI.out.hLe; have := DI.out.hL2; omega
              have HLe := Lib.hid DI.out.hLe
              have hLL2 := DI.out.hL2
              have hTF := Lib.hid hT.out.fin
              have u0 : (wi.setCell ⟨X, 0, none⟩ (.complex .f32 g5 g6)).cell? ⟨X, 0, none⟩ = some (.complex .f32 g5 g6) := by rw [World.cell?_setCell_same _ _ _ DI.out.v0]
              clear IB a1 a2 a3 a4 a5 a6 E HPH hT
              cases hcf : cfT (g5, g6)
              · have HF : Hid (∀ W, Calls Try.prog 133 #[.complex .f32 g5 g6] W fun e w' => e = .returned (.bool false) ∧ ∃ n, w' = W.drewN n) := fun W => by have := implFinT (g5, g6) W; rwa [hcf] at this
                have N : Hid (twOk PF s (can .f32 u) (can .f32 v) = false) := HND.out (pos + 1) _ hlt P9.out (.inr (by show ((L2 ++ [(g5, g6)]).map canT).all finC = false; rw [fin_told rfl, List.all_append, List.all_cons, hcf]; simp))
                clear hcf
                go_wp2_with (go_at_call 133; refine (HF.out _).mono ?_; rintro e w' ⟨rfl, n9, rfl⟩)
                go_ret
                exact dwQ_no (D2.out _).bel N.out
              · have HF : Hid (∀ W, Calls Try.prog 133 #[.complex .f32 g5 g6] W fun e w' => e = .returned (.bool true) ∧ ∃ n, w' = W.drewN n) := fun W => by have := implFinT (g5, g6) W; rwa [hcf] at this
                have HCF := Lib.hid hcf
                clear hcf
                by_cases h256 : L2.length < 256
                · have hd : decide (L2.length + 1 ≤ 256) = true := decide_eq_true (by omega)
                  go_wp2_with (first
                    | (go_at_call 133; refine (HF.out _).mono ?_; rintro e w' ⟨rfl, n9, rfl⟩)
                    | (go_at_call 88; refine (cloTwg b1 b2 G c1 c2 L1 L2 A1 A2 q1 q2 g5 g6 _ (by exact (D2.out _).ln) hLL1 hLL2 (by exact Nat.le_trans hGX (Nat.le_of_lt (Nat.lt_of_succ_lt (D2.out _).sz)))).mono ?_; rintro e w3 ⟨rfl, B1, d1, B2, d2, hln, hbl, hp1, hp2⟩; rw [hd]))
                  have D3 : Hid (DwT s b1 b2 G X w w3 (pos + 1) (L1 ++ [(q1, q2)]) (L2 ++ [(g5, g6)]) B1 B2 d1 d2 K SA sc g5 g6 zz) := DwT.line (D2.out _) hln.out hbl.out hp1.out hp2.out (by rw [List.length_append, List.length_append, HLe.out]; rfl) (by rw [List.length_append]; simp only [List.length_singleton]; omega)
                  have T3 : Hid (Tel (tu (pos + 1)) (L1 ++ [(q1, q2)]) (L2 ++ [(g5, g6)]) K g5 g6 zz) := ⟨P9.out, by rw [List.all_append, hTF.out, List.all_cons, HCF.out]; rfl⟩
                  go_roundw
                  case rel => exact ⟨pos + 1, _, _, B1, B2, d1, d2, K, SA, sc, g5, g6, zz, by omega, by omega, rfl, D3, T3⟩
                  case measure => rw [iterPos_of D3.out.it, iterPos_of hitH.out]; omega
                · have hd : decide (L2.length + 1 ≤ 256) = false := decide_eq_false (by omega)
                  have N : Hid (twOk PF s (can .f32 u) (can .f32 v) = false) := HND.out (pos + 1) _ hlt P9.out (.inl (by show 256 < ((L2 ++ [(g5, g6)]).map canT).length; rw [List.length_map, List.length_append]; simp only [List.length_singleton]; omega))
                  go_wp2_with (first
                    | (go_at_call 133; refine (HF.out _).mono ?_; rintro e w' ⟨rfl, n9, rfl⟩)
                    | (go_at_call 88; refine (cloTwg b1 b2 G c1 c2 L1 L2 A1 A2 q1 q2 g5 g6 _ (by exact (D2.out _).ln) hLL1 hLL2 (by exact Nat.le_trans hGX (Nat.le_of_lt (Nat.lt_of_succ_lt (D2.out _).sz)))).mono ?_; rintro e w3 ⟨rfl, B1, d1, B2, d2, hln, hbl, hp1, hp2⟩; rw [hd]))
                  go_ret
                  exact dwQ_no (Below.trans (D2.out _).bel ((D2.out _).far hbl.out)) N.out
            · have hnl70 := l70
              by_cases l71 : Lk = 71
              · subst l71
                clear l70
                have HPH := Lib.hid (hPF zz)
                go_upto_region 13 with (first
                  | ((with_reducible refine upon_wid ?_ ?_ ?_); rotate_left 2; intro r0 n0 hr0 e0; rotate_left 1; kernel_rfl; kernel_rfl)
                  | (go_at_call 132; refine ((HPH.out _ (by assumption) (by exact (‹Hid (can .f64 _ = wid (can .f32 zz))›).out)).2 _).mono ?_; rintro e w2 ⟨g1, g2, n1, rfl, rfl, a1, a2⟩)
                  | (go_at_call 131; refine (implScl _ _ _ _).mono ?_; rintro e w2 ⟨g3, g4, n2, rfl, rfl, a3, a4⟩)
                  | (go_at_call 130; refine (implAdC _ _ _ _ _).mono ?_; rintro e w2 ⟨g5, g6, n3, rfl, rfl, a5, a6⟩))
                have P9 : Hid (tu (pos + 1) = some ⟨can .f32 zz, (can .f32 g5, can .f32 g6), K.map remT, (L1 ++ [(q1, q2)]).map canT, (L2 ++ [(g5, g6)]).map canT⟩) := hT.out.move E.out (by decide) (by decide) rfl (by rw [a5.out, a3.out, a1.out]; rfl) (by rw [a6.out, a4.out, a2.out]; rfl)
                have IB : ButIn X (X + 1) wi (wi.setCell ⟨X, 0, none⟩ (.complex .f32 g5 g6)) := ButIn.setT wi X 0 _
                have D2 : Hid (∀ n, DwT s b1 b2 G X w (((wi.drewN (n0 + n1 + n2 + n3)).setCell ⟨X, 0, none⟩ (.complex .f32 g5 g6)).drewN n) (pos + 1) L1 L2 A1 A2 c1 c2 K SA sc g5 g6 zz) := fun n => ((DI.out.setV IB (by rw [World.cell?_setCell_same _ _ _ DI.out.v0]) (by rw [World.cell?_setCell_other _ _ _ _ (by intro h; injection h with _ h2 _; omega)]; exact DI.out.v1) (by rw [World.frozen?_setCell]; exact DI.out.f0) (by rw [World.frozen?_setCell]; exact DI.out.f1)).dn (n := n0 + n1 + n2 + n3)).dn (n := n)
                have hGX : G ≤ X := by have h1 := DI.out.hg1; have h2 := DI.out.hb1; omega
                have hLL1 : L1.length ≤ 256 := by have := DI.out.hLe; have := DI.out.hL2; omega
                have HLe := Lib.hid DI.out.hLe
                have hLL2 := DI.out.hL2
                have hTF := Lib.hid hT.out.fin
                have u0 : (wi.setCell ⟨X, 0, none⟩ (.complex .f32 g5 g6)).cell? ⟨X, 0, none⟩ = some (.complex .f32 g5 g6) := by rw [World.cell?_setCell_same _ _ _ DI.out.v0]
                clear IB a1 a2 a3 a4 a5 a6 E HPH hT
                cases hcf : cfT (g5, g6)
                · have HF : Hid (∀ W, Calls Try.prog 133 #[.complex .f32 g5 g6] W fun e w' => e = .returned (.bool false) ∧ ∃ n, w' = W.drewN n) := fun W => by have := implFinT (g5, g6) W; rwa [hcf] at this
                  have N : Hid (twOk PF s (can .f32 u) (can .f32 v) = false) := HND.out (pos + 1) _ hlt P9.out (.inr (by show ((L2 ++ [(g5, g6)]).map canT).all finC = false; rw [fin_told rfl, List.all_append, List.all_cons, hcf]; simp))
                  clear hcf
                  go_wp2_with (go_at_call 133; refine (HF.out _).mono ?_; rintro e w' ⟨rfl, n9, rfl⟩)
                  go_ret
                  exact dwQ_no (D2.out _).bel N.out
                · have HF : Hid (∀ W, Calls Try.prog 133 #[.complex .f32 g5 g6] W fun e w' => e = .returned (.bool true) ∧ ∃ n, w' = W.drewN n) := fun W => by have := implFinT (g5, g6) W; rwa [hcf] at this
                  have HCF := Lib.hid hcf
                  clear hcf
                  by_cases h256 : L2.length < 256
                  · have hd : decide (L2.length + 1 ≤ 256) = true := decide_eq_true (by omega)
                    go_wp2_with (first
                      | (go_at_call 133; refine (HF.out _).mono ?_; rintro e w' ⟨rfl, n9, rfl⟩)
                      | (go_at_call 88; refine (cloTwg b1 b2 G c1 c2 L1 L2 A1 A2 q1 q2 g5 g6 _ (by exact (D2.out _).ln) hLL1 hLL2 (by exact Nat.le_trans hGX (Nat.le_of_lt (Nat.lt_of_succ_lt (D2.out _).sz)))).mono ?_; rintro e w3 ⟨rfl, B1, d1, B2, d2, hln, hbl, hp1, hp2⟩; rw [hd]))
                    have D3 : Hid (DwT s b1 b2 G X w w3 (pos + 1) (L1 ++ [(q1, q2)]) (L2 ++ [(g5, g6)]) B1 B2 d1 d2 K SA sc g5 g6 zz) := DwT.line (D2.out _) hln.out hbl.out hp1.out hp2.out (by rw [List.length_append, List.length_append, HLe.out]; rfl) (by rw [List.length_append]; simp only [List.length_singleton]; omega)
                    have T3 : Hid (Tel (tu (pos + 1)) (L1 ++ [(q1, q2)]) (L2 ++ [(g5, g6)]) K g5 g6 zz) := ⟨P9.out, by rw [List.all_append, hTF.out, List.all_cons, HCF.out]; rfl⟩
                    go_roundw
                    case rel => exact ⟨pos + 1, _, _, B1, B2, d1, d2, K, SA, sc, g5, g6, zz, by omega, by omega, rfl, D3, T3⟩
                    case measure => rw [iterPos_of D3.out.it, iterPos_of hitH.out]; omega
                  · have hd : decide (L2.length + 1 ≤ 256) = false := decide_eq_false (by omega)
                    have N : Hid (twOk PF s (can .f32 u) (can .f32 v) = false) := HND.out (pos + 1) _ hlt P9.out (.inl (by show 256 < ((L2 ++ [(g5, g6)]).map canT).length; rw [List.length_map, List.length_append]; simp only [List.length_singleton]; omega))
                    go_wp2_with (first
                      | (go_at_call 133; refine (HF.out _).mono ?_; rintro e w' ⟨rfl, n9, rfl⟩)
                      | (go_at_call 88; refine (cloTwg b1 b2 G c1 c2 L1 L2 A1 A2 q1 q2 g5 g6 _ (by exact (D2.out _).ln) hLL1 hLL2 (by exact Nat.le_trans hGX (Nat.le_of_lt (Nat.lt_of_succ_lt (D2.out _).sz)))).mono ?_; rintro e w3 ⟨rfl, B1, d1, B2, d2, hln, hbl, hp1, hp2⟩; rw [hd]))
                    go_ret
                    exact dwQ_no (Below.trans (D2.out _).bel ((D2.out _).far hbl.out)) N.out
              · have hnl71 := l71
                by_cases l43 : Lk = 43
                · subst l43
                  clear l70 l71
                  go_wp2_with ((with_reducible refine upon_bin rfl ?_); intro r1 n1 _ e1)
                  have IB : ButIn X (X + 1) wi (wi.setCell ⟨X, 1, none⟩ (.float .f32 r1)) := ButIn.setT wi X 1 _
                  have D2 := Lib.hid ((DI.out.setV (q1' := q1) (q2' := q2) (zz' := r1) IB (by rw [World.cell?_setCell_other _ _ _ _ (by intro h; injection h with _ h2 _; omega)]; exact DI.out.v0) (by rw [World.cell?_setCell_same _ _ _ DI.out.v1]) (by rw [World.frozen?_setCell]; exact DI.out.f0) (by rw [World.frozen?_setCell]; exact DI.out.f1)).dn (n := n1))
                  have T2 : Hid (Tel (tu (pos + 1)) L1 L2 K q1 q2 r1) := hT.out.turn E.out (by decide) (by decide) rfl (by rw [e1.out]; rfl)
                  have hpi : ((wi.drewN n1).setCell ⟨X, 1, none⟩ (.float .f32 r1)).heap[X + 1]? = some (.stringIter s (pos + 1)) := D2.out.it
                  go_roundw
                  case rel => exact ⟨pos + 1, L1, L2, A1, A2, c1, c2, K, SA, sc, q1, q2, r1, by omega, by omega, rfl, D2, T2⟩
                  case measure => rw [iterPos_of hpi, iterPos_of hitH.out]; omega
                · have hnl43 := l43
                  by_cases l45 : Lk = 45
                  · subst l45
                    clear l70 l71 l43
                    go_wp2_with ((with_reducible refine upon_bin rfl ?_); intro r1 n1 _ e1)
                    have IB : ButIn X (X + 1) wi (wi.setCell ⟨X, 1, none⟩ (.float .f32 r1)) := ButIn.setT wi X 1 _
                    have D2 := Lib.hid ((DI.out.setV (q1' := q1) (q2' := q2) (zz' := r1) IB (by rw [World.cell?_setCell_other _ _ _ _ (by intro h; injection h with _ h2 _; omega)]; exact DI.out.v0) (by rw [World.cell?_setCell_same _ _ _ DI.out.v1]) (by rw [World.frozen?_setCell]; exact DI.out.f0) (by rw [World.frozen?_setCell]; exact DI.out.f1)).dn (n := n1))
                    have T2 : Hid (Tel (tu (pos + 1)) L1 L2 K q1 q2 r1) := hT.out.turn E.out (by decide) (by decide) rfl (by rw [e1.out]; rfl)
                    have hpi : ((wi.drewN n1).setCell ⟨X, 1, none⟩ (.float .f32 r1)).heap[X + 1]? = some (.stringIter s (pos + 1)) := D2.out.it
                    go_roundw
                    case rel => exact ⟨pos + 1, L1, L2, A1, A2, c1, c2, K, SA, sc, q1, q2, r1, by omega, by omega, rfl, D2, T2⟩
                    case measure => rw [iterPos_of hpi, iterPos_of hitH.out]; omega
                  · have hnl45 := l45
                    by_cases l91 : Lk = 91
                    · subst l91
                      clear l70 l71 l43 l45
                      have hsz := DI.out.sz
                      have hKl : K.length ≤ 1048576 := by omega
                      have hX2 : X + 2 ≤ wi.heap.size := hsz
                      go_wp2_with (at_builtin; refine wpGroT rfl _ _ rfl (w0 := wi) (p := (q1, q2, zz)) DI.out.st rfl rfl rfl hKl hX2 ?_; intro g9 c9 w9 O9 A9 p9; have D9 := Lib.hid (DI.out.push O9 A9 p9 (by rw [List.length_append]; simp only [List.length_singleton]; omega)); clear O9 A9 p9)
                      have T2 : Hid (Tel (tu (pos + 1)) L1 L2 (K ++ [(q1, q2, zz)]) q1 q2 zz) := hT.out.push E.out
                      go_roundw
                      case rel => exact ⟨pos + 1, L1, L2, A1, A2, c1, c2, K ++ [(q1, q2, zz)], _, _, q1, q2, zz, by omega, by rw [List.length_append]; simp only [List.length_singleton]; omega, by rw [List.length_append]; rfl, D9, T2⟩
                      case measure => rw [iterPos_of D9.out.it, iterPos_of hitH.out]; omega
                    · have hnl91 := l91
                      by_cases l93 : Lk = 93
                      · subst l93
                        clear l70 l71 l43 l45 l91
                        rcases List.eq_nil_or_concat K with rfl | ⟨K1, pk, rfl⟩
                        · have N : Hid (twOk PF s (can .f32 u) (can .f32 v) = false) := HNN.out (pos + 1) hlt (hT.out.popNo E.out)
                          go_wp2_with fail
                          go_ret
                          exact dwQ_no DI.out.bel N.out
                        · rw [List.concat_eq_append] at *
                          obtain ⟨sg, rfl, k0, k1⟩ := DI.out.st.last
                          have hkl : (K1 ++ [pk]).length = K1.length + 1 := by rw [List.length_append]; rfl
                          have DP := Lib.hid DI.out.pop
                          have T2 : Hid (Tel (tu (pos + 1)) L1 L2 K1 pk.1 pk.2.1 pk.2.2) := hT.out.pop E.out
                          have hk0 : (K1.length : Int) < ((K1.length + 1 : Nat) : Int) := by omega
                          have hwk : IntKind.i64.wrap (K1.length : Int) = (K1.length : Int) := IntWalk.i64_in _ (by omega)
                          have hnk : ¬ ((K1.length : Int) < 0) := by omega
                          clear hkl
                          have hcap : (K1.length : Int) ≤ (sc : Int) := by have := DP.out.st.capT; omega
                          have hk9 : (K1.length : Int) ≤ (K1.length : Int) + 1 := by omega
                          go_wp2_with fail
                          go_region
                          have IB : ButIn X (X + 1) wi ((wi.setCell ⟨X, 0, none⟩ (.complex .f32 pk.1 pk.2.1)).setCell ⟨X, 1, none⟩ (.float .f32 pk.2.2)) := ⟨rfl, rfl, rfl, by simp [World.setCell], fun j _ hd => by
                            rw [Below.heap_setCell _ _ _ _ (by show j ≠ X; omega), Below.heap_setCell _ _ _ _ (by show j ≠ X; omega)]⟩
                          have n01 : (⟨X, 0, none⟩ : Addr) ≠ ⟨X, 1, none⟩ := by intro h; injection h with _ h2 _; omega
                          have D2 := Lib.hid ((DP.out.setV (q1' := pk.1) (q2' := pk.2.1) (zz' := pk.2.2) IB (by rw [World.cell?_setCell_other _ _ _ _ n01.symm, World.cell?_setCell_same _ _ _ DP.out.v0]) (by rw [World.cell?_setCell_same _ _ _ (by rw [World.cell?_setCell_other _ _ _ _ n01]; exact DP.out.v1)]) (by rw [World.frozen?_setCell, World.frozen?_setCell]; exact DP.out.f0) (by rw [World.frozen?_setCell, World.frozen?_setCell]; exact DP.out.f1)).dn (n := 1))
                          have hkk : K1.length ≤ pos + 1 := by have := hKp; rw [List.length_append] at this; omega
                          clear IB n01
                          go_wp2_with fail
                          go_roundw
                          case rel => exact ⟨pos + 1, L1, L2, A1, A2, c1, c2, K1, some ⟨sg, 0, none⟩, sc, pk.1, pk.2.1, pk.2.2, by omega, hkk, rfl, D2, T2⟩
                          case measure =>
                            have hpi : (((wi.setCell ⟨X, 0, none⟩ (.complex .f32 pk.1 pk.2.1)).setCell ⟨X, 1, none⟩ (.float .f32 pk.2.2)).drew).heap[X + 1]? = some (.stringIter s (pos + 1)) := D2.out.it
                            rw [iterPos_of hpi, iterPos_of hitH.out]; omega
                      · have hnl93 := l93
                        have hb70 : (((Lk : Nat) : Int) == 70) = false := beq_eq_false_iff_ne.2 (by omega)
                        have hb71 : (((Lk : Nat) : Int) == 71) = false := beq_eq_false_iff_ne.2 (by omega)
                        have hb43 : (((Lk : Nat) : Int) == 43) = false := beq_eq_false_iff_ne.2 (by omega)
                        have hb45 : (((Lk : Nat) : Int) == 45) = false := beq_eq_false_iff_ne.2 (by omega)
                        have hb91 : (((Lk : Nat) : Int) == 91) = false := beq_eq_false_iff_ne.2 (by omega)
                        have hb93 : (((Lk : Nat) : Int) == 93) = false := beq_eq_false_iff_ne.2 (by omega)
                        have e2 : movB Lk = false := by unfold movB; rw [decide_eq_false l70, decide_eq_false l71]; rfl
                        have T2 : Hid (Tel (tu (pos + 1)) L1 L2 K q1 q2 zz) := hT.out.turn E.out l93 l91 e2 (by unfold trnO; rw [if_neg l43, if_neg l45])
                        clear l70 l71 l43 l45 l91 l93 e2 hnl70 hnl71 hnl43 hnl45 hnl91 hnl93
                        go_wp2_with fail
                        go_roundw
                        case rel => exact ⟨pos + 1, L1, L2, A1, A2, c1, c2, K, SA, sc, q1, q2, zz, by omega, by omega, rfl, DI, T2⟩
                        case measure => rw [iterPos_of DI.out.it, iterPos_of hitH.out]; omega
          · have hnx : ∀ ty, (Instr.next (.pointer (some ⟨X + 1, 0, none⟩)) true ty).run Try.prog wr = _ := fun ty => Lib.run_next_end_at wr (X + 1) s pos ty hit hlt
            obtain rfl : pos = s.size := by omega
            have HEE := Lib.hid (HEN.out L1 L2 K q1 q2 zz hT.out hD.out.hL2)
            go_wp2_with fail
            go_ret
            exact ⟨((K.length : Int) == 0), rfl, hD.out.bel, HEE.out.1.symm, fun hb => ⟨L1, L2, A1, A2, c1, c2, hD.out.ln, HEE.out.2 (List.length_eq_zero_iff.1 (by simpa using hb))⟩⟩
          --end
          end Go.Proofs.Ythhimielelpcoaa
