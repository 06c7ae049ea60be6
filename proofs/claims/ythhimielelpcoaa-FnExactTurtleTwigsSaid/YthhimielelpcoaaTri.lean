/-
  What is proved here: the program's turtle, as it draws a line of a word (drawWord with TurtleLine's closure), as a walk. Conditions: a text that a machine can hold, a line behind a variable.
-/
import Derived.Test.YthhimielelpcoaaTrd
namespace Go.Proofs.Ythhimielelpcoaa
open Flt Go.RowKit
set_option linter.unusedVariables false
set_option linter.unusedSimpArgs false
attribute [local go_sem] run_store_float

theorem iterPos_of {w : World} {k p : Nat} {s : ByteArray} (h : w.heap[k]? = some (.stringIter s p)) : w.iterPos k = p := by simp [World.iterPos, h]
theorem ButIn.setT (w : World) (X k : Nat) (u : Value) : ButIn X (X + 1) w (w.setCell ⟨X, k, none⟩ u) := ⟨rfl, rfl, rfl, by simp [World.setCell], fun j _ hd => Below.heap_setCell _ _ _ _ (by show j ≠ X; omega)⟩
theorem run_store_cpx (P : Program) (w : World) (a : Addr) (m : Mode) (k : FloatKind) (b c : Nat) : (store a (.complex k b c) m).run P w = stored P w a (.complex k b c) m := run_store P w a _ m rfl
attribute [local go_sem] run_store_cpx

set_option maxHeartbeats 16000000 in
set_option maxRecDepth 1000000 in
theorem implDrw (PF : Option Nat → OC) (hPF : PhF PF) (s : ByteArray) (u v : Nat) (hs : s.size ≤ 9223372036854775807) (bx G lg0 lc0 : Nat) (w : World) (h : LnS w G bx [(0, 0)] lg0 lc0) (hG : G ≤ bx) :
    Calls Try.prog 84 #[.string s, .float .f32 u, .float .f32 v, .func (.func 85) #[] #[.pointer (some ⟨bx, 0, none⟩)]] w (DwP PF s (can .f32 u) (can .f32 v) bx G w) := by
  have HWD := Lib.hid (fun W => implIsWord s W)
  have HFU := Lib.hid (fun W => implFin u W)
  have HFV := Lib.hid (fun W => implFin v W)
  have hfu := finO_can u
  have hfv := finO_can v
  have hGw : G ≤ w.heap.size := by have := h.lt; omega
  have HH := Lib.hid h
  clear h
  cases h1 : wordB s 4000
  · have N : Hid (tlOk PF s (can .f32 u) (can .f32 v) = false) := by show _ = _; unfold tlOk; rw [h1]; rfl
    rw [h1] at HWD
    clear h1 hfu hfv HFU HFV
    go_enter Try.func84, Try.ntmps84
    go_wp2_with (go_at_call 128; refine (HWD.out _).mono ?_; rintro e w1 ⟨rfl, hb1⟩)
    go_ret
    exact dwP_no (hb1.mono hGw) fun _ => N.out
  · rw [h1] at HWD
    have hz : s.size ≤ 4000 := by unfold wordB at h1; rw [Bool.and_eq_true] at h1; exact of_decide_eq_true h1.1
    cases h2 : finB .f32 u
    · have N : Hid (tlOk PF s (can .f32 u) (can .f32 v) = false) := by show _ = _; unfold tlOk; rw [h1, hfu, h2]; rfl
      rw [h2] at HFU
      clear h1 h2 hfu hfv HFV
      go_enter Try.func84, Try.ntmps84
      go_wp2_with (first | (go_at_call 128; refine (HWD.out _).mono ?_; rintro e w1 ⟨rfl, hb1⟩) | (go_at_call 129; refine (HFU.out _).mono ?_; rintro e w' ⟨rfl, n, rfl⟩))
      go_ret
      exact dwP_no (belowN (hb1.mono hGw)) fun _ => N.out
    · rw [h2] at HFU
      cases h3 : finB .f32 v
      · have N : Hid (tlOk PF s (can .f32 u) (can .f32 v) = false) := by show _ = _; unfold tlOk; rw [h1, hfu, h2, hfv, h3]; rfl
        rw [h3] at HFV
        clear h1 h2 h3 hfu hfv
        go_enter Try.func84, Try.ntmps84
        go_wp2_with (first | (go_at_call 128; refine (HWD.out _).mono ?_; rintro e w1 ⟨rfl, hb1⟩) | (go_at_call 129; (with_reducible first | refine (HFU.out _).mono ?_ | refine (HFV.out _).mono ?_); rintro e w' ⟨rfl, n, rfl⟩))
        go_ret
        exact dwP_no (belowN (hb1.mono hGw)) fun _ => N.out
      · rw [h3] at HFV
        have HWB := Lib.hid h1
        have NOK : Hid (tlOk PF s (can .f32 u) (can .f32 v) = (nobB s s.size && decide ((tuA PF s (can .f32 u) (can .f32 v) s.size).2.2.length ≤ 256) && (tuA PF s (can .f32 u) (can .f32 v) s.size).2.2.all fun p => finO p.1 && finO p.2)) := by show _ = _; unfold tlOk; rw [h1, hfu, h2, hfv, h3]; simp
        have HST : Hid (∀ k, tuA PF s (can .f32 u) (can .f32 v) (k + 1) = (trnO (ltr s k) (tuA PF s (can .f32 u) (can .f32 v) k).1 (can .f32 u), (if movB (ltr s k) = true then ((fwd (PF (trnO (ltr s k) (tuA PF s (can .f32 u) (can .f32 v) k).1 (can .f32 u))).1 (tuA PF s (can .f32 u) (can .f32 v) k).2.1.1 (can .f32 v), fwd (PF (trnO (ltr s k) (tuA PF s (can .f32 u) (can .f32 v) k).1 (can .f32 u))).2 (tuA PF s (can .f32 u) (can .f32 v) k).2.1.2 (can .f32 v)), (tuA PF s (can .f32 u) (can .f32 v) k).2.2 ++ [(fwd (PF (trnO (ltr s k) (tuA PF s (can .f32 u) (can .f32 v) k).1 (can .f32 u))).1 (tuA PF s (can .f32 u) (can .f32 v) k).2.1.1 (can .f32 v), fwd (PF (trnO (ltr s k) (tuA PF s (can .f32 u) (can .f32 v) k).1 (can .f32 u))).2 (tuA PF s (can .f32 u) (can .f32 v) k).2.1.2 (can .f32 v))]) else ((tuA PF s (can .f32 u) (can .f32 v) k).2.1, (tuA PF s (can .f32 u) (can .f32 v) k).2.2)))) := fun k => rfl
        have HLE : Hid (∀ k, k ≤ s.size → (tuA PF s (can .f32 u) (can .f32 v) k).2.2.length ≤ (tuA PF s (can .f32 u) (can .f32 v) s.size).2.2.length) := fun k hk => by
          have := tuA_len (PF := PF) (s := s) (T := can .f32 u) (S := can .f32 v) (j := k) (s.size - k)
          rwa [show k + (s.size - k) = s.size by omega] at this
        have HAL : Hid (∀ k, k ≤ s.size → (tuA PF s (can .f32 u) (can .f32 v) s.size).2.2.all (fun p => finO p.1 && finO p.2) = true → (tuA PF s (can .f32 u) (can .f32 v) k).2.2.all (fun p => finO p.1 && finO p.2) = true) := fun k hk ha => by
          refine tuA_all (s.size - k) ?_
          rw [show k + (s.size - k) = s.size by omega]; exact ha
        have HNB : Hid (∀ k, k ≤ s.size → nobB s s.size = true → nobB s k = true) := fun k hk ha => by
          refine nobB_le (s.size - k) ?_
          rw [show k + (s.size - k) = s.size by omega]; exact ha
        have S0 : Hid (tuA PF s (can .f32 u) (can .f32 v) 0 = (some 0, (some 0, some 0), [(some 0, some 0)])) := rfl
        have c00 : can .f32 0 = some 0 := can_num (nanW_of_le (by decide))
        have HC0 := Lib.hid c00
        clear h1 h2 h3 hfu hfv c00
        go_enter Try.func84, Try.ntmps84
        go_upto_region 3 with (first | (go_at_call 128; refine (HWD.out _).mono ?_; rintro e w1 ⟨rfl, hb1⟩) | (go_at_call 129; (with_reducible first | refine (HFU.out _).mono ?_ | refine (HFV.out _).mono ?_); rintro e w' ⟨rfl, n, rfl⟩))
        have HB1 := Lib.hid hb1
        clear hb1
        generalize hTU : tuA PF s (can .f32 u) (can .f32 v) = tu at *
        have HTU := Lib.hid hTU
        clear hTU
        have L1 : LnS w1 G bx [(0, 0)] lg0 lc0 := HH.out.heap HB1.out.size (HB1.out.block _ HH.out.lt) (HB1.out.block _ (HH.out.own.lt _ rfl).2)
        have bA : Below w1.heap.size w1 (w1.alloc (.cells #[.complex .f32 0 0, .float .f32 0] 157)) := (Below.refl _ _).alloc (Nat.le_refl _) _
        have sA : (w1.alloc (.cells #[.complex .f32 0 0, .float .f32 0] 157)).heap.size = w1.heap.size + 1 := by simp
        have bB : Below (w1.alloc (.cells #[.complex .f32 0 0, .float .f32 0] 157)).heap.size (w1.alloc (.cells #[.complex .f32 0 0, .float .f32 0] 157)) ((w1.alloc (.cells #[.complex .f32 0 0, .float .f32 0] 157)).alloc (.stringIter s 0)) := (Below.refl _ _).alloc (Nat.le_refl _) _
        have bC : Below w1.heap.size w1 ((w1.alloc (.cells #[.complex .f32 0 0, .float .f32 0] 157)).alloc (.stringIter s 0)) := bA.trans (bB.mono (by rw [sA]; omega))
        have L2 : LnS ((w1.alloc (.cells #[.complex .f32 0 0, .float .f32 0] 157)).alloc (.stringIter s 0)) G bx [(0, 0)] lg0 lc0 := L1.heap bC.size (bC.block _ L1.lt) (bC.block _ (L1.own.lt _ rfl).2)
        have D0 : Hid (DwS tu s bx G w1.heap.size w ((w1.alloc (.cells #[.complex .f32 0 0, .float .f32 0] 157)).alloc (.stringIter s 0)) 0 0 [(0, 0)] lg0 lc0 [] none 0 0 0 0) := by
          refine ⟨?_, L2, GroT.nil _ _, .inl (L1.own.lt _ rfl).2, fun a ha => (by cases ha), ?_, ?_, ?_, ?_, (HB1.out.mono hGw).trans (bC.mono (by have := HB1.out.size; omega)), L1.lt, hG, by decide, by decide, fun _ => ⟨rfl, ?_, ?_, ?_, by decide⟩⟩
          · rw [← sA]; exact heap_alloc_new _ _
          · rw [bB.cell (p := ⟨w1.heap.size, 0, none⟩) (by rw [sA]; exact Nat.lt_succ_self _)]; simp [World.cell?, World.alloc, -World.alloc_eq]
          · rw [bB.cell (p := ⟨w1.heap.size, 1, none⟩) (by rw [sA]; exact Nat.lt_succ_self _)]; simp [World.cell?, World.alloc, -World.alloc_eq]
          · rw [bB.frozen (p := ⟨w1.heap.size, 0, none⟩) (by rw [sA]; exact Nat.lt_succ_self _)]; simp [World.frozen?, World.alloc, -World.alloc_eq]
          · rw [bB.frozen (p := ⟨w1.heap.size, 1, none⟩) (by rw [sA]; exact Nat.lt_succ_self _)]; simp [World.frozen?, World.alloc, -World.alloc_eq]
          · rw [HC0.out, S0.out]
          · rw [HC0.out, S0.out]
          · show [canT (0, 0)] = _; unfold canT; rw [HC0.out, S0.out]
        have D00 : Hid (∀ n, DwS tu s bx G w1.heap.size w (((w1.alloc (.cells #[.complex .f32 0 0, .float .f32 0] 157)).alloc (.stringIter s 0)).drewN n) 0 0 [(0, 0)] lg0 lc0 [] none 0 0 0 0) := fun n => D0.out.dn
        clear L1 bA sA bB bC L2 D0
        go_wp2_with fail
        generalize hX : w1.heap.size = X at *
        go_loopw [10] (fun r wr => ∃ (pos : Nat) (L : List (Nat × Nat)) (lg lc : Nat) (K : List TU) (SA : Option Addr) (sc q1 q2 zz : Nat), pos ≤ s.size ∧ K.length ≤ pos ∧ r = .slice SA K.length sc ∧ Hid (DwS tu s bx G X w wr pos pos L lg lc K SA sc q1 q2 zz)) (fun _ wr => s.size - wr.iterPos (X + 1))
        case atStart => exact ⟨0, [(0, 0)], lg0, lc0, [], none, 0, 0, 0, 0, Nat.zero_le _, Nat.le_refl _, rfl, D00.out _⟩
        case round =>
          clear D00 hX
          obtain ⟨pos, L, lg, lc, K, SA, sc, q1, q2, zz, hpos, hKp, rfl, hD⟩ := hrel
          have hit := hD.out.it
          have hitH := Lib.hid hit
          by_cases hlt : pos < s.size
          · have ha := wordB_atT HWB.out hlt
            have hnx : ∀ ty, (Instr.next (.pointer (some ⟨X + 1, 0, none⟩)) true ty).run Try.prog wr = _ := fun ty => Lib.run_next_ascii_at wr (X + 1) s pos ty hit hlt ha
            have hx0 := ltr_at hlt
            have DI := Lib.hid (hD.out.next (pos + 1))
            rw [hx0] at hnx ha
            have hx := hx0
            clear hx0 hit hD
            have hx : ltr s pos = ltr s pos := rfl
            generalize wr.iterAt (X + 1) s (pos + 1) = wi at *
            have v0 := DI.out.v0
            have v1 := DI.out.v1
            have f0 := DI.out.f0
            have f1 := DI.out.f1
            obtain ⟨Lk, hx⟩ : ∃ Lk, ltr s pos = Lk := ⟨_, rfl⟩
            rw [hx] at hnx ha
            have hst := HST.out pos
            rw [hx] at hst
            have HX := Lib.hid hx
            clear hx
            by_cases l70 : Lk = 70
            · subst l70
              have E := Lib.hid hst
              clear hst
              have HPH := Lib.hid (hPF zz)
              go_upto_region 13 with (first
                | ((with_reducible refine upon_wid ?_ ?_ ?_); rotate_left 2; intro r0 n0 hr0 e0; rotate_left 1; kernel_rfl; kernel_rfl)
                | (go_at_call 132; refine ((HPH.out _ (by assumption) (by exact (‹Hid (can .f64 _ = wid (can .f32 zz))›).out)).2 _).mono ?_; rintro e w2 ⟨g1, g2, n1, rfl, rfl, a1, a2⟩)
                | (go_at_call 131; refine (implScl _ _ _ _).mono ?_; rintro e w2 ⟨g3, g4, n2, rfl, rfl, a3, a4⟩)
                | (go_at_call 130; refine (implAdC _ _ _ _ _).mono ?_; rintro e w2 ⟨g5, g6, n3, rfl, rfl, a5, a6⟩))
              have P9 : Hid (nobB s pos = true → (tu (pos + 1)).2.1 = canT (g5, g6) ∧ (tu (pos + 1)).2.2 = (tu pos).2.2 ++ [canT (g5, g6)] ∧ (tu (pos + 1)).1 = (tu pos).1) := fun hn => by
                obtain ⟨t1, t2, t3, t4, t5⟩ := DI.out.tell hn
                have e9 : canT (g5, g6) = (fwd (PF (trnO 70 (tu pos).1 (can .f32 u))).1 (tu pos).2.1.1 (can .f32 v), fwd (PF (trnO 70 (tu pos).1 (can .f32 u))).2 (tu pos).2.1.2 (can .f32 v)) := by
                  show (can .f32 g5, can .f32 g6) = _
                  rw [a5.out, a6.out, a3.out, a4.out, a1.out, a2.out, t2, show can .f32 q1 = (tu pos).2.1.1 by rw [← t3], show can .f32 q2 = (tu pos).2.1.2 by rw [← t3]]
                  rfl
                rw [e9, E.out]
                exact ⟨rfl, rfl, rfl⟩
              have IB : ButIn X (X + 1) wi (wi.setCell ⟨X, 0, none⟩ (.complex .f32 g5 g6)) := ButIn.setT wi X 0 _
              have D2 : Hid (∀ n, DwS (fun _ => (can .f32 zz, (can .f32 g5, can .f32 g6), L.map canT)) s bx G X w (((wi.drewN (n0 + n1 + n2 + n3)).setCell ⟨X, 0, none⟩ (.complex .f32 g5 g6)).drewN n) (pos + 1) (pos + 1) L lg lc K SA sc g5 g6 zz) := fun n => ((DI.out.setV (pos' := pos + 1) IB (by rw [World.cell?_setCell_same _ _ _ DI.out.v0]) (by rw [World.cell?_setCell_other _ _ _ _ (by intro h; injection h with _ h2 _; omega)]; exact DI.out.v1) (by rw [World.frozen?_setCell]; exact DI.out.f0) (by rw [World.frozen?_setCell]; exact DI.out.f1) (fun hn => by
                obtain ⟨t1, t2, t3, t4, t5⟩ := DI.out.tell (nobB_pre hn).1
                exact ⟨t1, rfl, rfl, rfl, t5⟩)).dn (n := n0 + n1 + n2 + n3)).dn (n := n)
              have hGX : G ≤ X := by have h1 := DI.out.hg; have h2 := DI.out.hb; omega
              have hLL := DI.out.hL
              have TL := Lib.hid DI.out.tell
              have u0 : (wi.setCell ⟨X, 0, none⟩ (.complex .f32 g5 g6)).cell? ⟨X, 0, none⟩ = some (.complex .f32 g5 g6) := by rw [World.cell?_setCell_same _ _ _ DI.out.v0]
              clear IB a1 a2 a3 a4 a5 a6 E HPH
              cases hcf : cfT (g5, g6)
              · have HF : Hid (∀ W, Calls Try.prog 133 #[.complex .f32 g5 g6] W fun e w' => e = .returned (.bool false) ∧ ∃ n, w' = W.drewN n) := fun W => by have := implFinT (g5, g6) W; rwa [hcf] at this
                have N : Hid (nobB s s.size = true → tlOk PF s (can .f32 u) (can .f32 v) = false) := fun hn => by
                  obtain ⟨p1, p2, p3⟩ := P9.out (HNB.out pos hpos hn)
                  rw [NOK.out]
                  cases hal : (tu s.size).2.2.all (fun p => finO p.1 && finO p.2) with
                  | false => rw [Bool.and_false]
                  | true =>
                    have h9 := HAL.out (pos + 1) hlt hal
                    rw [p2, List.all_append, Bool.and_eq_true] at h9
                    have h8 : ([(g5, g6)].map canT).all (fun p => finO p.1 && finO p.2) = true := h9.2
                    rw [← told_fin (L := [(g5, g6)]) rfl, List.all_cons, hcf] at h8
                    cases h8
                clear hcf
                go_wp2_with (go_at_call 133; refine (HF.out _).mono ?_; rintro e w' ⟨rfl, n9, rfl⟩)
                go_ret
                exact dwP_no (D2.out _).bel N.out
              · have HF : Hid (∀ W, Calls Try.prog 133 #[.complex .f32 g5 g6] W fun e w' => e = .returned (.bool true) ∧ ∃ n, w' = W.drewN n) := fun W => by have := implFinT (g5, g6) W; rwa [hcf] at this
                have HCF := Lib.hid hcf
                clear hcf
                by_cases h256 : L.length < 256
                · have hd : decide (L.length + 1 ≤ 256) = true := decide_eq_true (by omega)
                  go_wp2_with (first
                    | (go_at_call 133; refine (HF.out _).mono ?_; rintro e w' ⟨rfl, n9, rfl⟩)
                    | (go_at_call 85; refine (cloLin bx G lg lc L q1 q2 g5 g6 _ (by exact (D2.out _).ln) hLL (by exact Nat.le_trans hGX (Nat.le_of_lt (Nat.lt_of_succ_lt (D2.out _).sz)))).mono ?_; rintro e w3 ⟨rfl, lg', lc', hln, hbl, hp⟩; rw [hd]))
                  have D3 : Hid (DwS tu s bx G X w w3 (pos + 1) (pos + 1) (L ++ [(g5, g6)]) lg' lc' K SA sc g5 g6 zz) := DwS.line (D2.out _) hln.out hbl.out hp (by rw [List.length_append]; simp only [List.length_singleton]; omega) (fun hn => by
                    obtain ⟨hn1, _⟩ := nobB_pre hn
                    obtain ⟨t1, t2, t3, t4, t5⟩ := TL.out hn1
                    obtain ⟨p1, p2, p3⟩ := P9.out hn1
                    exact ⟨t1, by rw [p3]; exact t2, p1.symm, by rw [List.map_append, t4, p2]; rfl, by rw [List.all_append, t5, List.all_cons, HCF.out]; rfl⟩)
                  go_roundw
                  case rel => exact ⟨pos + 1, L ++ [(g5, g6)], lg', lc', K, SA, sc, g5, g6, zz, by omega, by omega, rfl, D3⟩
                  case measure => rw [iterPos_of D3.out.it, iterPos_of hitH.out]; omega
                · have hd : decide (L.length + 1 ≤ 256) = false := decide_eq_false (by omega)
                  have N : Hid (nobB s s.size = true → tlOk PF s (can .f32 u) (can .f32 v) = false) := fun hn => by
                    have hn1 := HNB.out pos hpos hn
                    obtain ⟨t1, t2, t3, t4, t5⟩ := TL.out hn1
                    obtain ⟨p1, p2, p3⟩ := P9.out hn1
                    have h9 := HLE.out (pos + 1) hlt
                    rw [p2, List.length_append, ← t4, List.length_map] at h9
                    rw [NOK.out, decide_eq_false (by simp only [List.length_singleton] at h9; omega : ¬ (tu s.size).2.2.length ≤ 256)]; simp
                  go_wp2_with (first
                    | (go_at_call 133; refine (HF.out _).mono ?_; rintro e w' ⟨rfl, n9, rfl⟩)
                    | (go_at_call 85; refine (cloLin bx G lg lc L q1 q2 g5 g6 _ (by exact (D2.out _).ln) hLL (by exact Nat.le_trans hGX (Nat.le_of_lt (Nat.lt_of_succ_lt (D2.out _).sz)))).mono ?_; rintro e w3 ⟨rfl, lg', lc', hln, hbl, hp⟩; rw [hd]))
                  go_ret
                  have hlgG : G ≤ lg := (DI.out.ln.own.lt _ rfl).1
                  have hbxG := DI.out.hg
                  exact dwP_no (Below.trans (D2.out _).bel ⟨hbl.out.os, hbl.out.tape, hbl.out.output, hbl.out.size, fun k hk => hbl.out.block k (Nat.lt_of_lt_of_le hk (by exact Nat.le_trans hGX (Nat.le_of_lt (Nat.lt_of_succ_lt (D2.out _).sz)))) (by omega) (by omega)⟩) N.out
            · by_cases l71 : Lk = 71
              · subst l71
                clear l70
                have E := Lib.hid hst
                clear hst
                have HPH := Lib.hid (hPF zz)
                go_upto_region 13 with (first
                  | ((with_reducible refine upon_wid ?_ ?_ ?_); rotate_left 2; intro r0 n0 hr0 e0; rotate_left 1; kernel_rfl; kernel_rfl)
                  | (go_at_call 132; refine ((HPH.out _ (by assumption) (by exact (‹Hid (can .f64 _ = wid (can .f32 zz))›).out)).2 _).mono ?_; rintro e w2 ⟨g1, g2, n1, rfl, rfl, a1, a2⟩)
                  | (go_at_call 131; refine (implScl _ _ _ _).mono ?_; rintro e w2 ⟨g3, g4, n2, rfl, rfl, a3, a4⟩)
                  | (go_at_call 130; refine (implAdC _ _ _ _ _).mono ?_; rintro e w2 ⟨g5, g6, n3, rfl, rfl, a5, a6⟩))
                have P9 : Hid (nobB s pos = true → (tu (pos + 1)).2.1 = canT (g5, g6) ∧ (tu (pos + 1)).2.2 = (tu pos).2.2 ++ [canT (g5, g6)] ∧ (tu (pos + 1)).1 = (tu pos).1) := fun hn => by
                  obtain ⟨t1, t2, t3, t4, t5⟩ := DI.out.tell hn
                  have e9 : canT (g5, g6) = (fwd (PF (trnO 71 (tu pos).1 (can .f32 u))).1 (tu pos).2.1.1 (can .f32 v), fwd (PF (trnO 71 (tu pos).1 (can .f32 u))).2 (tu pos).2.1.2 (can .f32 v)) := by
                    show (can .f32 g5, can .f32 g6) = _
                    rw [a5.out, a6.out, a3.out, a4.out, a1.out, a2.out, t2, show can .f32 q1 = (tu pos).2.1.1 by rw [← t3], show can .f32 q2 = (tu pos).2.1.2 by rw [← t3]]
                    rfl
                  rw [e9, E.out]
                  exact ⟨rfl, rfl, rfl⟩
                have IB : ButIn X (X + 1) wi (wi.setCell ⟨X, 0, none⟩ (.complex .f32 g5 g6)) := ButIn.setT wi X 0 _
                have D2 : Hid (∀ n, DwS (fun _ => (can .f32 zz, (can .f32 g5, can .f32 g6), L.map canT)) s bx G X w (((wi.drewN (n0 + n1 + n2 + n3)).setCell ⟨X, 0, none⟩ (.complex .f32 g5 g6)).drewN n) (pos + 1) (pos + 1) L lg lc K SA sc g5 g6 zz) := fun n => ((DI.out.setV (pos' := pos + 1) IB (by rw [World.cell?_setCell_same _ _ _ DI.out.v0]) (by rw [World.cell?_setCell_other _ _ _ _ (by intro h; injection h with _ h2 _; omega)]; exact DI.out.v1) (by rw [World.frozen?_setCell]; exact DI.out.f0) (by rw [World.frozen?_setCell]; exact DI.out.f1) (fun hn => by
                  obtain ⟨t1, t2, t3, t4, t5⟩ := DI.out.tell (nobB_pre hn).1
                  exact ⟨t1, rfl, rfl, rfl, t5⟩)).dn (n := n0 + n1 + n2 + n3)).dn (n := n)
                have hGX : G ≤ X := by have h1 := DI.out.hg; have h2 := DI.out.hb; omega
                have hLL := DI.out.hL
                have TL := Lib.hid DI.out.tell
                have u0 : (wi.setCell ⟨X, 0, none⟩ (.complex .f32 g5 g6)).cell? ⟨X, 0, none⟩ = some (.complex .f32 g5 g6) := by rw [World.cell?_setCell_same _ _ _ DI.out.v0]
                clear IB a1 a2 a3 a4 a5 a6 E HPH
                cases hcf : cfT (g5, g6)
                · have HF : Hid (∀ W, Calls Try.prog 133 #[.complex .f32 g5 g6] W fun e w' => e = .returned (.bool false) ∧ ∃ n, w' = W.drewN n) := fun W => by have := implFinT (g5, g6) W; rwa [hcf] at this
                  have N : Hid (nobB s s.size = true → tlOk PF s (can .f32 u) (can .f32 v) = false) := fun hn => by
                    obtain ⟨p1, p2, p3⟩ := P9.out (HNB.out pos hpos hn)
                    rw [NOK.out]
                    cases hal : (tu s.size).2.2.all (fun p => finO p.1 && finO p.2) with
                    | false => rw [Bool.and_false]
                    | true =>
                      have h9 := HAL.out (pos + 1) hlt hal
                      rw [p2, List.all_append, Bool.and_eq_true] at h9
                      have h8 : ([(g5, g6)].map canT).all (fun p => finO p.1 && finO p.2) = true := h9.2
                      rw [← told_fin (L := [(g5, g6)]) rfl, List.all_cons, hcf] at h8
                      cases h8
                  clear hcf
                  go_wp2_with (go_at_call 133; refine (HF.out _).mono ?_; rintro e w' ⟨rfl, n9, rfl⟩)
                  go_ret
                  exact dwP_no (D2.out _).bel N.out
                · have HF : Hid (∀ W, Calls Try.prog 133 #[.complex .f32 g5 g6] W fun e w' => e = .returned (.bool true) ∧ ∃ n, w' = W.drewN n) := fun W => by have := implFinT (g5, g6) W; rwa [hcf] at this
                  have HCF := Lib.hid hcf
                  clear hcf
                  by_cases h256 : L.length < 256
                  · have hd : decide (L.length + 1 ≤ 256) = true := decide_eq_true (by omega)
                    go_wp2_with (first
                      | (go_at_call 133; refine (HF.out _).mono ?_; rintro e w' ⟨rfl, n9, rfl⟩)
                      | (go_at_call 85; refine (cloLin bx G lg lc L q1 q2 g5 g6 _ (by exact (D2.out _).ln) hLL (by exact Nat.le_trans hGX (Nat.le_of_lt (Nat.lt_of_succ_lt (D2.out _).sz)))).mono ?_; rintro e w3 ⟨rfl, lg', lc', hln, hbl, hp⟩; rw [hd]))
                    have D3 : Hid (DwS tu s bx G X w w3 (pos + 1) (pos + 1) (L ++ [(g5, g6)]) lg' lc' K SA sc g5 g6 zz) := DwS.line (D2.out _) hln.out hbl.out hp (by rw [List.length_append]; simp only [List.length_singleton]; omega) (fun hn => by
                      obtain ⟨hn1, _⟩ := nobB_pre hn
                      obtain ⟨t1, t2, t3, t4, t5⟩ := TL.out hn1
                      obtain ⟨p1, p2, p3⟩ := P9.out hn1
                      exact ⟨t1, by rw [p3]; exact t2, p1.symm, by rw [List.map_append, t4, p2]; rfl, by rw [List.all_append, t5, List.all_cons, HCF.out]; rfl⟩)
                    go_roundw
                    case rel => exact ⟨pos + 1, L ++ [(g5, g6)], lg', lc', K, SA, sc, g5, g6, zz, by omega, by omega, rfl, D3⟩
                    case measure => rw [iterPos_of D3.out.it, iterPos_of hitH.out]; omega
                  · have hd : decide (L.length + 1 ≤ 256) = false := decide_eq_false (by omega)
                    have N : Hid (nobB s s.size = true → tlOk PF s (can .f32 u) (can .f32 v) = false) := fun hn => by
                      have hn1 := HNB.out pos hpos hn
                      obtain ⟨t1, t2, t3, t4, t5⟩ := TL.out hn1
                      obtain ⟨p1, p2, p3⟩ := P9.out hn1
                      have h9 := HLE.out (pos + 1) hlt
                      rw [p2, List.length_append, ← t4, List.length_map] at h9
                      rw [NOK.out, decide_eq_false (by simp only [List.length_singleton] at h9; omega : ¬ (tu s.size).2.2.length ≤ 256)]; simp
                    go_wp2_with (first
                      | (go_at_call 133; refine (HF.out _).mono ?_; rintro e w' ⟨rfl, n9, rfl⟩)
                      | (go_at_call 85; refine (cloLin bx G lg lc L q1 q2 g5 g6 _ (by exact (D2.out _).ln) hLL (by exact Nat.le_trans hGX (Nat.le_of_lt (Nat.lt_of_succ_lt (D2.out _).sz)))).mono ?_; rintro e w3 ⟨rfl, lg', lc', hln, hbl, hp⟩; rw [hd]))
                    go_ret
                    have hlgG : G ≤ lg := (DI.out.ln.own.lt _ rfl).1
                    have hbxG := DI.out.hg
                    exact dwP_no (Below.trans (D2.out _).bel ⟨hbl.out.os, hbl.out.tape, hbl.out.output, hbl.out.size, fun k hk => hbl.out.block k (Nat.lt_of_lt_of_le hk (by exact Nat.le_trans hGX (Nat.le_of_lt (Nat.lt_of_succ_lt (D2.out _).sz)))) (by omega) (by omega)⟩) N.out
              · by_cases l43 : Lk = 43
                · subst l43
                  clear l70 l71
                  have E := Lib.hid hst
                  clear hst
                  go_wp2_with ((with_reducible refine upon_bin rfl ?_); intro r1 n1 _ e1)
                  have IB : ButIn X (X + 1) wi (wi.setCell ⟨X, 1, none⟩ (.float .f32 r1)) := ButIn.setT wi X 1 _
                  have D2 := Lib.hid ((DI.out.setV (tu := tu) (pos' := pos + 1) (q1' := q1) (q2' := q2) (zz' := r1) IB (by rw [World.cell?_setCell_other _ _ _ _ (by intro h; injection h with _ h2 _; omega)]; exact DI.out.v0) (by rw [World.cell?_setCell_same _ _ _ DI.out.v1]) (by rw [World.frozen?_setCell]; exact DI.out.f0) (by rw [World.frozen?_setCell]; exact DI.out.f1) (fun hn => by
                    obtain ⟨t1, t2, t3, t4, t5⟩ := DI.out.tell (nobB_pre hn).1
                    refine ⟨t1, ?_, ?_, ?_, t5⟩
                    · rw [E.out, e1.out, t2]; rfl
                    · rw [E.out]; exact t3
                    · rw [E.out]; exact t4)).dn (n := n1))
                  have hpi : ((wi.drewN n1).setCell ⟨X, 1, none⟩ (.float .f32 r1)).heap[X + 1]? = some (.stringIter s (pos + 1)) := D2.out.it
                  go_roundw
                  case rel => exact ⟨pos + 1, L, lg, lc, K, SA, sc, q1, q2, r1, by omega, by omega, rfl, D2⟩
                  case measure => rw [iterPos_of hpi, iterPos_of hitH.out]; omega
                · by_cases l45 : Lk = 45
                  · subst l45
                    clear l70 l71 l43
                    have E := Lib.hid hst
                    clear hst
                    go_wp2_with ((with_reducible refine upon_bin rfl ?_); intro r1 n1 _ e1)
                    have IB : ButIn X (X + 1) wi (wi.setCell ⟨X, 1, none⟩ (.float .f32 r1)) := ButIn.setT wi X 1 _
                    have D2 := Lib.hid ((DI.out.setV (tu := tu) (pos' := pos + 1) (q1' := q1) (q2' := q2) (zz' := r1) IB (by rw [World.cell?_setCell_other _ _ _ _ (by intro h; injection h with _ h2 _; omega)]; exact DI.out.v0) (by rw [World.cell?_setCell_same _ _ _ DI.out.v1]) (by rw [World.frozen?_setCell]; exact DI.out.f0) (by rw [World.frozen?_setCell]; exact DI.out.f1) (fun hn => by
                      obtain ⟨t1, t2, t3, t4, t5⟩ := DI.out.tell (nobB_pre hn).1
                      refine ⟨t1, ?_, ?_, ?_, t5⟩
                      · rw [E.out, e1.out, t2]; rfl
                      · rw [E.out]; exact t3
                      · rw [E.out]; exact t4)).dn (n := n1))
                    have hpi : ((wi.drewN n1).setCell ⟨X, 1, none⟩ (.float .f32 r1)).heap[X + 1]? = some (.stringIter s (pos + 1)) := D2.out.it
                    go_roundw
                    case rel => exact ⟨pos + 1, L, lg, lc, K, SA, sc, q1, q2, r1, by omega, by omega, rfl, D2⟩
                    case measure => rw [iterPos_of hpi, iterPos_of hitH.out]; omega
                  · by_cases l91 : Lk = 91
                    · subst l91
                      clear l70 l71 l43 l45 hst
                      have hbk : nobB s (pos + 1) = false := nobB_no (Nat.lt_succ_self pos) (by rw [HX.out]; rfl)
                      have HBK := Lib.hid hbk
                      clear hbk
                      have hsz := DI.out.sz
                      have hKl : K.length ≤ 1048576 := by omega
                      have hX2 : X + 2 ≤ wi.heap.size := hsz
                      go_wp2_with (at_builtin; refine wpGroT rfl _ _ rfl (w0 := wi) (p := (q1, q2, zz)) DI.out.st rfl rfl rfl hKl hX2 ?_; intro g9 c9 w9 O9 A9 p9; have D9 := Lib.hid (DI.out.push (pos' := pos + 1) O9 A9 p9 (by rw [List.length_append]; simp only [List.length_singleton]; omega) (fun hn => by rw [HBK.out] at hn; cases hn)); clear O9 A9 p9)
                      go_roundw
                      case rel => exact ⟨pos + 1, L, lg, lc, K ++ [(q1, q2, zz)], _, _, q1, q2, zz, by omega, by rw [List.length_append]; simp only [List.length_singleton]; omega, by rw [List.length_append]; rfl, D9⟩
                      case measure => rw [iterPos_of D9.out.it, iterPos_of hitH.out]; omega
                    · by_cases l93 : Lk = 93
                      · subst l93
                        clear l70 l71 l43 l45 l91 hst
                        have hbk : nobB s (pos + 1) = false := nobB_no (Nat.lt_succ_self pos) (by rw [HX.out]; rfl)
                        have HBK := Lib.hid hbk
                        have HBN : Hid (nobB s s.size = true → False) := fun hn => by
                          have := nobB_at hn hlt
                          rw [HX.out] at this
                          cases this
                        clear hbk
                        rcases List.eq_nil_or_concat K with rfl | ⟨K1, pk, rfl⟩
                        · go_wp2_with fail
                          go_ret
                          exact dwP_no DI.out.bel fun hn => (HBN.out hn).elim
                        · rw [List.concat_eq_append] at *
                          obtain ⟨sg, rfl, k0, k1⟩ := DI.out.st.last
                          have hkl : (K1 ++ [pk]).length = K1.length + 1 := by rw [List.length_append]; rfl
                          have DP := Lib.hid (DI.out.pop (fun hn => (by have := (DI.out.tell hn).1; exact absurd (congrArg List.length this) (by rw [List.length_append]; simp))))
                          have hk0 : (K1.length : Int) < ((K1.length + 1 : Nat) : Int) := by omega
                          have hwk : IntKind.i64.wrap (K1.length : Int) = (K1.length : Int) := IntWalk.i64_in _ (by omega)
                          have hnk : ¬ ((K1.length : Int) < 0) := by omega
                          clear hkl
                          have hcap : (K1.length : Int) ≤ (sc : Int) := by have := DP.out.st.capT; omega
                          have hk9 : (K1.length : Int) ≤ (K1.length : Int) + 1 := by omega
                          go_wp2_with fail
                          go_region
                          have IB : ButIn X (X + 1) wi ((wi.setCell ⟨X, 0, none⟩ (.complex .f32 pk.1 pk.2.1)).setCell ⟨X, 1, none⟩ (.float .f32 pk.2.2)) := ⟨rfl, rfl, rfl, by simp [World.setCell], fun j _ hd => by
                            rw [Below.heap_setCell _ _ _ _ (by show j ≠ X; omega), Below.heap_setCell _ _ _ _ (by show j ≠ X; omega)]⟩
                          have n01 : (⟨X, 0, none⟩ : Addr) ≠ ⟨X, 1, none⟩ := by intro h; injection h with _ h2 _; omega
                          have D2 := Lib.hid ((DP.out.setV (tu := tu) (pos' := pos + 1) (q1' := pk.1) (q2' := pk.2.1) (zz' := pk.2.2) IB (by rw [World.cell?_setCell_other _ _ _ _ n01.symm, World.cell?_setCell_same _ _ _ DP.out.v0]) (by rw [World.cell?_setCell_same _ _ _ (by rw [World.cell?_setCell_other _ _ _ _ n01]; exact DP.out.v1)]) (by rw [World.frozen?_setCell, World.frozen?_setCell]; exact DP.out.f0) (by rw [World.frozen?_setCell, World.frozen?_setCell]; exact DP.out.f1) (fun hn => by rw [HBK.out] at hn; cases hn)).dn (n := 1))
                          have hkk : K1.length ≤ pos + 1 := by have := hKp; rw [List.length_append] at this; omega
                          clear IB n01
                          go_wp2_with fail
                          go_roundw
                          case rel => exact ⟨pos + 1, L, lg, lc, K1, some ⟨sg, 0, none⟩, sc, pk.1, pk.2.1, pk.2.2, by omega, hkk, rfl, D2⟩
                          case measure =>
                            have hpi : (((wi.setCell ⟨X, 0, none⟩ (.complex .f32 pk.1 pk.2.1)).setCell ⟨X, 1, none⟩ (.float .f32 pk.2.2)).drew).heap[X + 1]? = some (.stringIter s (pos + 1)) := D2.out.it
                            rw [iterPos_of hpi, iterPos_of hitH.out]; omega
                      · have hb70 : (((Lk : Nat) : Int) == 70) = false := beq_eq_false_iff_ne.2 (by omega)
                        have hb71 : (((Lk : Nat) : Int) == 71) = false := beq_eq_false_iff_ne.2 (by omega)
                        have hb43 : (((Lk : Nat) : Int) == 43) = false := beq_eq_false_iff_ne.2 (by omega)
                        have hb45 : (((Lk : Nat) : Int) == 45) = false := beq_eq_false_iff_ne.2 (by omega)
                        have hb91 : (((Lk : Nat) : Int) == 91) = false := beq_eq_false_iff_ne.2 (by omega)
                        have hb93 : (((Lk : Nat) : Int) == 93) = false := beq_eq_false_iff_ne.2 (by omega)
                        have e2 : movB Lk = false := by unfold movB; rw [decide_eq_false l70, decide_eq_false l71]; rfl
                        rw [e2, show trnO Lk (tu pos).1 (can .f32 u) = (tu pos).1 by unfold trnO; rw [if_neg l43, if_neg l45]] at hst
                        have E := Lib.hid hst
                        have D2 : Hid (DwS tu s bx G X w wi (pos + 1) (pos + 1) L lg lc K SA sc q1 q2 zz) := DI.out.setV (tu := tu) (pos' := pos + 1) (ButIn.refl X (X + 1) wi) DI.out.v0 DI.out.v1 DI.out.f0 DI.out.f1 (fun hn => by
                          obtain ⟨t1, t2, t3, t4, t5⟩ := DI.out.tell (nobB_pre hn).1
                          refine ⟨t1, ?_, ?_, ?_, t5⟩
                          · rw [E.out]; exact t2
                          · rw [E.out]; exact t3
                          · rw [E.out]; exact t4)
                        clear l70 l71 l43 l45 l91 l93 e2 hst
                        go_wp2_with fail
                        go_roundw
                        case rel => exact ⟨pos + 1, L, lg, lc, K, SA, sc, q1, q2, zz, by omega, by omega, rfl, D2⟩
                        case measure => rw [iterPos_of D2.out.it, iterPos_of hitH.out]; omega
          · have hnx : ∀ ty, (Instr.next (.pointer (some ⟨X + 1, 0, none⟩)) true ty).run Try.prog wr = _ := fun ty => Lib.run_next_end_at wr (X + 1) s pos ty hit hlt
            obtain rfl : pos = s.size := by omega
            have HK1 : Hid ((K.length == 0) = true → K = []) := fun h => List.length_eq_zero_iff.1 (by simpa using h)
            go_wp2_with fail
            go_ret
            refine ⟨((K.length : Int) == 0), rfl, hD.out.bel, fun hn => ?_, fun hb => ⟨HWB.out, L, lg, lc, hD.out.ln, fun hn => ?_⟩⟩
            · obtain ⟨t1, t2, t3, t4, t5⟩ := hD.out.tell hn
              rw [NOK.out, hn, ← t4, List.length_map, decide_eq_true hD.out.hL, ← told_fin (L := L) rfl, t5, t1]; rfl
            · obtain ⟨t1, t2, t3, t4, t5⟩ := hD.out.tell hn
              rw [HTU.out]
              exact ⟨t4, t5⟩
end Go.Proofs.Ythhimielelpcoaa
