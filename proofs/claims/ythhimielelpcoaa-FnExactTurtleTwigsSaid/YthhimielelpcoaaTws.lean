/-
  What is proved here: TurtleTwigs of the model, as a walk. Conditions: a text that a machine can hold.
-/
import Derived.Test.YthhimielelpcoaaTwr
import Derived.Test.YthhimielelpcoaaTrs
namespace Go.Proofs.Ythhimielelpcoaa
open Flt Go.RowKit
set_option linter.unusedVariables false
set_option linter.unusedSimpArgs false

/-- what a function gives that returns two lists of complex numbers, and whether there are any -/
def K2P (L1 L2 : List (Nat × Nat)) (b : Bool) (w : World) (e : Ending) (w' : World) : Prop := ∃ A c B d l1 h1 l2 h2, e = .returned (.tuple #[.slice A L1.length c, .slice B L2.length d, .bool b]) ∧ Hid (RowCI w' l1 h1 A L1) ∧ Hid (RowCI w' l2 h2 B L2) ∧ (h1 ≤ l2 ∨ h2 ≤ l1) ∧ w.heap.size ≤ l1 ∧ w.heap.size ≤ l2 ∧ Hid (Below w.heap.size w w')
theorem k2p_no {L1 L2 : List (Nat × Nat)} {b : Bool} {w w' : World} (h1 : L1 = []) (h2 : L2 = []) (h3 : b = false) (h : Below w.heap.size w w') : K2P L1 L2 b w (.returned (.tuple #[.slice none 0 0, .slice none 0 0, .bool false])) w' := by
  subst h1 h2 h3
  exact ⟨none, 0, none, 0, w'.heap.size, w'.heap.size, w'.heap.size, w'.heap.size, rfl, RowCI.empty (Nat.le_refl _), RowCI.empty (Nat.le_refl _), .inl (Nat.le_refl _), h.size, h.size, h⟩
theorem GroC.one {w : World} {G c g : Nat} {L : List (Nat × Nat)} (h : GroC w G L (some ⟨g, 0, none⟩) c) : RowCI w g (g + 1) (some ⟨g, 0, none⟩) L := by
  have hl := h.lt _ rfl
  refine ⟨hl.2, fun a ha => by injection ha with ha; subst ha; exact ⟨Nat.le_refl _, Nat.lt_succ_self _⟩, fun h0 => ?_⟩
  obtain ⟨b, off, hA, h1, h2, hc, hf⟩ := h.rowCI.row h0
  injection hA with hA
  injection hA with e1 e2 _
  subst e1 e2
  exact ⟨g, 0, rfl, Nat.le_refl _, Nat.lt_succ_self _, hc, hf⟩
def wrd (M : List OC) : List (Nat × Nat) := M.map fun p => (p.1.getD 0, p.2.getD 0)
/-- the twigs' ends -/
def twF (PF : Option Nat → OC) (s : ByteArray) (T S : Option Nat) : List (Nat × Nat) := if twOk PF s T S = true then (match twA PF s T S s.size with | none => [] | some z => wrd z.fro) else []
def twT (PF : Option Nat → OC) (s : ByteArray) (T S : Option Nat) : List (Nat × Nat) := if twOk PF s T S = true then (match twA PF s T S s.size with | none => [] | some z => wrd z.to') else []
theorem twF_no {PF : Option Nat → OC} {s : ByteArray} {T S : Option Nat} (h : twOk PF s T S = false) : twF PF s T S = [] := by unfold twF; rw [h]; rfl
theorem twT_no {PF : Option Nat → OC} {s : ByteArray} {T S : Option Nat} (h : twOk PF s T S = false) : twT PF s T S = [] := by unfold twT; rw [h]; rfl

set_option maxHeartbeats 8000000 in
set_option maxRecDepth 1000000 in
theorem specTwg (PF : Option Nat → OC) (hPF : PhF PF) (s : ByteArray) (u v : Nat) (hs : s.size ≤ 9223372036854775807) (w : World) :
    Calls Try.prog 33 #[.string s, .float .f32 u, .float .f32 v] w (K2P (twF PF s (can .f32 u) (can .f32 v)) (twT PF s (can .f32 u) (can .f32 v)) (twOk PF s (can .f32 u) (can .f32 v)) w) := by
  have HWD := Lib.hid (fun W => specIsWord s hs W)
  have HFU := Lib.hid (fun W => specFin u W)
  have HFV := Lib.hid (fun W => specFin v W)
  have hfu := finO_can u
  have hfv := finO_can v
  cases h1 : wordB s 4000
  · have N : Hid (twOk PF s (can .f32 u) (can .f32 v) = false) := by show _ = _; unfold twOk; rw [h1]; rfl
    rw [h1] at HWD
    clear h1 hfu hfv HFU HFV
    go_enter Try.func33, Try.ntmps33
    go_wp2_with (go_at_call 78; refine (HWD.out _).mono ?_; rintro e w' ⟨rfl, rfl⟩)
    refine bodyPost_ret (v := .tuple #[.slice none 0 0, .slice none 0 0, .bool false]) (by simp [results, Try.results33, go_sem]) rfl ?_
    exact k2p_no (twF_no N.out) (twT_no N.out) N.out (Below.refl _ _)
  · rw [h1] at HWD
    cases h2 : finB .f32 u
    · have N : Hid (twOk PF s (can .f32 u) (can .f32 v) = false) := by show _ = _; unfold twOk; rw [h1, hfu, h2]; rfl
      rw [h2] at HFU
      clear h1 h2 hfu hfv HFV
      go_enter Try.func33, Try.ntmps33
      go_wp2_with (first | (go_at_call 78; refine (HWD.out _).mono ?_; rintro e w' ⟨rfl, rfl⟩) | (go_at_call 79; refine (HFU.out _).mono ?_; rintro e w' ⟨rfl, n, rfl⟩))
      refine bodyPost_ret (v := .tuple #[.slice none 0 0, .slice none 0 0, .bool false]) (by simp [results, Try.results33, go_sem]) rfl ?_
      exact k2p_no (twF_no N.out) (twT_no N.out) N.out below_dn
    · rw [h2] at HFU
      cases h3 : finB .f32 v
      · have N : Hid (twOk PF s (can .f32 u) (can .f32 v) = false) := by show _ = _; unfold twOk; rw [h1, hfu, h2, hfv, h3]; rfl
        rw [h3] at HFV
        clear h1 h2 h3 hfu hfv
        go_enter Try.func33, Try.ntmps33
        go_wp2_with (first | (go_at_call 78; refine (HWD.out _).mono ?_; rintro e w' ⟨rfl, rfl⟩) | (go_at_call 79; (with_reducible first | refine (HFU.out _).mono ?_ | refine (HFV.out _).mono ?_); rintro e w' ⟨rfl, n, rfl⟩))
        refine bodyPost_ret (v := .tuple #[.slice none 0 0, .slice none 0 0, .bool false]) (by simp [results, Try.results33, go_sem]) rfl ?_
        exact k2p_no (twF_no N.out) (twT_no N.out) N.out below_dn
      · rw [h3] at HFV
        have hz : s.size ≤ 4000 := by unfold wordB at h1; rw [Bool.and_eq_true] at h1; exact of_decide_eq_true h1.1
        have NOK : Hid (twOk PF s (can .f32 u) (can .f32 v) = (match twA PF s (can .f32 u) (can .f32 v) s.size with | none => false | some z => decide (z.rem = []) && decide (z.to'.length ≤ 256) && z.fro.all finC && z.to'.all finC)) := by show _ = _; unfold twOk; rw [h1, hfu, h2, hfv, h3]; rfl
        have O1 : ∀ k, Hid (R4 w.heap.size w (((((w.alloc (.cells #[] 113)).alloc (.cells #[] 113)).alloc (.cells #[] 113)).alloc (.cells #[] 43)).drewN k) w.heap.size 0 (w.heap.size + 1) 0 (w.heap.size + 2) 0 (w.heap.size + 3) 0 [] [] [] []) := fun k => by
          have s1 : (w.alloc (.cells #[] 113)).heap.size = w.heap.size + 1 := by simp
          have s2 : ((w.alloc (.cells #[] 113)).alloc (.cells #[] 113)).heap.size = w.heap.size + 2 := by simp
          have s3 : (((w.alloc (.cells #[] 113)).alloc (.cells #[] 113)).alloc (.cells #[] 113)).heap.size = w.heap.size + 3 := by simp
          have p1 := GroC.lit w (Nat.le_refl w.heap.size)
          have p2 := GroC.lit (w.alloc (.cells #[] 113)) (G := w.heap.size) (by rw [s1]; omega)
          have p3 := GroC.lit ((w.alloc (.cells #[] 113)).alloc (.cells #[] 113)) (G := w.heap.size) (by rw [s2]; omega)
          have p4 := GroE.lit (((w.alloc (.cells #[] 113)).alloc (.cells #[] 113)).alloc (.cells #[] 113)) (G := w.heap.size) (by rw [s3]; omega)
          rw [s1] at p2
          rw [s2] at p3
          rw [s3] at p4
          have b : ∀ (W : World) (o : Obj), Below W.heap.size W (W.alloc o) := fun W o => (Below.refl _ _).alloc (Nat.le_refl _) _
          have q1 := ((p1.below (b _ (.cells #[] 113))).below (b _ (.cells #[] 113))).below (b _ (.cells #[] 43))
          have q2 := (p2.below (b _ (.cells #[] 113))).below (b _ (.cells #[] 43))
          have q3 := p3.below (b _ (.cells #[] 43))
          exact ⟨q1.dn, q2.dn, q3.dn, p4, by omega, belowN ((((b w _).trans ((b _ _).mono (by rw [s1]; omega))).trans ((b _ _).mono (by rw [s2]; omega))).trans ((b _ _).mono (by rw [s3]; omega)))⟩
        have OO1 := Lib.hid O1
        have HST : Hid (∀ k, twA PF s (can .f32 u) (can .f32 v) (k + 1) = (twA PF s (can .f32 u) (can .f32 v) k).bind (twN PF (can .f32 u) (can .f32 v) (ltr s k))) := fun k => rfl
        have HNO : Hid (∀ k, k ≤ s.size → twA PF s (can .f32 u) (can .f32 v) k = none → twA PF s (can .f32 u) (can .f32 v) s.size = none) := fun k hk h => by
          have := twA_none h (s.size - k)
          rwa [show k + (s.size - k) = s.size by omega] at this
        have HPR : Hid (∀ k z', k ≤ s.size → twA PF s (can .f32 u) (can .f32 v) s.size = some z' → ∃ z M, twA PF s (can .f32 u) (can .f32 v) k = some z ∧ z'.to' = z.to' ++ M) := fun k z' hk h => by
          have := twA_pre (j := k) (s.size - k) z' (by rw [show k + (s.size - k) = s.size by omega]; exact h)
          exact this
        have S0 : Hid (twA PF s (can .f32 u) (can .f32 v) 0 = some ⟨some 0, (some 0, some 0), [], [], []⟩) := rfl
        have HC0 : Hid (can .f32 0 = some 0) := can_num (nanW_of_le (by decide))
        have HTR : Hid (∀ (L z : Nat) (W : World), L < 256 → Calls Try.prog 80 #[.int .u8 (L : Nat), .float .f32 z, .float .f32 u] W fun e w' => ∃ g, e = .returned (.float .f32 g) ∧ Hid (can .f32 g = trnO L (can .f32 z) (can .f32 u)) ∧ Hid (Below W.heap.size W w')) := fun L z W hL => (specTrn L z u hL W).mono fun e w' h => by
          obtain ⟨g, n, rfl, rfl, h3⟩ := h
          exact ⟨g, rfl, h3, below_dn⟩
        have HFW : Hid (∀ (a b z : Nat) (W : World), Calls Try.prog 82 #[.complex .f32 a b, .float .f32 z, .float .f32 v] W fun e w' => ∃ g h, e = .returned (.complex .f32 g h) ∧ Hid (can .f32 g = fwd (PF (can .f32 z)).1 (can .f32 a) (can .f32 v)) ∧ Hid (can .f32 h = fwd (PF (can .f32 z)).2 (can .f32 b) (can .f32 v)) ∧ Hid (Below W.heap.size W w')) := fun a b z W => (specFwd PF hPF a b z v W).mono fun e w' h => by
          obtain ⟨g, h, n, rfl, rfl, h3, h4⟩ := h
          exact ⟨g, h, rfl, h3, h4, below_dn⟩
        have HPT : Hid (∀ (A : Option Addr) (c : Nat) (L : List (Nat × Nat)) (W : World), RowC W W.heap.size A L → L.length ≤ 256 → Calls Try.prog 83 #[.slice A L.length c] W fun e w' => e = .returned (.bool (L.all cfT)) ∧ Hid (Below W.heap.size W w')) := fun A c L W hr hn => (specPts A c W.heap.size L W hr hn).mono fun e w' h => by
          obtain ⟨h1, n, rfl⟩ := h
          exact ⟨h1, below_dn⟩
        clear h1 h2 h3 hfu hfv O1 hPF
        go_enter Try.func33, Try.ntmps33
        go_wp2_with (first | (go_at_call 78; refine (HWD.out _).mono ?_; rintro e w' ⟨rfl, rfl⟩) | (go_at_call 79; (with_reducible first | refine (HFU.out _).mono ?_ | refine (HFV.out _).mono ?_); rintro e w' ⟨rfl, n, rfl⟩))
        generalize hTU : twA PF s (can .f32 u) (can .f32 v) = tu at *
        have HTU := Lib.hid hTU
        clear hTU
        go_loopw [9, 10, 11, 12, 13, 14, 15] (fun o1 o2 o3 o4 p zc i wr => ∃ (k : Nat) (z : TwS) (g1 c1 g2 c2 g3 c3 g4 c4 : Nat) (L1 L2 L3 : List (Nat × Nat)) (L4 : List Nat) (q1 q2 zz : Nat), k ≤ s.size ∧ o1 = .slice (some ⟨g1, 0, none⟩) L1.length c1 ∧ o2 = .slice (some ⟨g2, 0, none⟩) L2.length c2 ∧ o3 = .slice (some ⟨g3, 0, none⟩) L3.length c3 ∧ o4 = .slice (some ⟨g4, 0, none⟩) L4.length c4 ∧ p = .complex .f32 q1 q2 ∧ zc = .float .f32 zz ∧ i = .int .i64 k ∧ L1.length = L2.length ∧ L2.length ≤ 256 ∧ L3.length ≤ k ∧ L4.length = L3.length ∧ Hid (tu k = some z) ∧ Hid (can .f32 zz = z.now) ∧ Hid ((can .f32 q1, can .f32 q2) = z.at') ∧ Hid (L1.map canT = z.fro) ∧ Hid (L2.map canT = z.to') ∧ Hid (L3.map canT = z.rem.map (·.2)) ∧ Hid (L4.map (can .f32) = z.rem.map (·.1)) ∧ Hid (R4 w.heap.size w wr g1 c1 g2 c2 g3 c3 g4 c4 L1 L2 L3 L4)) (fun _ _ _ _ _ _ i _ => s.size - (intOf i).toNat)
        case atStart => exact ⟨0, _, w.heap.size, 0, w.heap.size + 1, 0, w.heap.size + 2, 0, w.heap.size + 3, 0, [], [], [], [], 0, 0, 0, Nat.zero_le _, rfl, rfl, rfl, rfl, rfl, rfl, rfl, rfl, by decide, by decide, rfl, S0.out, HC0.out, by show (_, _) = _; rw [HC0.out], rfl, rfl, rfl, rfl, OO1.out _⟩
        case round =>
          clear OO1
          obtain ⟨k, z, g1, c1, g2, c2, g3, c3, g4, c4, L1, L2, L3, L4, q1, q2, zz, hk, rfl, rfl, rfl, rfl, rfl, rfl, rfl, h12, h256, h3k, h43, hz1, hn, hq, hf, ht, hr3, hr4, hR⟩ := hrel
          have H12 := Lib.hid h12
          have H43 := Lib.hid h43
          clear h12 h43
          by_cases hlt : k < s.size
          · have hx := ltr_at hlt
            have hl256 := ltr_lt s k
            have hst := HST.out k
            rw [hz1.out] at hst
            have hGs : Hid (∀ W g1 c1 g2 c2 g3 c3 g4 c4 L1 L2 L3 L4, R4 w.heap.size w W g1 c1 g2 c2 g3 c3 g4 c4 L1 L2 L3 L4 → w.heap.size ≤ W.heap.size) := fun W g1 c1 g2 c2 g3 c3 g4 c4 L1 L2 L3 L4 h => h.bel.size
            have hng : ¬ ((256 : Int) < (L2.length : Int)) := by omega
            generalize ltr s k = Lk at *
            have HT := Lib.hid (fun W => HTR.out Lk zz W hl256)
            have HM := Lib.hid (fun W => specMov Lk W)
            have HS2 : Hid (tu (k + 1) = twN PF (can .f32 u) (can .f32 v) Lk z) := hst
            clear hst
            by_cases l91 : Lk = 91
            · subst l91
              have hl3 : L3.length ≤ 1048576 := by omega
              have hl4 : L4.length ≤ 1048576 := by have := H43.out; omega
              go_wp2_with (first
                | (go_at_call 80; refine (HT.out _).mono ?_; rintro e wj ⟨g0, rfl, hg0, hbj⟩; have RJ := Lib.hid (hR.out.below hbj.out); clear hbj)
                | (go_at_call 81; refine (HM.out _).mono ?_; rintro e w' ⟨rfl, rfl⟩)
                | (at_builtin; refine wpGroD rfl _ _ rfl (w0 := wj) (y := (q1, q2)) RJ.out.o3 rfl rfl rfl hl3 (hGs.out _ _ _ _ _ _ _ _ _ _ _ _ _ RJ.out) ?_; intro g5 c5 w5 O5 A5 p5; have R5 := Lib.hid (RJ.out.up3 O5 A5 (pos_is p5)); clear O5 A5 p5)
                | (at_builtin; refine wpGroE rfl _ _ rfl (w0 := w5) (y := g0) R5.out.o4 rfl rfl rfl hl4 (hGs.out _ _ _ _ _ _ _ _ _ _ _ _ _ R5.out) ?_; intro g6 c6 w6 O6 A6 p6; have R6 := Lib.hid (R5.out.up4 O6 A6 (pos_is p6)); clear O6 A6 p6))
              go_roundw
              case rel => exact ⟨k + 1, ⟨z.now, z.at', z.rem ++ [(z.now, z.at')], z.fro, z.to'⟩, g1, c1, g2, c2, g5, c5, g6, c6, L1, L2, L3 ++ [(q1, q2)], L4 ++ [g0], q1, q2, g0, by omega, rfl, rfl, by rw [List.length_append]; rfl, by rw [List.length_append]; rfl, rfl, rfl, by go_num, H12.out, h256, by rw [List.length_append]; simp only [List.length_singleton]; omega, by rw [List.length_append, List.length_append, H43.out]; rfl, HS2.out, by show _ = _; rw [hg0.out]; exact hn.out, hq, hf, ht, by show _ = _; rw [List.map_append, List.map_append, hr3.out]; show _ ++ [canT (q1, q2)] = _ ++ [z.at']; rw [← hq.out]; rfl, by show _ = _; rw [List.map_append, List.map_append, hr4.out]; show _ ++ [can .f32 g0] = _ ++ [z.now]; rw [hg0.out, ← hn.out]; rfl, R6⟩
              case measure => simp [intOf]; omega
            · by_cases l93 : Lk = 93
              · subst l93
                clear l91
                rcases List.eq_nil_or_concat z.rem with h0 | ⟨R, r, h0⟩
                · have hL3 : L3 = [] := by have h9 := hr3.out; rw [h0] at h9; exact List.map_eq_nil_iff.1 h9
                  subst hL3
                  have N : Hid (twOk PF s (can .f32 u) (can .f32 v) = false) := by
                    show _ = _
                    have h9 : tu (k + 1) = none := by rw [HS2.out]; unfold twN; rw [if_pos rfl, h0]; rfl
                    rw [NOK.out, HNO.out (k + 1) hlt h9]
                  clear h0
                  go_wp2_with (go_at_call 80; refine (HT.out _).mono ?_; rintro e wj ⟨g0, rfl, hg0, hbj⟩; have RJ := Lib.hid (hR.out.below hbj.out); clear hbj)
                  refine bodyPost_ret (v := .tuple #[.slice none 0 0, .slice none 0 0, .bool false]) (by simp [results, Try.results33, go_sem]) rfl ?_
                  exact k2p_no (twF_no N.out) (twT_no N.out) N.out RJ.out.bel
                · rw [List.concat_eq_append] at h0
                  rcases List.eq_nil_or_concat L3 with e3 | ⟨M3, x3, e3⟩
                  · exfalso
                    have h9 := hr3.out
                    rw [h0, e3, List.map_append] at h9
                    have := congrArg List.length h9
                    simp at this
                  · rw [List.concat_eq_append] at e3
                    subst e3
                    rcases List.eq_nil_or_concat L4 with e4 | ⟨M4, x4, e4⟩
                    · exfalso
                      have h9 := H43.out
                      rw [e4, List.length_append] at h9
                      simp at h9
                    · rw [List.concat_eq_append] at e4
                      subst e4
                      have t3 : M3.map canT = R.map (·.2) ∧ canT x3 = r.2 := by
                        have h9 := hr3.out
                        rw [h0, List.map_append, List.map_append] at h9
                        obtain ⟨a, b⟩ := List.append_inj' h9 rfl
                        injection b with b _
                        exact ⟨a, b⟩
                      have t4 : M4.map (can .f32) = R.map (·.1) ∧ can .f32 x4 = r.1 := by
                        have h9 := hr4.out
                        rw [h0, List.map_append, List.map_append] at h9
                        obtain ⟨a, b⟩ := List.append_inj' h9 rfl
                        injection b with b _
                        exact ⟨a, b⟩
                      have m43 : Hid (M4.length = M3.length) := by
                        have h9 := H43.out
                        rw [List.length_append, List.length_append] at h9
                        simp only [List.length_singleton] at h9
                        show _ = _
                        omega
                      have m3k : M3.length + 1 ≤ k := by rw [List.length_append] at h3k; exact h3k
                      have HS3 : Hid (tu (k + 1) = some ⟨r.1, r.2, R, z.fro, z.to'⟩) := by
                        show _ = _
                        rw [HS2.out]
                        unfold twN
                        rw [if_pos rfl, h0, List.getLast?_concat, List.dropLast_concat]; rfl
                      have hcap3 : (M3.length : Int) ≤ (c3 : Int) := by have := own_cap hR.out.pop.o3; omega
                      have hcap4 : (M3.length : Int) ≤ (c4 : Int) := by have := own_cap hR.out.pop.o4; have := m43.out; omega
                      have hwk : IntKind.i64.wrap (M3.length : Int) = (M3.length : Int) := IntWalk.i64_in _ (by omega)
                      have hk9 : (M3.length : Int) ≤ (M3.length : Int) + 1 := by omega
                      have hm4 : M4.length + 1 = M3.length + 1 := by rw [m43.out]
                      have T3 := Lib.hid t3
                      have T4 := Lib.hid t4
                      clear t3 t4 h0
                      go_wp2_with (first
                        | (go_at_call 80; refine (HT.out _).mono ?_; rintro e wj ⟨g0, rfl, hg0, hbj⟩; have RJ := Lib.hid (hR.out.below hbj.out); have k3 := RJ.out.o3.last; have k4 := RJ.out.o4.last; rw [m43.out] at k4; clear hbj)
                        | (go_at_call 81; refine (HM.out _).mono ?_; rintro e w' ⟨rfl, rfl⟩))
                      go_roundw
                      case rel => exact ⟨k + 1, _, g1, c1, g2, c2, g3, c3, g4, c4, L1, L2, M3, M4, x3.1, x3.2, x4, by omega, rfl, rfl, rfl, by rw [m43.out], rfl, rfl, by go_num, H12.out, h256, by omega, m43.out, HS3.out, T4.out.2, T3.out.2, hf, ht, T3.out.1, T4.out.1, RJ.out.pop⟩
                      case measure => simp [intOf]; omega
              · have hb91 : (((Lk : Nat) : Int) == 91) = false := beq_eq_false_iff_ne.2 (by omega)
                have hb93 : (((Lk : Nat) : Int) == 93) = false := beq_eq_false_iff_ne.2 (by omega)
                cases hmv : movB Lk
                · have HS3 : Hid (tu (k + 1) = some ⟨trnO Lk z.now (can .f32 u), z.at', z.rem, z.fro, z.to'⟩) := by
                    show _ = _
                    rw [HS2.out]
                    unfold twN
                    rw [if_neg l93, if_neg l91, hmv, if_neg (by decide)]
                  rw [hmv] at HM
                  clear hmv l91 l93
                  go_wp2_with (first
                    | (go_at_call 80; refine (HT.out _).mono ?_; rintro e wj ⟨g0, rfl, hg0, hbj⟩; have RJ := Lib.hid (hR.out.below hbj.out); clear hbj)
                    | (go_at_call 81; refine (HM.out _).mono ?_; rintro e w' ⟨rfl, rfl⟩))
                  go_roundw
                  case rel => exact ⟨k + 1, _, g1, c1, g2, c2, g3, c3, g4, c4, L1, L2, L3, L4, q1, q2, g0, by omega, rfl, rfl, rfl, rfl, rfl, rfl, by go_num, H12.out, h256, by omega, H43.out, HS3.out, by show _ = _; rw [hg0.out, hn.out], hq, hf, ht, hr3, hr4, RJ⟩
                  case measure => simp [intOf]; omega
                · have h743 : ¬ Lk = 43 ∧ ¬ Lk = 45 := by
                    unfold movB at hmv
                    rw [Bool.or_eq_true] at hmv
                    rcases hmv with h | h
                    · have := of_decide_eq_true h; omega
                    · have := of_decide_eq_true h; omega
                  have htn : ∀ x, trnO Lk x (can .f32 u) = x := fun x => by unfold trnO; rw [if_neg h743.1, if_neg h743.2]
                  have HS3 : Hid (tu (k + 1) = some ⟨z.now, (fwd (PF z.now).1 z.at'.1 (can .f32 v), fwd (PF z.now).2 z.at'.2 (can .f32 v)), z.rem, z.fro ++ [z.at'], z.to' ++ [(fwd (PF z.now).1 z.at'.1 (can .f32 v), fwd (PF z.now).2 z.at'.2 (can .f32 v))]⟩) := by
                    show _ = _
                    rw [HS2.out]
                    unfold twN
                    rw [if_neg l93, if_neg l91, if_pos hmv]
                  rw [hmv] at HM
                  have HTN := Lib.hid htn
                  have hl1 : L1.length ≤ 1048576 := by have := H12.out; omega
                  have hl2 : L2.length ≤ 1048576 := by omega
                  clear hmv l91 l93 h743 htn hng
                  by_cases hs6 : L2.length < 256
                  · have hng : ¬ ((256 : Int) < (L2.length : Int) + 1) := by omega
                    go_wp2_with (first
                      | (go_at_call 80; refine (HT.out _).mono ?_; rintro e wj ⟨g0, rfl, hg0, hbj⟩; have RJ := Lib.hid (hR.out.below hbj.out); clear hbj)
                      | (go_at_call 81; refine (HM.out _).mono ?_; rintro e w' ⟨rfl, rfl⟩)
                      | (go_at_call 82; refine (HFW.out _ _ _ _).mono ?_; rintro e wf ⟨g7, g8, rfl, e7, e8, hbf⟩; have RF := Lib.hid (R5.out.below hbf.out); clear hbf)
                      | (at_builtin; refine wpGroD rfl _ _ rfl (w0 := wj) (y := (q1, q2)) RJ.out.o1 rfl rfl rfl hl1 (hGs.out _ _ _ _ _ _ _ _ _ _ _ _ _ RJ.out) ?_; intro g5 c5 w5 O5 A5 p5; have R5 := Lib.hid (RJ.out.up1 O5 A5 (pos_is p5)); clear O5 A5 p5)
                      | (at_builtin; refine wpGroD rfl _ _ rfl (w0 := wf) (y := (g7, g8)) RF.out.o2 rfl rfl rfl hl2 (hGs.out _ _ _ _ _ _ _ _ _ _ _ _ _ RF.out) ?_; intro g9 c9 w9 O9 A9 p9; have R9 := Lib.hid (RF.out.up2 O9 A9 (pos_is p9)); clear O9 A9 p9))
                    have P9 : Hid (canT (g7, g8) = (fwd (PF z.now).1 z.at'.1 (can .f32 v), fwd (PF z.now).2 z.at'.2 (can .f32 v))) := by
                      show (can .f32 g7, can .f32 g8) = _
                      rw [e7.out, e8.out, hg0.out, HTN.out, hn.out, show can .f32 q1 = z.at'.1 by rw [← hq.out], show can .f32 q2 = z.at'.2 by rw [← hq.out]]
                    go_roundw
                    case rel => exact ⟨k + 1, _, g5, c5, g9, c9, g3, c3, g4, c4, L1 ++ [(q1, q2)], L2 ++ [(g7, g8)], L3, L4, g7, g8, g0, by omega, by rw [List.length_append]; rfl, by rw [List.length_append]; rfl, rfl, rfl, rfl, rfl, by go_num, by rw [List.length_append, List.length_append, H12.out]; rfl, by rw [List.length_append]; simp only [List.length_singleton]; omega, by omega, H43.out, HS3.out, by show _ = _; rw [hg0.out, HTN.out]; exact hn.out, P9.out, by show _ = _; rw [List.map_append, hf.out]; show _ ++ [canT (q1, q2)] = _ ++ [z.at']; rw [← hq.out]; rfl, by show _ = _; rw [List.map_append, ht.out]; show _ ++ [canT (g7, g8)] = _ ++ [_]; rw [P9.out], hr3, hr4, R9⟩
                    case measure => simp [intOf]; omega
                  · have hng : (256 : Int) < (L2.length : Int) + 1 := by omega
                    have N : Hid (twOk PF s (can .f32 u) (can .f32 v) = false) := by
                      show _ = _
                      rw [NOK.out]
                      cases hts : tu s.size with
                      | none => rfl
                      | some z9 =>
                        obtain ⟨z8, M, h8, h9⟩ := HPR.out (k + 1) z9 hlt hts
                        rw [HS3.out] at h8
                        injection h8 with h8
                        have hlen : ¬ z9.to'.length ≤ 256 := by
                          rw [h9, ← h8, ← ht.out]
                          simp only [List.length_append, List.length_map, List.length_singleton]
                          omega
                        show (decide (z9.rem = []) && decide (z9.to'.length ≤ 256) && z9.fro.all finC && z9.to'.all finC) = false
                        rw [decide_eq_false hlen]; simp
                    go_wp2_with (first
                      | (go_at_call 80; refine (HT.out _).mono ?_; rintro e wj ⟨g0, rfl, hg0, hbj⟩; have RJ := Lib.hid (hR.out.below hbj.out); clear hbj)
                      | (go_at_call 81; refine (HM.out _).mono ?_; rintro e w' ⟨rfl, rfl⟩)
                      | (go_at_call 82; refine (HFW.out _ _ _ _).mono ?_; rintro e wf ⟨g7, g8, rfl, e7, e8, hbf⟩; have RF := Lib.hid (R5.out.below hbf.out); clear hbf)
                      | (at_builtin; refine wpGroD rfl _ _ rfl (w0 := wj) (y := (q1, q2)) RJ.out.o1 rfl rfl rfl hl1 (hGs.out _ _ _ _ _ _ _ _ _ _ _ _ _ RJ.out) ?_; intro g5 c5 w5 O5 A5 p5; have R5 := Lib.hid (RJ.out.up1 O5 A5 (pos_is p5)); clear O5 A5 p5)
                      | (at_builtin; refine wpGroD rfl _ _ rfl (w0 := wf) (y := (g7, g8)) RF.out.o2 rfl rfl rfl hl2 (hGs.out _ _ _ _ _ _ _ _ _ _ _ _ _ RF.out) ?_; intro g9 c9 w9 O9 A9 p9; have R9 := Lib.hid (RF.out.up2 O9 A9 (pos_is p9)); clear O9 A9 p9))
                    refine bodyPost_ret (v := .tuple #[.slice none 0 0, .slice none 0 0, .bool false]) (by simp [results, Try.results33, go_sem]) rfl ?_
                    exact k2p_no (twF_no N.out) (twT_no N.out) N.out R9.out.bel
          · obtain rfl : k = s.size := by omega
            have hl1 : L1.length ≤ 256 := by have := H12.out; omega
            have HP1 := Lib.hid (HPT.out _ c1 L1 wr hR.out.o1.rowCI.toRow hl1)
            have HP2 : Hid (∀ W, Below wr.heap.size wr W → Calls Try.prog 83 #[.slice (some ⟨g2, 0, none⟩) L2.length c2] W fun e w' => e = .returned (.bool (L2.all cfT)) ∧ Hid (Below W.heap.size W w')) := fun W hb => HPT.out _ c2 L2 W ((hR.out.below hb).o2.rowCI.toRow) h256
            have hfa1 := told_fin hf.out
            have hfa2 := told_fin ht.out
            have hto : z.to'.length = L2.length := by rw [← ht.out, List.length_map]
            have hrl : z.rem.length = L3.length := by have := congrArg List.length hr3.out; rw [List.length_map, List.length_map] at this; exact this.symm
            have NK : Hid (twOk PF s (can .f32 u) (can .f32 v) = (decide (L3.length = 0) && L1.all cfT && L2.all cfT)) := by
              show _ = _
              rw [NOK.out, hz1.out]
              show (decide (z.rem = []) && decide (z.to'.length ≤ 256) && z.fro.all (fun p => finO p.1 && finO p.2) && z.to'.all (fun p => finO p.1 && finO p.2)) = _
              rw [← hfa1, ← hfa2, hto, decide_eq_true h256, Bool.and_true]
              congr 2
              rw [decide_eq_decide]
              constructor
              · intro h; rw [← hrl, h]; rfl
              · intro h; exact List.length_eq_zero_iff.1 (by rw [hrl]; exact h)
            clear hfa1 hfa2 hto hrl
            by_cases hl3 : L3.length = 0
            · rw [decide_eq_true hl3] at NK
              obtain rfl : L3 = [] := List.length_eq_zero_iff.1 hl3
              clear hl3
              cases ha1 : L1.all cfT
              · rw [ha1] at HP1 NK
                have N : Hid (twOk PF s (can .f32 u) (can .f32 v) = false) := NK.out
                clear ha1
                go_wp2_with (go_at_call 83; refine HP1.out.mono ?_; rintro e wp ⟨rfl, hbp⟩)
                refine bodyPost_ret (v := .tuple #[.slice none 0 0, .slice none 0 0, .bool false]) (by simp [results, Try.results33, go_sem]) rfl ?_
                exact k2p_no (twF_no N.out) (twT_no N.out) N.out (hR.out.bel.trans (hbp.out.mono hR.out.bel.size))
              · have HA1 := Lib.hid ha1
                rw [ha1] at HP1 NK
                clear ha1
                cases ha2 : L2.all cfT
                · rw [ha2] at HP2 NK
                  have N : Hid (twOk PF s (can .f32 u) (can .f32 v) = false) := NK.out
                  clear ha2
                  go_wp2_with fail
                  refine HP1.out.mono ?_
                  rintro e wp ⟨rfl, hbp⟩
                  go_wp2_with fail
                  refine (HP2.out wp hbp.out).mono ?_
                  rintro e wq ⟨rfl, hbq⟩
                  go_wp2_with fail
                  refine bodyPost_ret (v := .tuple #[.slice none 0 0, .slice none 0 0, .bool false]) (by simp [results, Try.results33, go_sem]) rfl ?_
                  exact k2p_no (twF_no N.out) (twT_no N.out) N.out ((hR.out.below hbp.out).below hbq.out).bel
                · have HA2 := Lib.hid ha2
                  rw [ha2] at HP2 NK
                  have N : Hid (twOk PF s (can .f32 u) (can .f32 v) = true) := NK.out
                  have E1 : Hid (twF PF s (can .f32 u) (can .f32 v) = L1) := by
                    show _ = _
                    unfold twF
                    rw [N.out, if_pos rfl, HTU.out, hz1.out]
                    exact (told_word hf.out HA1.out).symm
                  have E2 : Hid (twT PF s (can .f32 u) (can .f32 v) = L2) := by
                    show _ = _
                    unfold twT
                    rw [N.out, if_pos rfl, HTU.out, hz1.out]
                    exact (told_word ht.out HA2.out).symm
                  clear ha2
                  go_wp2_with fail
                  refine HP1.out.mono ?_
                  rintro e wp ⟨rfl, hbp⟩
                  go_wp2_with fail
                  refine (HP2.out wp hbp.out).mono ?_
                  rintro e wq ⟨rfl, hbq⟩
                  have RQ := Lib.hid ((hR.out.below hbp.out).below hbq.out)
                  clear hbp hbq
                  go_wp2_with fail
                  refine bodyPost_ret (v := .tuple #[.slice (some ⟨g1, 0, none⟩) L1.length c1, .slice (some ⟨g2, 0, none⟩) L2.length c2, .bool true]) (by simp [results, Try.results33, go_sem]) rfl ?_
                  have hd := RQ.out.d.1
                  have hlo := RQ.out.lts.1
                  exact ⟨some ⟨g1, 0, none⟩, c1, some ⟨g2, 0, none⟩, c2, g1, g1 + 1, g2, g2 + 1, by rw [E1.out, E2.out, N.out], by rw [E1.out]; exact RQ.out.o1.one, by rw [E2.out]; exact RQ.out.o2.one, by omega, hlo.1, hlo.2.1, RQ.out.bel⟩
            · have hn3 : (0 : Int) < (L3.length : Int) := by omega
              have hn4 : 0 < L3.length := by omega
              have N : Hid (twOk PF s (can .f32 u) (can .f32 v) = false) := by show _ = _; rw [NK.out, decide_eq_false hl3]; rfl
              clear hl3
              go_wp2_with fail
              refine bodyPost_ret (v := .tuple #[.slice none 0 0, .slice none 0 0, .bool false]) (by simp [results, Try.results33, go_sem]) rfl ?_
              exact k2p_no (twF_no N.out) (twT_no N.out) N.out hR.out.bel
end Go.Proofs.Ythhimielelpcoaa
