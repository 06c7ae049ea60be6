/-
  What is proved here: FlipCells of the reference, where the field is valid, as a walk. Conditions: at most 1048576 cells and numbers.
-/
import Derived.Test.YtjojhklbikgfoaaFfl
namespace Go.Proofs.Ytjojhklbikgfoaa
open Go.RowKit
attribute [local go_sem] run_store_bool
set_option linter.unusedVariables false

set_option maxHeartbeats 16000000 in
set_option maxRecDepth 100000 in
theorem specFl (x y : Int) (A : Option Addr) (n c : Nat) (p : Nat → Bool) (Z : Option Addr) (d : Nat) (z : List Int) (w : World) (hr : RowV w w.heap.size A n (bo p)) (hq : RowV w w.heap.size Z z.length (iv (atI z))) (hn : n ≤ 1048576) (hz : z.length ≤ 1048576) (hv : fvB x y n = true) (hs : setB z n = true) :
    Calls Try.prog 15 #[.agg #[.int .i64 x, .int .i64 y, .slice A n c], .slice Z z.length d] w fun e w' => ∃ A' c', e = .returned (.tuple #[.agg #[.int .i64 x, .int .i64 y, .slice A' n c'], .bool true]) ∧ Hid (RowW w' w.heap.size w'.heap.size A' n (bo (flF p z z.length))) ∧ Hid (Below w.heap.size w w') := by
  have hn1 := (fvB_yes hv).2.2.1
  have hn2 := (fvB_yes hv).2.2.2
  have HOK : Hid (∀ t, t < z.length → okC z n t = true) := fun t ht => setB_at hs ht
  have B1 := below_var w x y A n c 27
  have V0 := varT_new w x y A n c 27
  have hsz : (w.alloc (.cells #[.int .i64 x, .int .i64 y, .slice A n c] 27)).heap.size = w.heap.size + 1 := by simp
  have B2 := below_var (w.alloc (.cells #[.int .i64 x, .int .i64 y, .slice A n c] 27)) 0 0 none 0 0 27
  have V1 := V0.below B2
  obtain ⟨d0, d1, d2, f0, f1, f2⟩ := fresh3 (w.alloc (.cells #[.int .i64 x, .int .i64 y, .slice A n c] 27)) (.int .i64 0) (.int .i64 0) (.slice none 0 0) 27
  rw [hsz] at d0 d1 d2 f0 f1 f2
  have hlt2 : w.heap.size + 1 < ((w.alloc (.cells #[.int .i64 x, .int .i64 y, .slice A n c] 27)).alloc (.cells #[.int .i64 0, .int .i64 0, .slice none 0 0] 27)).heap.size := by simp
  have HB := Lib.hid (B1.trans (B2.mono B1.size))
  have HV1 := Lib.hid V1
  have HRES := Lib.hid (And.intro d0 (And.intro d1 (And.intro d2 (And.intro f0 (And.intro f1 f2)))))
  have HC := Lib.hid (specIs w.heap.size x y A n c _ V1 hn)
  rw [hv] at HC
  have HOWN := Lib.hid (fun W V h => own_is w.heap.size x y A c n p W V h (by omega) hn)
  have HR := Lib.hid hr
  have HQ := Lib.hid hq
  clear hr hq hv hs V0 V1 B1 B2 d0 d1 d2 f0 f1 f2 hsz
  go_enter Try.func15, Try.ntmps15
  go_wp2_with fail
  generalize ((w.alloc (.cells #[.int .i64 x, .int .i64 y, .slice A n c] 27)).alloc (.cells #[.int .i64 0, .int .i64 0, .slice none 0 0] 27)) = b at *
  refine HC.out.mono ?_
  rintro e w1 ⟨rfl, m, rfl⟩
  have HK1 : Hid (Below b.heap.size b (b.drewN m)) := belowN (Below.refl _ _)
  generalize b.drewN m = w2 at *
  have HB2 := Lib.hid (HB.out.trans (HK1.out.mono HB.out.size))
  have V2 := Lib.hid (HV1.out.below HK1.out)
  clear HC
  go_wp2_with fail
  refine (HOWN.out w2 V2.out ((HR.out.below HB2.out).mono HB2.out.size)).mono ?_
  rintro e w3 ⟨g, cg, rfl, hRG, hb3⟩
  have HB3 := Lib.hid (HB2.out.trans (hb3.out.mono HB2.out.size))
  have HK3 := Lib.hid (HK1.out.trans (hb3.out.mono HK1.out.size))
  have V3 := V2.out.below hb3.out
  have hbv := below_var w3 x y (some ⟨g, 0, none⟩) n cg 27
  have VF := Lib.hid (varT_new w3 x y (some ⟨g, 0, none⟩) n cg 27)
  have VA := Lib.hid (V3.below hbv)
  have HK4 := Lib.hid (HK3.out.trans (hbv.mono HK3.out.size))
  have HB4 := Lib.hid (HB3.out.trans (hbv.mono HB3.out.size))
  have HX2 : Hid (w.heap.size + 2 ≤ w2.heap.size) := Nat.le_trans hlt2 HK1.out.size
  have R4 : Hid (RowW (w3.alloc (.cells #[.int .i64 x, .int .i64 y, .slice (some ⟨g, 0, none⟩) n cg] 27)) (w2.heap.size + 1) w3.heap.size (some ⟨g, 0, none⟩) n (bo (flF p z 0))) := hRG.out.below hbv
  have K4 : Hid (ButIn (w2.heap.size + 1) w3.heap.size (w3.alloc (.cells #[.int .i64 x, .int .i64 y, .slice (some ⟨g, 0, none⟩) n cg] 27)) (w3.alloc (.cells #[.int .i64 x, .int .i64 y, .slice (some ⟨g, 0, none⟩) n cg] 27))) := ButIn.refl _ _ _
  have HLZ : Hid (RowV (w3.alloc (.cells #[.int .i64 x, .int .i64 y, .slice (some ⟨g, 0, none⟩) n cg] 27)) w.heap.size Z z.length (iv (atI z))) := HQ.out.below HB4.out
  clear hb3 hbv V3 V2 HOWN hRG HQ HR
  go_wp2_with fail
  generalize w3.alloc (.cells #[.int .i64 x, .int .i64 y, .slice (some ⟨g, 0, none⟩) n cg] 27) = b4 at *
  go_loopw [14] (fun i wr => ∃ t : Nat, t ≤ z.length ∧ i = .int .i64 t ∧ Hid (∀ j, j < t → okC z n j = true) ∧ Hid (VarT wr w3.heap.size x y (some ⟨g, 0, none⟩) n cg) ∧ Hid (RowW wr (w2.heap.size + 1) w3.heap.size (some ⟨g, 0, none⟩) n (bo (flF p z t))) ∧ Hid (ButIn (w2.heap.size + 1) w3.heap.size b4 wr)) (fun i _ => z.length - (intOf i).toNat)
  case atStart => exact ⟨0, Nat.zero_le _, rfl, fun j h => absurd h (Nat.not_lt_zero _), VF, R4, K4⟩
  case round =>
    obtain ⟨t, ht, rfl, hJ, hV, hRow, hK⟩ := hrel
    have hlt4 : w.heap.size + 1 < b4.heap.size := Nat.lt_of_lt_of_le hlt2 HK4.out.size
    have HBF := Lib.hid (HB4.out.trans (hK.out.toBelow (by have := HX2.out; omega) HB4.out.size))
    have HVX := Lib.hid (VA.out.but hK.out (.inl (by have := HX2.out; omega)))
    have HKW : Hid (∀ k, wr.cell? ⟨w.heap.size + 1, k, none⟩ = b.cell? ⟨w.heap.size + 1, k, none⟩ ∧ wr.frozen? ⟨w.heap.size + 1, k, none⟩ = b.frozen? ⟨w.heap.size + 1, k, none⟩) := fun k => by
      have eB := hK.out.block (w.heap.size + 1) hlt4 (.inl (by have := HX2.out; omega))
      exact ⟨(World.cell?_of_block (w := b4) (a := ⟨w.heap.size + 1, k, none⟩) eB).trans (HK4.out.cell (p := ⟨w.heap.size + 1, k, none⟩) hlt2), (World.frozen?_of_block (w := b4) (a := ⟨w.heap.size + 1, k, none⟩) eB).trans (HK4.out.frozen (p := ⟨w.heap.size + 1, k, none⟩) hlt2)⟩
    by_cases hlt : t < z.length
    · obtain ⟨bz, oz, rfl, hbz, hzc⟩ := (HLZ.out.butIn hK.out (by have := HB4.out.size; exact this) (.inl (by have := HX2.out; omega))) (by omega)
      have hcz := hzc t hlt
      unfold iv at hcz
      have x0 := HVX.out.c0
      have x1 := HVX.out.c1
      have x2 := HVX.out.c2
      have v2 := hV.out.c2
      have hE : okC z n t = (inB (atI z t) 0 ((n : Int) - 1) && decide (0 < t → atI z (t - 1) < atI z t)) := by
        unfold okC inB
        rw [← Bool.decide_and, ← Bool.decide_and]
        congr 1
        apply propext
        constructor
        · intro h; exact ⟨⟨h.1.1, by omega⟩, h.2⟩
        · intro h; exact ⟨⟨h.1.1, by omega⟩, h.2⟩
      have HIN := Lib.hid (fun W => inS_any (atI z t) 0 ((n : Int) - 1) W)
      cases h1 : inB (atI z t) 0 ((n : Int) - 1)
      · exfalso
        have := HOK.out t hlt
        rw [hE, h1] at this
        cases this
      · rw [h1] at HIN
        rw [h1, Bool.true_and] at hE
        obtain ⟨s0, s1⟩ := inB_yes h1
        obtain ⟨s, hs⟩ : ∃ s : Nat, atI z t = (s : Int) := ⟨(atI z t).toNat, by omega⟩
        have hsn : s < n := by omega
        have hsn2 : (s : Int) < n := by omega
        rw [hs] at hcz HIN
        obtain ⟨bb, off, e3, hl1, hl2, hcell, hfree⟩ := hRow.out.row (by omega)
        injection e3 with e3
        injection e3 with e31 e32 _
        subst e31 e32
        have hc := hcell s hsn
        have hf := hfree s hsn
        unfold bo at hc
        rw [Nat.zero_add] at hc hf
        have S1 := Lib.hid (fun m : Nat => (ButIn.refl g (g + 1) (wr.drewN m)).set (q := ⟨g, s, none⟩) (Nat.le_refl _) (Nat.lt_succ_self _) (.bool (!flF p z t s)))
        have V5 := Lib.hid (fun m : Nat => ((hV.out.drewN (m := m)).but (S1.out m) (.inr hl2)))
        have hset := fun m : Nat => ((hRow.out.drewN (m := m)).setW (k := s) (u := .bool (!flF p z t s)) hsn).ext (U := bo (flF p z (t + 1))) fun j _ => flF_put p z t s hs j
        simp only [Nat.zero_add] at hset
        have R5 := Lib.hid hset
        have K5 := Lib.hid (fun m : Nat => ((hK.out.drewN (n := m)).set (q := ⟨g, s, none⟩) hl1 hl2 (.bool (!flF p z t s))))
        have HSU := Lib.hid hs
        clear hset S1 hs s0 s1 h1 hcell hfree hV hRow hK
        have HJ : Hid (okC z n t = true → ∀ j, j < t + 1 → okC z n j = true) := fun ho j hj => by
          by_cases e : j = t
          · rw [e]; exact ho
          · exact hJ.out j (by omega)
        clear hJ
        cases t with
        | zero =>
          rw [Nat.add_zero] at hcz
          have ho : okC z n 0 = true := by rw [hE]; exact decide_eq_true fun h => absurd h (Nat.lt_irrefl _)
          have HJ2 := Lib.hid (HJ.out ho)
          clear ho hE hzc HJ
          have hwn : IntKind.i64.wrap ((n : Int) - 1) = (n : Int) - 1 := IntWalk.i64_in _ (by omega)
          go_wp2_with fail
          go_quiet ((go_at_call 59; refine (HIN.out _).mono ?_; rintro e w' ⟨rfl, rfl⟩; exact ⟨rfl, _, rfl⟩))
          clear hwn
          go_wp2_with fail
          go_region_with fail
          all_goals
            go_wp2
            go_roundw
            case rel => exact ⟨1, by omega, rfl, HJ2, V5.out _, R5.out _, K5.out _⟩
            case measure => simp [intOf]; omega
        | succ u =>
          have hcu := hzc u (by omega)
          unfold iv at hcu
          have hul : u < z.length := by omega
          have hul2 : (u : Int) < z.length := by omega
          have hw : IntKind.i64.wrap (((u + 1 : Nat) : Int) - 1) = (u : Int) := by rw [show ((u + 1 : Nat) : Int) - 1 = (u : Int) by omega]; exact IntWalk.i64_in _ (by omega)
          have hst : atI z (u + 1) = (s : Int) := HSU.out
          rw [Nat.add_sub_cancel, hst] at hE
          by_cases hcmp : atI z u < (s : Int)
          · have ho : okC z n (u + 1) = true := by rw [hE]; exact decide_eq_true fun _ => hcmp
            have HJ2 := Lib.hid (HJ.out ho)
            have hcmp2 : ¬ (s : Int) ≤ atI z u := by omega
            clear ho hE hzc HJ hst hcmp
            generalize atI z u = pz at *
            have hwn : IntKind.i64.wrap ((n : Int) - 1) = (n : Int) - 1 := IntWalk.i64_in _ (by omega)
            go_wp2_with fail
            go_quiet ((go_at_call 59; refine (HIN.out _).mono ?_; rintro e w' ⟨rfl, rfl⟩; exact ⟨rfl, _, rfl⟩))
            clear hwn
            go_wp2_with fail
            go_region_with fail
            all_goals
              go_wp2
              go_roundw
              case rel => exact ⟨u + 1 + 1, by omega, by go_num, HJ2, V5.out _, R5.out _, K5.out _⟩
              case measure => simp [intOf]; omega
          · exfalso
            have := HOK.out (u + 1) hlt
            rw [hE] at this
            exact hcmp (of_decide_eq_true this (Nat.succ_pos u))
    · obtain rfl : t = z.length := by omega
      obtain ⟨d0, d1, d2, f0, f1, f2⟩ := HRES.out
      have q0 := (HKW.out 0).1.trans d0
      have q1 := (HKW.out 1).1.trans d1
      have q2 := (HKW.out 2).1.trans d2
      have g0 := (HKW.out 0).2.trans f0
      have g1 := (HKW.out 1).2.trans f1
      have g2 := (HKW.out 2).2.trans f2
      have v0 := hV.out.c0
      have v1 := hV.out.c1
      have v2 := hV.out.c2
      have HX3 := Lib.hid HX2.out
      clear d0 d1 d2 f0 f1 f2 HRES HKW
      go_wp2_with fail
      refine bodyPost_ret (v := .tuple #[.agg #[.int .i64 x, .int .i64 y, .slice (some ⟨g, 0, none⟩) n cg], .bool true]) (by simp [results, Try.results15, go_sem, q0, q1, q2]) rfl ?_
      have a1 := ((hRow.out.store3 (Y := w.heap.size + 1) (by have := HX3.out; omega) (.int .i64 x) (.int .i64 y) (.slice (some ⟨g, 0, none⟩) n cg)).upper (hi' := (((wr.setCell ⟨w.heap.size + 1, 0, none⟩ (.int .i64 x)).setCell ⟨w.heap.size + 1, 1, none⟩ (.int .i64 y)).setCell ⟨w.heap.size + 1, 2, none⟩ (.slice (some ⟨g, 0, none⟩) n cg)).heap.size) (by have := hRow.out.le; simpa [World.setCell] using this) (Nat.le_refl _)).lower (lo' := w.heap.size) (by have := HX3.out; omega)
      have a2 := store3 HBF.out (Nat.le_succ _) (.int .i64 x) (.int .i64 y) (.slice (some ⟨g, 0, none⟩) n cg)
      first | exact ⟨some ⟨g, 0, none⟩, cg, rfl, a1, a2⟩ | exact ⟨some ⟨g, 0, none⟩, ⟨cg, rfl⟩, a1, a2⟩

end Go.Proofs.Ytjojhklbikgfoaa
