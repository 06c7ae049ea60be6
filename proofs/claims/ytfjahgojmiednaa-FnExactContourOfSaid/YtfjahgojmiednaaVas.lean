/-
  What is proved here: how different places of a sheet are, as the reference tells it, as a walk. Conditions: a sheet, a lag from 1 to 17.
-/
import Derived.Test.YtfjahgojmiednaaVap
import Derived.BigQuiet
namespace Go.Proofs.Ytfjahgojmiednaa
open Flt Go.RowKit
set_option linter.unusedVariables false

theorem pr_sh {x y : Int} {zs : List Nat} (h : shB x y zs = true) : (1 ≤ x ∧ x ≤ 17) ∧ (1 ≤ y ∧ y ≤ 17) ∧ (zs.length : Int) = x * y ∧ x * y ≤ 289 ∧ finAll zs = true := by
  have hf := shB_fin h
  unfold shB at h
  simp only [Bool.and_eq_true, beq_iff_eq] at h
  obtain ⟨h1, h2, h3, _⟩ := h
  exact ⟨inB_yes h1, inB_yes h2, h3, (prod_bd h1 h2).2, hf⟩

set_option maxHeartbeats 8000000 in
set_option maxRecDepth 1000000 in
theorem specVar0 (v : Nat) (x y lg : Int) (A : Option Addr) (c : Nat) (zs : List Nat) (w : World) (V : VarT w v x y A zs.length c) (hr : RowF w w.heap.size A zs) (h1 : shB x y zs = true) (hl : inB lg 1 17 = true) :
    Calls Try.prog 36 #[.pointer (some ⟨v, 0, none⟩), .int .i64 lg] w (VPost (varC x y zs lg) (varB x y zs lg) w) := by
  obtain ⟨⟨hx1, hx2⟩, ⟨hy1, hy2⟩, hn, hm, hf⟩ := pr_sh h1
  obtain ⟨hl1, hl2⟩ := inB_yes hl
  have hn0 : 0 < zs.length := by
    have := Int.mul_pos (show 0 < x by omega) (show 0 < y by omega)
    omega
  obtain ⟨b, off, rfl, hb, hcell⟩ := hr hn0
  have HC := Lib.hid hcell
  have HF := Lib.hid hf
  have HH := Lib.hid (fun k => pr_hor (k := k) hx1 hl1)
  have HV := Lib.hid (fun k => pr_ver (k := k) hx1 hy1 hl1)
  have HI := Lib.hid (fun k (hk : k < zs.length) => pr_hin (k := k) (lg := lg) hx1 hl1 hk hn)
  have HJ := Lib.hid (fun k (hk : k < zs.length) => pr_vin (k := k) (lg := lg) hx1 hl1 hk hn)
  have hNh := horS_le x.toNat lg.toNat zs.length
  have hNv := verS_le x.toNat y.toNat lg.toNat zs.length
  obtain ⟨hv, c0, c1, c2⟩ := V
  have hwm : IntKind.i64.wrap (x * y) = (zs.length : Int) := by rw [IntWalk.i64_in _ (by omega)]; exact hn.symm
  have hz : x ≠ 0 := by omega
  have hH1 := Lib.hid h1
  have hHl := Lib.hid hl
  have hn289 : zs.length ≤ 289 := by omega
  clear hcell hf h1 hl hr hn hm
  go_enter Try.func36, Try.ntmps36
  go_wp2_with fail
  go_loopw [6, 7, 8] (fun s m i wr => ∃ k : Nat, k ≤ zs.length ∧ i = .int .i64 k ∧ ∃ n sw, wr = w.drewN n ∧ s = .float .f32 sw ∧ WF .f32 sw ∧ Hid (can .f32 sw = sqS zs (can .f32 0) (horS x.toNat lg.toNat k)) ∧ m = .int .i64 ((horS x.toNat lg.toNat k).length : Nat)) (fun _ _ i _ => zs.length - (intOf i).toNat)
  case atStart => exact ⟨0, Nat.zero_le _, rfl, 0, _, rfl, rfl, ⟨by decide⟩, rfl, rfl⟩
  case round =>
    obtain ⟨k, hk, rfl, n, sw, rfl, rfl, hw, hs, rfl⟩ := hrel
    have hq := horS_le x.toNat lg.toNat k
    by_cases hlt : k < zs.length
    · have r0 := Int.emod_nonneg (k : Int) hz
      have r1 := Int.emod_lt_of_pos (k : Int) (show 0 < x by omega)
      have hw2 : IntKind.i64.wrap ((k : Int) % x + lg) = (k : Int) % x + lg := IntWalk.i64_in _ (by omega)
      by_cases hh : (k : Int) % x + lg < x
      · have hin := HI.out k hlt hh
        have S := Lib.hid ((HH.out k).1 (by omega))
        have e1 := HC.out k hlt
        have hw1 : IntKind.i64.wrap ((k : Int) + lg) = ((k + lg.toNat : Nat) : Int) := by rw [IntWalk.i64_in _ (by omega)]; omega
        generalize k + lg.toNat = j at hin S hw1
        have e2 := HC.out j hin
        obtain ⟨d, hd, _⟩ := dif_gt (finAll_at HF.out hin) (finAll_at HF.out hlt)
        have hp := run_f32 hd
        have HD : Hid (sqO zs (k, j) = fop .mul .f32 (can .f32 d) (can .f32 d)) := by show _ = _; unfold sqO; rw [fop_can, hd, can_num (floatBits_num hd)]
        clear hd
        go_wp2_with fail
        go_quiet (fail)
        go_wp2_with fail
        go_quiet (fail)
        go_wp2_with fail
        go_quiet (fail)
        go_wp2_with ((with_reducible refine upon_bin rfl ?_); intro _ _ _ _)
        rename_i r1 m1 w1 er1 r2 m2 w2 er2
        go_roundw
        case rel => exact ⟨k + 1, by omega, by go_num, _, _, rfl, rfl, w2, by show can .f32 r2 = _; rw [er2.out, er1.out, hs.out, S.out, sqS_snoc, HD.out], by rw [S.out, List.length_append]; go_num⟩
        case measure => simp [intOf]; omega
      · have S := Lib.hid ((HH.out k).2 (by omega))
        go_wp2_with fail
        go_quiet (fail)
        go_wp2_with fail
        go_quiet (fail)
        go_wp2_with fail
        go_roundw
        case rel => exact ⟨k + 1, by omega, by go_num, _, _, rfl, rfl, hw, by show can .f32 sw = _; rw [hs.out, S.out], by rw [S.out]⟩
        case measure => simp [intOf]; omega
    · have ek : k = zs.length := by omega
      subst ek
      clear hlt hk
      go_wp2_with fail
      go_quiet (fail)
      go_wp2_with fail
      have hNh2 := hNh
      generalize hHL : horS x.toNat lg.toNat zs.length = HL at *
      go_loopw [6, 7, 10] (fun s m i wr => ∃ k : Nat, k ≤ zs.length ∧ i = .int .i64 k ∧ ∃ n sw, wr = w.drewN n ∧ s = .float .f32 sw ∧ WF .f32 sw ∧ Hid (can .f32 sw = sqS zs (sqS zs (can .f32 0) HL) (verS x.toNat y.toNat lg.toNat k)) ∧ m = .int .i64 ((HL.length + (verS x.toNat y.toNat lg.toNat k).length : Nat) : Int)) (fun _ _ i _ => zs.length - (intOf i).toNat)
      case atStart => exact ⟨0, Nat.zero_le _, rfl, n + nq, _, by simp, rfl, hw, hs, rfl⟩
      case round =>
        clear hw hs
        obtain ⟨k, hk, rfl, n, sw, rfl, rfl, hw, hs, rfl⟩ := hrel
        have hq := verS_le x.toNat y.toNat lg.toNat k
        by_cases hlt : k < zs.length
        · have hd0 : 0 ≤ (k : Int) / x := Int.ediv_nonneg (by omega) (by omega)
          have hd1 : (k : Int) / x ≤ k := Int.ediv_le_self _ (by omega)
          have hw2 : IntKind.i64.wrap ((k : Int) / x + lg) = (k : Int) / x + lg := IntWalk.i64_in _ (by omega)
          have hw3 : IntKind.i64.wrap ((k : Int) / x) = (k : Int) / x := IntWalk.i64_in _ (by omega)
          by_cases hh : (k : Int) / x + lg < y
          · obtain ⟨hin, hje⟩ := HJ.out k hlt (by omega)
            have S := Lib.hid ((HV.out k).1 (by omega))
            have e1 := HC.out k hlt
            have hg0 : 0 ≤ lg * x := Int.mul_nonneg (by omega) (by omega)
            generalize k + lg.toNat * x.toNat = j at hin S hje
            generalize hgx : lg * x = t at hje hg0
            have hwt : IntKind.i64.wrap (lg * x) = t := by rw [hgx]; exact IntWalk.i64_in _ (by omega)
            have hw1 : IntKind.i64.wrap ((k : Int) + t) = (j : Int) := by rw [← hje]; exact IntWalk.i64_in _ (by omega)
            have e2 := HC.out j hin
            obtain ⟨d, hd, _⟩ := dif_gt (finAll_at HF.out hin) (finAll_at HF.out hlt)
            have hp := run_f32 hd
            have HD : Hid (sqO zs (k, j) = fop .mul .f32 (can .f32 d) (can .f32 d)) := by show _ = _; unfold sqO; rw [fop_can, hd, can_num (floatBits_num hd)]
            clear hd hgx hje
            go_wp2_with fail
            go_quiet (fail)
            go_wp2_with fail
            go_quiet (fail)
            go_wp2_with fail
            go_quiet (fail)
            go_wp2_with ((with_reducible refine upon_bin rfl ?_); intro _ _ _ _)
            rename_i r1 m1 w1 er1 r2 m2 w2 er2
            go_roundw
            case rel => exact ⟨k + 1, by omega, by go_num, _, _, rfl, rfl, w2, by show can .f32 r2 = _; rw [er2.out, er1.out, hs.out, S.out, sqS_snoc, HD.out], by rw [S.out, List.length_append]; go_num⟩
            case measure => simp [intOf]; omega
          · have S := Lib.hid ((HV.out k).2 (by omega))
            go_wp2_with fail
            go_quiet (fail)
            go_wp2_with fail
            go_quiet (fail)
            go_wp2_with fail
            go_roundw
            case rel => exact ⟨k + 1, by omega, by go_num, _, _, rfl, rfl, hw, by show can .f32 sw = _; rw [hs.out, S.out], by rw [S.out]; go_num⟩
            case measure => simp [intOf]; omega
        · have ek : k = zs.length := by omega
          subst ek
          clear hlt hk
          have ES : Hid (can .f32 sw = varS x y lg zs) := by show _ = _; rw [hs.out]; unfold varS; rw [hHL]
          have EN : Hid (varN x y lg zs = HL.length + (verS x.toNat y.toNat lg.toNat zs.length).length) := by show _ = _; unfold varN; rw [hHL]
          generalize HL.length + (verS x.toNat y.toNat lg.toNat zs.length).length = N at *
          by_cases h0 : N = 0
          · subst h0
            have N0 := Lib.hid (var_no (x := x) (y := y) (zs := zs) (lg := lg) (by unfold varY; rw [EN.out, hH1.out, hHl.out]; rfl))
            go_wp2_with fail
            go_quiet (fail)
            go_wp2_with fail
            go_ret2
            rw [N0.out.1, N0.out.2]
            exact vpost_no
          · have N1 := Lib.hid (var_yes (x := x) (y := y) (zs := zs) (lg := lg) (by unfold varY; rw [EN.out, hH1.out, hHl.out]; simp [h0]))
            have EQ : Hid (varQ x y lg zs = fop .quo .f32 (fop .quo .f32 (can .f32 sw) (can .f32 (fI N))) (can .f32 1073741824)) := by show _ = _; unfold varQ; rw [ES.out, EN.out]
            clear ES EN hs
            go_wp2_with fail
            go_quiet (fail)
            go_wp2_with ((with_reducible refine upon_bin rfl ?_); intro _ _ _ _)
            rename_i r1 m1 w1 er1 r2 m2 w2 er2 KK hKK
            have HQ : can .f32 r2 = varQ x y lg zs := by rw [er2.out, EQ.out, half_eq, er1.out]; rfl
            refine (specNumber r2 _ HQ w2 _).mono ?_
            rintro e w' ⟨g, n3, rfl, rfl, hg, hgw⟩
            clear HQ
            go_wp2_with fail
            go_ret2
            rw [N1.out.1, N1.out.2]
            exact ⟨g, _, rfl, rfl, hg, hgw⟩

theorem mpost_not {c : Option Nat} {b : Bool} {w w' : World} (h1 : b = false) (h2 : c = some 0) (h : Below w.heap.size w w') : MPost c b w (.returned (.tuple #[.float .f32 0, .bool false])) w' := by
  subst h1 h2
  exact ⟨0, rfl, by show can .f32 0 = some 0; decide, ⟨by decide⟩, h⟩

set_option maxHeartbeats 800000 in
theorem specVar (x y lg : Int) (A : Option Addr) (c : Nat) (zs : List Nat) (w : World) (hr : RowF w w.heap.size A zs) (hn : zs.length ≤ 1048576) :
    Calls Try.prog 10 #[.agg #[.int .i64 x, .int .i64 y, .slice A zs.length c], .int .i64 lg] w (MPost (varC x y zs lg) (varB x y zs lg) w) := by
  have B0 : Below w.heap.size w (w.alloc (.cells #[.int .i64 x, .int .i64 y, .slice A zs.length c] 29)) := (Below.refl _ _).alloc (Nat.le_refl _) _
  have HV := Lib.hid (varT_new w x y A zs.length c 29)
  have HC := Lib.hid (specIs w.heap.size x y A c zs _ HV.out (hr.carry B0) hn)
  have HB := Lib.hid B0
  have HR := Lib.hid (hr.carry B0)
  clear hr B0
  cases h : shB x y zs
  · have N := Lib.hid (var_no (x := x) (y := y) (zs := zs) (lg := lg) (by rw [h]; rfl))
    have H1 := Lib.hid h
    clear h
    go_enter Try.func10, Try.ntmps10
    go_wp2_with fail
    refine HC.out.mono ?_
    rintro e w' ⟨rfl, n, rfl⟩
    rw [H1.out]
    clear HC
    go_wp2_with fail
    go_ret2
    exact mpost_not N.out.1 N.out.2 (belowN HB.out)
  · have H1 := Lib.hid h
    cases h2 : inB lg 1 17
    · have N := Lib.hid (var_no (x := x) (y := y) (zs := zs) (lg := lg) (by rw [h, h2]; rfl))
      have H2 := Lib.hid h2
      clear h h2
      go_enter Try.func10, Try.ntmps10
      go_wp2_with fail
      refine HC.out.mono ?_
      rintro e w' ⟨rfl, n, rfl⟩
      rw [H1.out]
      clear HC
      go_wp2_with (go_at_call 35; refine (inS_any _ _ _ _).mono ?_; rintro e w' ⟨rfl, rfl⟩; rw [H2.out])
      go_ret2
      exact mpost_not N.out.1 N.out.2 (belowN HB.out)
    · have H2 := Lib.hid h2
      clear h h2
      go_enter Try.func10, Try.ntmps10
      go_wp2_with fail
      refine HC.out.mono ?_
      rintro e w' ⟨rfl, n, rfl⟩
      rw [H1.out]
      have B1 := Lib.hid (belowN (n := n) HB.out)
      have HQ := Lib.hid (fun (k : Nat) => specVar0 w.heap.size x y lg A c zs _ (HV.out.below (belowN (n := n) (Below.refl _ _))) (HR.out.carry (belowN (n := n) (Below.refl _ _))) H1.out H2.out)
      clear HC
      go_wp2_with (go_at_call 35; refine (inS_any _ _ _ _).mono ?_; rintro e w' ⟨rfl, rfl⟩; rw [H2.out])
      refine (HQ.out 0).mono ?_
      rintro e w' ⟨g, n3, rfl, rfl, hg, hgw⟩
      clear HQ
      go_wp2_with fail
      go_ret2
      exact ⟨g, rfl, hg, hgw, belowN HB.out⟩

end Go.Proofs.Ytfjahgojmiednaa
