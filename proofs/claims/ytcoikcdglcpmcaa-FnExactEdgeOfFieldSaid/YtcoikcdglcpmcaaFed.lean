/-
  What is proved here: how long the edge of a field is, of both packages, as walks. Conditions: at most 1048576 cells.
-/
import Derived.Test.YtcoikcdglcpmcaaSdk
import Derived.Test.YtcoikcdglcpmcaaFcn
namespace Go.Proofs.Ytcoikcdglcpmcaa
open Go.RowKit
set_option linter.unusedVariables false

/-- the edge of the first so many cells -/
def edgS (p : Nat → Bool) (x y : Int) : Nat → Nat
  | 0 => 0
  | k + 1 => if p k = true then edgS p x y k + (4 - fulS p x y k) else edgS p x y k
theorem edgS_yes {p : Nat → Bool} {x y : Int} {k : Nat} (h : p k = true) : edgS p x y (k + 1) = edgS p x y k + (4 - fulS p x y k) := by
  conv => lhs; unfold edgS
  rw [if_pos h]
theorem edgS_no {p : Nat → Bool} {x y : Int} {k : Nat} (h : p k = false) : edgS p x y (k + 1) = edgS p x y k := by
  conv => lhs; unfold edgS
  rw [if_neg (by rw [h]; decide)]
theorem edgS_le (p : Nat → Bool) (x y : Int) (k : Nat) : edgS p x y k ≤ 4 * k := by
  induction k with
  | zero => exact Nat.le_refl _
  | succ k ih =>
    unfold edgS
    split <;> omega
/-- .. of cells in a list -/
def esum (p : Nat → Bool) (x y : Int) (M : List Int) : Nat → Nat
  | 0 => 0
  | t + 1 => esum p x y M t + (4 - fulS p x y (atI M t))
theorem esum_le (p : Nat → Bool) (x y : Int) (M : List Int) (t : Nat) : esum p x y M t ≤ 4 * t := by
  induction t with
  | zero => exact Nat.le_refl _
  | succ t ih => show esum p x y M t + (4 - fulS p x y (atI M t)) ≤ _; omega
theorem esum_snoc (p : Nat → Bool) (x y : Int) (M : List Int) (u : Int) (t : Nat) (h : t ≤ M.length) : esum p x y (M ++ [u]) t = esum p x y M t := by
  induction t with
  | zero => rfl
  | succ t ih =>
    show esum p x y (M ++ [u]) t + (4 - fulS p x y (atI (M ++ [u]) t)) = esum p x y M t + (4 - fulS p x y (atI M t))
    rw [ih (by omega), atI_snoc _ _ _ (by omega), if_neg (by omega)]
theorem esum_is (p : Nat → Bool) (x y : Int) (k : Nat) : esum p x y (fulL p k) (fulL p k).length = edgS p x y k := by
  induction k with
  | zero => rfl
  | succ k ih =>
    cases h : p k with
    | false => rw [fulL_no h, edgS_no h]; exact ih
    | true =>
      rw [fulL_yes h, edgS_yes h, List.length_append]
      show esum p x y (fulL p k ++ [(k : Int)]) (fulL p k).length + (4 - fulS p x y (atI (fulL p k ++ [(k : Int)]) (fulL p k).length)) = _
      rw [esum_snoc _ _ _ _ _ _ (Nat.le_refl _), ih, atI_snoc _ _ _ (Nat.lt_succ_self _), if_pos rfl]
theorem fulL_bd (p : Nat → Bool) (k t : Nat) (h : t < (fulL p k).length) : 0 ≤ atI (fulL p k) t ∧ atI (fulL p k) t < k := by
  induction k with
  | zero => exact absurd h (Nat.not_lt_zero _)
  | succ k ih =>
    cases e : p k with
    | false =>
      rw [fulL_no e] at h ⊢
      have := ih h
      omega
    | true =>
      rw [fulL_yes e] at h ⊢
      rw [List.length_append] at h
      rw [atI_snoc _ _ _ h]
      by_cases g : t = (fulL p k).length
      · rw [if_pos g]; omega
      · rw [if_neg g]
        have := ih (by simp at h; omega)
        omega

set_option maxHeartbeats 4000000 in
theorem implEdg (x y : Int) (A : Option Addr) (n c : Nat) (p : Nat → Bool) (w : World) (hr : RowV w w.heap.size A n (bo p)) (hn : n ≤ 1048576) (hv : fvB x y n = true) :
    Calls Try.prog 55 #[.agg #[.int .i64 x, .int .i64 y, .slice A n c]] w fun e w' => e = .returned (.tuple #[.int .i64 (edgS p x y n : Nat), .bool true]) ∧ Hid (Below w.heap.size w w') := by
  have B0 := below_var w x y A n c 27
  have V0 := varT_new w x y A n c 27
  have HC := Lib.hid (implValid x y A n c (w.alloc (.cells #[.int .i64 x, .int .i64 y, .slice A n c] 27)) hn)
  have HAM := Lib.hid (fun (i : Int) h0 hi (W : World) hW => implAmo x y i A n c A c p hv h0 hi W hW)
  obtain ⟨_, hnn, hn1, hn2⟩ := fvB_yes hv
  rw [hv] at HC
  have HR := Lib.hid hr
  have HB0 := Lib.hid B0
  have HV := Lib.hid V0
  have hfl := fulL_len p n
  have hfle := fulN_le p n
  have HES := Lib.hid (esum_is p x y n)
  clear hv B0 V0 hr
  go_enter Try.func55, Try.ntmps55
  go_wp2_with fail
  generalize w.alloc (.cells #[.int .i64 x, .int .i64 y, .slice A n c] 27) = b at *
  refine HC.out.mono ?_
  rintro e w1 ⟨rfl, hb⟩
  have HB := Lib.hid (HB0.out.trans (hb.out.mono HB0.out.size))
  have V1 := Lib.hid (HV.out.below hb.out)
  have c0 := V1.out.c0
  have c1 := V1.out.c1
  have c2 := V1.out.c2
  clear HC hb HB0 HV
  go_wp2_with fail
  refine (implFull x y A n c p w1 ((HR.out.below HB.out).mono HB.out.size) hn).mono ?_
  rintro e w2 ⟨A', c', rfl, hO, hb2⟩
  have HB2 := Lib.hid (HB.out.trans (hb2.out.mono HB.out.size))
  have V2 := Lib.hid (V1.out.below hb2.out)
  have HM := Lib.hid hO.out.rowW.toRow
  have HBD := Lib.hid (fulL_bd p n)
  clear hb2 HB c0 c1 c2 V1 hO
  generalize fulL p n = M at *
  go_wp2_with fail
  go_loopw [4, 13] (fun o j wr => ∃ (t : Nat), t ≤ M.length ∧ j = .int .i64 t ∧ o = .int .i64 (esum p x y M t : Nat) ∧ Hid (Below w2.heap.size w2 wr)) (fun _ j _ => M.length - (intOf j).toNat)
  case atStart => exact ⟨0, Nat.zero_le _, rfl, rfl, Below.refl _ _⟩
  case round =>
    obtain ⟨t, ht, rfl, rfl, hW⟩ := hrel
    have hle := esum_le p x y M t
    by_cases hlt : t < M.length
    · obtain ⟨b1, off, rfl, hb1, hcell⟩ := (HM.out.below hW.out) (by omega)
      have hc := hcell t hlt
      unfold iv at hc
      obtain ⟨s0, s1⟩ := HBD.out t hlt
      have hf := fulS_le p x y (atI M t)
      have V3 := V2.out.below hW.out
      have d0 := V3.c0
      have d1 := V3.c1
      have d2 := V3.c2
      have HA := Lib.hid (HAM.out (atI M t) s0 (by omega) wr ((HR.out.below (HB2.out.trans (hW.out.mono HB2.out.size))).mono (by have := HB2.out.size; have := hW.out.size; omega)))
      have E : Hid (esum p x y M (t + 1) = esum p x y M t + (4 - fulS p x y (atI M t))) := rfl
      clear hcell V3 HAM
      generalize atI M t = i at *
      generalize fulS p x y i = q at *
      go_wp2_with (go_at_call 93; refine HA.out.mono ?_; rintro e w4 ⟨X', cx, rfl, hb4⟩; have HW4 := Lib.hid (hW.out.trans (hb4.out.mono hW.out.size)); clear hb4)
      go_roundw
      case rel => exact ⟨t + 1, by omega, by go_num, by rw [E.out]; congr 1; omega, HW4⟩
      case measure => simp [intOf]; omega
    · obtain rfl : t = M.length := by omega
      have HBF := Lib.hid (HB2.out.trans (hW.out.mono HB2.out.size))
      go_wp2_with fail
      go_ret2
      exact ⟨by rw [HES.out]; rfl, HBF⟩
theorem implEdgNo (x y : Int) (A : Option Addr) (n c : Nat) (w : World) (hn : n ≤ 1048576) (hv : fvB x y n = false) :
    Calls Try.prog 55 #[.agg #[.int .i64 x, .int .i64 y, .slice A n c]] w fun e w' => e = .returned (.tuple #[.int .i64 (0 : Nat), .bool false]) ∧ Hid (Below w.heap.size w w') := by
  have B0 := below_var w x y A n c 27
  have HC := Lib.hid (implValid x y A n c (w.alloc (.cells #[.int .i64 x, .int .i64 y, .slice A n c] 27)) hn)
  rw [hv] at HC
  have HB0 := Lib.hid B0
  clear hv B0
  go_enter Try.func55, Try.ntmps55
  go_wp2_with fail
  refine HC.out.mono ?_
  rintro e w' ⟨rfl, hb⟩
  have HB := Lib.hid (HB0.out.trans (hb.out.mono HB0.out.size))
  clear HC hb HB0
  go_wp2_with fail
  go_ret2
  exact ⟨rfl, HB⟩

theorem specEdgNo (x y : Int) (A : Option Addr) (n c : Nat) (w : World) (hn : n ≤ 1048576) (hv : fvB x y n = false) :
    Calls Try.prog 54 #[.agg #[.int .i64 x, .int .i64 y, .slice A n c]] w fun e w' => e = .returned (.tuple #[.int .i64 (0 : Nat), .bool false]) ∧ Hid (Below w.heap.size w w') := by
  have B0 := below_var w x y A n c 27
  have HC := Lib.hid (specIs w.heap.size x y A n c _ (varT_new w x y A n c 27) hn)
  rw [hv] at HC
  have HB0 := Lib.hid B0
  clear hv B0
  go_enter Try.func54, Try.ntmps54
  go_wp2_with fail
  refine HC.out.mono ?_
  rintro e w' ⟨rfl, m0, rfl⟩
  clear HC
  go_wp2_with fail
  go_ret2
  exact ⟨rfl, belowN HB0.out⟩

set_option maxHeartbeats 8000000 in
theorem specEdg (x y : Int) (A : Option Addr) (n c : Nat) (p : Nat → Bool) (w : World) (hr : RowV w w.heap.size A n (bo p)) (hn : n ≤ 1048576) (hv : fvB x y n = true) :
    Calls Try.prog 54 #[.agg #[.int .i64 x, .int .i64 y, .slice A n c]] w fun e w' => e = .returned (.tuple #[.int .i64 (edgS p x y n : Nat), .bool true]) ∧ Hid (Below w.heap.size w w') := by
  have B0 := below_var w x y A n c 27
  have V0 := varT_new w x y A n c 27
  have HC := Lib.hid (specIs w.heap.size x y A n c _ V0 hn)
  obtain ⟨⟨hx, hy⟩, hnn, hn1, hn2⟩ := fvB_yes hv
  have hsd : sidB x y = true := by
    cases e : sidB x y with
    | true => rfl
    | false => rw [fvB_1 e] at hv; cases hv
  rw [hv] at HC
  have HBE := Lib.hid (fun (i : Int) h0 (hi : i < (n : Int)) (W : World) => specBes x y i hsd h0 (by rw [← hnn]; exact hi) W)
  have HCE : Hid (∀ i : Int, 0 ≤ i → i < (n : Int) → CellsL (sidL x y i) n) := fun i h0 hi => sidL_cells (n := n) hx.1 h0 (by rw [← hnn]; exact hi) hnn
  have HR := Lib.hid (hr.below B0)
  have HB0 := Lib.hid B0
  have HV := Lib.hid V0
  clear hr hv V0 B0 hx hy hsd hnn
  go_enter Try.func54, Try.ntmps54
  go_wp2_with fail
  generalize w.alloc (.cells #[.int .i64 x, .int .i64 y, .slice A n c] 27) = b at *
  refine HC.out.mono ?_
  rintro e w' ⟨rfl, m0, rfl⟩
  have c2 := HV.out.c2
  have hlt0 := HV.out.lt
  clear HC
  go_wp2_with fail
  go_loopw [4, 13] (fun o j wr => ∃ (k : Nat), k ≤ n ∧ j = .int .i64 k ∧ o = .int .i64 (edgS p x y k : Nat) ∧ Hid (Below b.heap.size b wr)) (fun _ j _ => n - (intOf j).toNat)
  case atStart => exact ⟨0, Nat.zero_le _, rfl, rfl, belowN (Below.refl _ _)⟩
  case round =>
    obtain ⟨k, hk, rfl, rfl, hW⟩ := hrel
    have hle := edgS_le p x y k
    by_cases hlt : k < n
    · have V3 := HV.out.below hW.out
      have d0 := V3.c0
      have d1 := V3.c1
      have d2 := V3.c2
      have HRW := Lib.hid (HR.out.below (hW.out.mono (Nat.le_of_lt hlt0)))
      obtain ⟨b1, off, rfl, hb1, hcell⟩ := HRW.out (by omega)
      have hc := hcell k hlt
      unfold bo at hc
      cases hp : p k
      · have E := Lib.hid (edgS_no (x := x) (y := y) hp)
        rw [hp] at hc
        clear hp hcell V3 HBE HCE
        go_wp2_with fail
        go_roundw
        case rel => exact ⟨k + 1, by omega, by go_num, by rw [E.out], hW⟩
        case measure => simp [intOf]; omega
      · have E := Lib.hid (edgS_yes (x := x) (y := y) hp)
        have HS := Lib.hid (HBE.out (k : Int) (by omega) (by omega) wr)
        have HLC := Lib.hid (HCE.out (k : Int) (by omega) (by omega))
        have hL4 := sidL_len x y (k : Int)
        have hq : fulS p x y k = (kepL p (sidL x y k) (sidL x y k).length).length := rfl
        rw [hq] at E
        rw [hp] at hc
        clear hp V3 HBE HCE hq hcell
        generalize sidL x y (k : Int) = L at *
        go_wp2_with fail
        refine HS.out.mono ?_
        rintro e w4 ⟨X, cx, rfl, hO, hb4⟩
        have HW4 := Lib.hid (hW.out.trans (hb4.out.mono hW.out.size))
        have HL := Lib.hid hO.out.rowW.toRow
        have HR4 := Lib.hid (HR.out.below (HW4.out.mono (Nat.le_of_lt hlt0)))
        have V4 := Lib.hid (HV.out.below HW4.out)
        clear hb4 hO HRW hW d0 d1 d2 hc HS
        go_wp2_with fail
        go_loopw [4, 32] (fun o j wr => ∃ (t : Nat), t ≤ L.length ∧ j = .int .i64 t ∧ o = .int .i64 ((edgS p x y k + (4 - (kepL p L t).length) : Nat) : Int) ∧ ∃ m, wr = w4.drewN m) (fun _ j _ => L.length - (intOf j).toNat)
        case atStart => exact ⟨0, Nat.zero_le _, rfl, by congr 1, 0, rfl⟩
        case round =>
          obtain ⟨t, ht, rfl, rfl, m, rfl⟩ := hrel
          have hkl := kepL_le p L t
          by_cases htl : t < L.length
          · obtain ⟨b2, off2, rfl, hb2, hcell2⟩ := HL.out (by omega)
            obtain ⟨b3, off3, e3, hb3, hcell3⟩ := HR4.out (by omega)
            have hcl := hcell2 t htl
            unfold iv at hcl
            obtain ⟨s0, s1⟩ := HLC.out t htl
            obtain ⟨s, hs⟩ : ∃ s : Nat, atI L t = (s : Int) := ⟨(atI L t).toNat, by omega⟩
            rw [hs] at hcl
            have hsn : s < n := by omega
            have hfs : fulD p L t = p s := by unfold fulD; rw [hs]; rfl
            have hc3 := hcell3 s hsn
            unfold bo at hc3
            injection e3 with e3
            injection e3 with e31 e32 _
            subst e31 e32
            have d2 := V4.out.c2
            have hsn2 : (s : Int) < n := by omega
            clear hcell2 hcell3 hs s0 s1
            cases hp : p s
            · rw [hp] at hc3 hfs
              have EK := Lib.hid (kepL_no hfs)
              clear hp hfs
              go_wp2_with fail
              go_quiet (fail)
              go_wp2
              go_roundw
              case rel => exact ⟨t + 1, by omega, by go_num, by rw [EK.out]; congr 1, _, rfl⟩
              case measure => simp [intOf]; omega
            · rw [hp] at hc3 hfs
              have EK : Hid ((kepL p L (t + 1)).length = (kepL p L t).length + 1) := by show _ = _; rw [kepL_yes hfs, List.length_append]; rfl
              have hle2 := kepL_le p L (t + 1)
              clear hp hfs
              go_wp2_with fail
              go_quiet (fail)
              go_wp2
              go_roundw
              case rel => exact ⟨t + 1, by omega, by go_num, by rw [EK.out]; congr 1; omega, _, rfl⟩
              case measure => simp [intOf]; omega
          · obtain rfl : t = L.length := by omega
            go_wp2_with fail
            go_roundw
            case rel => exact ⟨k + 1, by omega, by go_num, by rw [E.out], belowN HW4.out⟩
            case measure => simp [intOf]; omega
    · obtain rfl : k = n := by omega
      go_wp2_with fail
      go_ret2
      exact ⟨rfl, HB0.out.trans (hW.out.mono HB0.out.size)⟩

theorem edgBoth (x y : Int) (n : Nat) (p : Nat → Bool) (hn : n ≤ 1048576) : ∃ (s : Nat) (b : Bool),
    (∀ (W : World) (A : Option Addr) (c : Nat), RowV W W.heap.size A n (bo p) → Calls Try.prog 54 #[.agg #[.int .i64 x, .int .i64 y, .slice A n c]] W fun e w' => e = .returned (.tuple #[.int .i64 s, .bool b]) ∧ Hid (Below W.heap.size W w')) ∧
    (∀ (W : World) (A : Option Addr) (c : Nat), RowV W W.heap.size A n (bo p) → Calls Try.prog 55 #[.agg #[.int .i64 x, .int .i64 y, .slice A n c]] W fun e w' => e = .returned (.tuple #[.int .i64 s, .bool b]) ∧ Hid (Below W.heap.size W w')) := by
  cases hv : fvB x y n with
  | false => exact ⟨0, false, fun W A c _ => specEdgNo x y A n c W hn hv, fun W A c _ => implEdgNo x y A n c W hn hv⟩
  | true => exact ⟨edgS p x y n, true, fun W A c hr => specEdg x y A n c p W hr hn hv, fun W A c hr => implEdg x y A n c p W hr hn hv⟩

end Go.Proofs.Ytcoikcdglcpmcaa
