/-
  What is proved here: FirstPath, as the reference tells it, as a walk. Conditions: a valid field.
-/
import Derived.Test.YteojpmnnpinpeaaPap
import Derived.Test.YteojpmnnpinpeaaBus
namespace Go.Proofs.Yteojpmnnpinpeaa
open Go.RowKit
set_option linter.unusedVariables false
set_option linter.unusedSimpArgs false

/-- the answer: the end of the way, whether there is one, the way -/
def enP (D : Nat → Int) (x : Int) (n : Nat) : Int := fE D ((n : Int) - x) n
def wyN (D : Nat → Int) (x : Int) (n : Nat) : Nat := if 0 ≤ enP D x n then (D (enP D x n).toNat).toNat + 1 else 0
def wyF (D : Nat → Int) (x y : Int) (n : Nat) : Nat → Int := atI (pP D x y (enP D x n).toNat (D (enP D x n).toNat).toNat)

def lenV : Value → Nat | .slice _ n _ => n | _ => 0
theorem bt_A {D : Nat → Int} {m a : Int} {i : Nat} (h : decide (D i ≥ 0) = false) : btE D m a i = false := by
  unfold btE
  rw [show decide (0 ≤ D i) = false from h, Bool.and_false, Bool.false_and]
theorem bt_B {D : Nat → Int} {m a : Int} {i : Nat} (hm : m ≤ i) (h : 0 ≤ D i) (ha : a < 0) : btE D m a i = true := by
  unfold btE
  rw [decide_eq_true hm, decide_eq_true h, decide_eq_true ha]; rfl
theorem bt_C {D : Nat → Int} {m a : Int} {i : Nat} (hm : m ≤ i) (h : 0 ≤ D i) (ha : ¬ a < 0) : btE D m a i = decide (D i < D a.toNat) := by
  unfold btE
  rw [decide_eq_true hm, decide_eq_true h, decide_eq_false ha]; rfl

set_option maxHeartbeats 16000000 in
set_option maxRecDepth 1000000 in
theorem specPat (x y : Int) (F : Option Addr) (n f : Nat) (p : Nat → Bool) (w : World) (hn : n ≤ 1048576) (hr : RowV w w.heap.size F n (bo p)) (h : fvB x y n = true) :
    Calls Try.prog 29 #[.agg #[.int .i64 x, .int .i64 y, .slice F n f]] w fun e w' => ∃ A c, e = .returned (.tuple #[.slice A (wyN (burnT p x y n) x n) c, .bool (decide (0 ≤ enP (burnT p x y n) x n))]) ∧ Hid (RowW w' w.heap.size w'.heap.size A (wyN (burnT p x y n) x n) (iv (wyF (burnT p x y n) x y n))) ∧ Hid (Below w.heap.size w w') := by
  obtain ⟨⟨hx, hy⟩, hnn, hn1, hn2⟩ := fvB_yes h
  have hsd : sidB x y = true := by
    cases e : sidB x y with
    | true => rfl
    | false => rw [fvB_1 e] at h; cases h
  have B0 := below_var w x y F n f 35
  have V0 := varT_new w x y F n f 35
  have HI := Lib.hid (specIs _ x y F n f _ V0 hn)
  have HB := Lib.hid B0
  have HV := Lib.hid V0
  have HR := Lib.hid (hr.carry B0)
  have HC := Lib.hid (fun W V r => specBurn w.heap.size x y F n f p W h V r)
  have HBE : Hid (∀ i : Nat, i < n → ∀ W : World, Calls Try.prog 87 #[.int .i64 x, .int .i64 y, .int .i64 (i : Int)] W fun e w' => ∃ A c, e = .returned (.slice A (sidL x y i).length c) ∧ Hid (GroI w' W.heap.size (sidL x y i) A c) ∧ Hid (Below W.heap.size W w')) := fun i hi W => specBes x y i hsd (by omega) (by omega) W
  have hD : Dist (pB p n) x y n (burnT p x y n) := dT_dist (pB_lt p n)
  have HNX : Hid (∀ a : Nat, 0 < burnT p x y n a → NxtP (burnT p x y n) x y n a (nxR (burnT p x y n) x y a) (nxF (burnT p x y n) x y a)) := fun a ha => nxt_is hD hx.1 hnn (pB_lt p n) ha
  have HCP : Hid (∀ a : Nat, a < n → ∀ k : Nat, (k : Int) ≤ burnT p x y n a → burnT p x y n (cP (burnT p x y n) x y a k) = burnT p x y n a - k ∧ cP (burnT p x y n) x y a k < n) := fun a ha k hk => cP_is hD hx.1 hnn (pB_lt p n) ha k hk
  have HNB : Hid (∀ i : Nat, i < n → ∀ j, j < (sidL x y i).length → 0 ≤ atI (sidL x y i) j ∧ atI (sidL x y i) j < n) := fun i hi j hj => (nb_ok hx.1 hnn).inn i (by omega) (by omega) _ (getD_mem hj)
  have HL4 : Hid (∀ i : Int, (sidL x y i).length ≤ 4) := fun i => sidL_len x y i
  have HHI : Hid (∀ i, burnT p x y n i ≤ n) := hD.high
  have HLO : Hid (∀ i, -1 ≤ burnT p x y n i) := hD.low
  have hm : (y - 1) * x = (n : Int) - x := by rw [Int.sub_mul, hnn, Int.mul_comm y x, Int.one_mul]
  have hxn : x ≤ n := by rw [hnn]; have := Int.mul_le_mul_of_nonneg_left hy.1 (by omega : (0:Int) ≤ x); omega
  obtain ⟨m, hmm⟩ : ∃ m : Nat, (n : Int) - x = m := ⟨((n : Int) - x).toNat, by omega⟩
  have hwa : IntKind.i64.wrap (y - 1) = y - 1 := IntWalk.i64_in _ (by omega)
  have hwb : IntKind.i64.wrap ((y - 1) * x) = (m : Int) := by rw [hm, hmm]; exact IntWalk.i64_in _ (by omega)
  have hmn : m ≤ n := by omega
  have FST : Hid (fE (burnT p x y n) ((n : Int) - x) m = -1) := fE_start (by omega)
  have FYE : Hid (∀ k, btE (burnT p x y n) ((n : Int) - x) (fE (burnT p x y n) ((n : Int) - x) k) k = true → fE (burnT p x y n) ((n : Int) - x) (k + 1) = k) := fun k h => fE_yes h
  have FNO : Hid (∀ k, btE (burnT p x y n) ((n : Int) - x) (fE (burnT p x y n) ((n : Int) - x) k) k = false → fE (burnT p x y n) ((n : Int) - x) (k + 1) = fE (burnT p x y n) ((n : Int) - x) k) := fun k h => fE_no h
  have FIS : Hid (∀ k, fE (burnT p x y n) ((n : Int) - x) k = -1 ∨ ∃ i : Nat, fE (burnT p x y n) ((n : Int) - x) k = i ∧ i < k ∧ 0 ≤ burnT p x y n i) := fun k => fE_is k
  have HMM := Lib.hid hmm
  rw [h] at HI
  have HPS : Hid (∀ a k, pP (burnT p x y n) x y a (k + 1) = pP (burnT p x y n) x y a k ++ [(cP (burnT p x y n) x y a (k + 1) : Int)]) := fun a k => pP_succ _ _ _ a k
  have HPL : Hid (∀ a k, (pP (burnT p x y n) x y a k).length = k + 1) := fun a k => pP_len _ _ _ a k
  have HWN : Hid (wyN (burnT p x y n) x n = if 0 ≤ fE (burnT p x y n) ((n : Int) - x) n then (burnT p x y n (fE (burnT p x y n) ((n : Int) - x) n).toNat).toNat + 1 else 0) := rfl
  have HWF : Hid (wyF (burnT p x y n) x y n = atI (pP (burnT p x y n) x y (fE (burnT p x y n) ((n : Int) - x) n).toNat (burnT p x y n (fE (burnT p x y n) ((n : Int) - x) n).toNat).toNat)) := rfl
  have HWE : Hid (enP (burnT p x y n) x n = fE (burnT p x y n) ((n : Int) - x) n) := rfl
  have HBT1 : Hid (∀ (a : Int) (k : Nat), decide (burnT p x y n k ≥ 0) = false → btE (burnT p x y n) ((n : Int) - x) a k = false) := fun a k h => bt_A h
  have HBT2 : Hid (∀ (a : Int) (k : Nat), m ≤ k → 0 ≤ burnT p x y n k → a < 0 → btE (burnT p x y n) ((n : Int) - x) a k = true) := fun a k h0 h1 h2 => bt_B (by rw [hmm]; omega) h1 h2
  have HBT3 : Hid (∀ (a : Int) (k : Nat), m ≤ k → 0 ≤ burnT p x y n k → ¬ a < 0 → btE (burnT p x y n) ((n : Int) - x) a k = decide (burnT p x y n k < burnT p x y n a.toNat)) := fun a k h0 h1 h2 => bt_C (by rw [hmm]; omega) h1 h2
  clear hr h B0 V0 hnn hD hm hmm hx hy hsd hxn
  generalize wyN (burnT p x y n) x n = wN at *
  generalize wyF (burnT p x y n) x y n = wF at *
  generalize enP (burnT p x y n) x n = eP at *
  generalize burnT p x y n = D at *
  generalize (n : Int) - x = mI at *
  go_enter Try.func29, Try.ntmps29
  go_wp2_with fail
  generalize w.alloc (.cells #[.int .i64 x, .int .i64 y, .slice F n f] 35) = b at *
  refine HI.out.mono ?_
  rintro e w1 ⟨rfl, k, rfl⟩
  have HB1 : Hid (Below b.heap.size b (b.drewN k)) := belowN (Below.refl _ _)
  clear HI
  go_wp2_with fail
  refine (HC.out _ (HV.out.below HB1.out) (HR.out.carry HB1.out)).mono ?_
  rintro e w2 ⟨TA, tc, rfl, hW, hb2⟩
  have HB2 := Lib.hid (HB.out.trans ((HB1.out.trans hb2.out).mono HB.out.size))
  have TR : Hid (RowV w2 w2.heap.size TA n (iv D)) := hW.out.toRow
  have V2 := HV.out.below (HB1.out.trans hb2.out)
  have VV2 := Lib.hid V2
  have v0 := V2.c0
  have v1 := V2.c1
  have FST2 := FST.out
  clear hb2 hW HC HV HR HB HB1 V2 FST
  go_wp2_with fail
  clear v0 v1
  go_loopw [6, 7] (fun a i wr => ∃ k : Nat, i = .int .i64 k ∧ m ≤ k ∧ k ≤ n ∧ a = .int .i64 (fE D mI k) ∧ ∃ q, wr = w2.drewN q) (fun _ i _ => n - (intOf i).toNat)
  case atStart => exact ⟨m, rfl, Nat.le_refl _, hmn, by rw [FST2], 0, rfl⟩
  case round =>
    clear FST2
    obtain ⟨k, rfl, hmk, hk, rfl, q, rfl⟩ := hrel
    by_cases hlt : k < n
    · obtain ⟨tb, to, rfl, _, htc⟩ := TR.out (by omega)
      have h1 := htc k hlt
      have FY := FYE.out k
      have FN := FNO.out k
      have FI := FIS.out k
      have BT1 := HBT1.out (fE D mI k) k
      have BT2 := HBT2.out (fE D mI k) k hmk
      have BT3 := HBT3.out (fE D mI k) k hmk
      unfold iv at h1
      generalize hfk : fE D mI k = a at *
      by_cases hd : 0 ≤ D k
      · by_cases ha : a < 0
        · have S := Lib.hid (FY (BT2 hd ha))
          clear FY FN FI BT1 BT2 BT3 htc
          generalize D k = d at *
          go_wp2_with fail
          go_quiet (fail)
          go_wp2_with fail
          go_roundw
          case rel => exact ⟨k + 1, by go_num, by omega, by omega, by rw [S.out], _, by first | rfl | rw [World.drewN_drewN]⟩
          case measure => simp [intOf]; omega
        · obtain ⟨i0, e0, hi0, _⟩ : ∃ i : Nat, a = i ∧ i < k ∧ 0 ≤ D i := FI.resolve_left (by omega)
          subst e0
          have h2 := htc i0 (by omega)
          unfold iv at h2
          have B3 := BT3 hd (by omega)
          rw [Int.toNat_natCast] at B3
          by_cases hdd : D k < D i0
          · rw [decide_eq_true hdd] at B3
            have S := Lib.hid (FY B3)
            have hnl : decide ((i0 : Int) < 0) = false := decide_eq_false (by omega)
            clear FY FN FI BT1 BT2 BT3 htc B3
            generalize D k = d at *
            generalize D i0 = d0 at *
            go_wp2_with fail
            go_quiet (fail)
            go_wp2_with fail
            go_roundw
            case rel => exact ⟨k + 1, by go_num, by omega, by omega, by rw [S.out], _, by first | rfl | rw [World.drewN_drewN]⟩
            case measure => simp [intOf]; omega
          · rw [decide_eq_false hdd] at B3
            have S := Lib.hid (FN B3)
            have hnl : decide ((i0 : Int) < 0) = false := decide_eq_false (by omega)
            clear FY FN FI BT1 BT2 BT3 htc B3
            generalize D k = d at *
            generalize D i0 = d0 at *
            have hnd : decide (d < d0) = false := decide_eq_false hdd
            go_wp2_with fail
            go_quiet (fail)
            go_wp2_with fail
            go_roundw
            case rel => exact ⟨k + 1, by go_num, by omega, by omega, by rw [S.out], _, by first | rfl | rw [World.drewN_drewN]⟩
            case measure => simp [intOf]; omega
      · have hdf : decide (D k ≥ 0) = false := decide_eq_false hd
        have S := Lib.hid (FN (BT1 hdf))
        clear FY FN FI BT1 BT2 BT3 htc
        generalize D k = d at *
        go_wp2_with fail
        go_quiet (fail)
        go_wp2_with fail
        go_roundw
        case rel => exact ⟨k + 1, by go_num, by omega, by omega, by rw [S.out], _, by first | rfl | rw [World.drewN_drewN]⟩
        case measure => simp [intOf]; omega
    · obtain rfl : k = n := by omega
      have FI := FIS.out k
      generalize hfk : fE D mI k = a at *
      rcases FI with e0 | ⟨i0, e0, hi0, hd0⟩
      · subst e0
        have HW0 : Hid (wN = 0) := by show _ = _; rw [HWN.out, if_neg (by decide)]
        clear FYE FNO FIS HBT1 HBT2 HBT3 HWN HWF hwa hwb
        go_wp2_with fail
        go_ret2
        exact ⟨none, 0, by rw [HWE.out, HW0.out]; rfl, by rw [HW0.out]; exact RowW.empty (Nat.le_refl _), belowN HB2.out⟩
      · subst e0
        obtain ⟨dn, hdn⟩ : ∃ dn : Nat, D i0 = (dn : Int) := ⟨(D i0).toNat, by omega⟩
        have HDN := Lib.hid hdn
        have HW0 : Hid (wN = dn + 1) := by show _ = _; rw [HWN.out, if_pos (by omega), Int.toNat_natCast, hdn, Int.toNat_natCast]
        have HW1 : Hid (wF = atI (pP D x y i0 dn)) := by show _ = _; rw [HWF.out, Int.toNat_natCast, hdn, Int.toNat_natCast]
        have HW2 : Hid (decide (0 ≤ eP) = true) := by show _ = _; rw [HWE.out]; exact decide_eq_true (by omega)
        have CPP := Lib.hid (fun t (ht : t ≤ dn) => HCP.out i0 hi0 t (by rw [hdn]; omega))
        have O0 : Hid (GroI ((w2.drewN q).alloc (.cells #[.int .i64 (i0 : Int)] 2)) w2.heap.size (pP D x y i0 0) (some ⟨w2.heap.size, 0, none⟩) 1) := GroI.lit1 (w2.drewN q) (Nat.le_refl _) _
        have D0 : Hid (Below w2.heap.size w2 ((w2.drewN q).alloc (.cells #[.int .i64 (i0 : Int)] 2))) := (belowN (Below.refl _ _)).alloc (Nat.le_refl _) _
        have hdk := HHI.out i0
        have hnl : decide ((i0 : Int) < 0) = false := decide_eq_false (by omega)
        rw [hdn] at hdk
        have VVW : Hid (∀ wr, Below w2.heap.size w2 wr → VarT wr w.heap.size x y F k f) := fun wr h => VV2.out.below h
        clear FYE FNO FIS HBT1 HBT2 HBT3 HWN HWF hwa hwb HCP hdn hd0 VV2
        go_wp2_with fail
        generalize (w2.drewN q).alloc (.cells #[.int .i64 (i0 : Int)] 2) = w3 at *
        go_loopw [6, 8] (fun a o wr => ∃ (t : Nat) (A : Option Addr) (c : Nat), t ≤ dn ∧ a = .int .i64 (cP D x y i0 t : Nat) ∧ o = .slice A (pP D x y i0 t).length c ∧ Hid (GroI wr w2.heap.size (pP D x y i0 t) A c) ∧ Hid (Below w2.heap.size w2 wr)) (fun _ o _ => dn + 1 - lenV o)
        case atStart => exact ⟨0, _, _, Nat.zero_le _, rfl, rfl, O0, D0⟩
        case round =>
          clear O0 D0
          obtain ⟨t, A, c, ht, rfl, rfl, hO, hB⟩ := hrel
          obtain ⟨hc1, hc2⟩ := CPP.out t ht
          have PS := Lib.hid (HPS.out i0 t)
          have PL := HPL.out i0 t
          have CS : Hid (cP D x y i0 (t + 1) = nxF D x y (cP D x y i0 t)) := rfl
          rw [HDN.out] at hc1
          obtain ⟨tb, to, rfl, htb, htc⟩ := TR.out (by omega)
          have HTC : Hid (∀ wr, Below w2.heap.size w2 wr → ∀ j, j < k → wr.cell? ⟨tb, to + j, none⟩ = some (.int .i64 (D j))) := fun wr h j hj => (h.cell (p := ⟨tb, to + j, none⟩) htb).trans (htc j hj)
          generalize hcc : cP D x y i0 t = ci at *
          generalize hpl : pP D x y i0 t = PP at *
          have HCC := Lib.hid hcc
          have HPP := Lib.hid hpl
          have h1 := HTC.out wr hB.out ci hc2
          obtain ⟨dc, hdc⟩ : ∃ dc, D ci = dc := ⟨_, rfl⟩
          rw [hdc] at h1 hc1
          have hLP : PP.length ≤ 1048576 := by rw [PL]; omega
          have HPLL := Lib.hid PL
          have HDC := Lib.hid hdc
          clear htc htb hcc hpl PL
          by_cases htd : t < dn
          · have N := HNX.out ci (by rw [hdc]; omega)
            have hgt : 0 < dc := by omega
            have hlc : dc ≤ 256 := by omega
            have V := VVW.out wr hB.out
            have v0 := V.c0
            have v1 := V.c1
            have HBC := Lib.hid (HBE.out ci hc2)
            have HSI := Lib.hid (HNB.out ci hc2)
            have hl4 := HL4.out (ci : Int)
            have hGw := hB.out.size
            clear V hc1
            obtain ⟨n1, n2, n3, n4, n5, n6⟩ := N
            generalize nxR D x y ci = R at *
            generalize nxF D x y ci = c2 at *
            generalize sidL x y (ci : Int) = bs at *
            rw [hdc] at n3 n4
            have HN4 := Lib.hid n4
            clear n4 hdc
            go_wp2_with fail
            refine (HBC.out wr).mono ?_
            rintro e w5 ⟨X, cx, rfl, hX, hb5⟩
            have O5 := Lib.hid (hO.out.below hb5.out)
            have B5 := Lib.hid (hB.out.trans (hb5.out.mono hGw))
            clear hb5 HBC hO hB v0 v1 h1
            go_wp2_with fail
            go_loopw [10, 69] (fun u j wr => ∃ (i : Nat), j = .int .i64 i ∧ i ≤ bs.length ∧ u = .int .i64 (if i ≤ R then (ci : Int) else (c2 : Int)) ∧ ∃ q, wr = w5.drewN q) (fun _ j _ => bs.length - (intOf j).toNat)
            case atStart => exact ⟨0, rfl, Nat.zero_le _, by rw [if_pos (Nat.zero_le _)], 0, rfl⟩
            case round =>
              obtain ⟨i, rfl, hi, rfl, q2, rfl⟩ := hrel
              by_cases hil : i < bs.length
              · obtain ⟨xg, rfl⟩ := hX.out.adr hil
                have hx1 : w5.cell? ⟨xg, i, none⟩ = _ := hX.out.at hil
                obtain ⟨s0, s1⟩ := HSI.out i hil
                obtain ⟨sn, hsn⟩ : ∃ sn : Nat, atI bs i = (sn : Int) := ⟨(atI bs i).toNat, by omega⟩
                have t1 : w5.cell? ⟨tb, to + sn, none⟩ = _ := HTC.out w5 B5.out sn (by omega)
                have t2 : w5.cell? ⟨tb, to + ci, none⟩ = _ := HTC.out w5 B5.out ci hc2
                rw [HDC.out] at t2
                have hwr : IntKind.i64.wrap (dc - 1) = dc - 1 := IntWalk.i64_in _ (by omega)
                rcases Nat.lt_trichotomy i R with hlr | hlr | hlr
                · have hne := HN4.out i hlr sn hsn
                  have S : Hid ((if i + 1 ≤ R then (ci : Int) else (c2 : Int)) = ci) := if_pos (by omega)
                  rw [if_pos (by omega)]
                  rw [hsn] at hx1 s0 s1
                  clear hsn
                  generalize D sn = ds at *
                  have hnb : (ds == (dc - 1)) = false := by rw [beq_eq_false_iff_ne]; exact hne
                  clear hne
                  go_wp2_with fail
                  go_quiet (fail)
                  go_wp2_with fail
                  go_roundw
                  case rel => exact ⟨i + 1, by go_num, by omega, by rw [S.out], _, by first | rfl | rw [World.drewN_drewN]⟩
                  case measure => simp [intOf]; omega
                · subst hlr
                  rw [n2] at hsn
                  obtain rfl : sn = c2 := by omega
                  have S : Hid ((if i + 1 ≤ i then (ci : Int) else (sn : Int)) = sn) := if_neg (by omega)
                  rw [if_pos (Nat.le_refl _)]
                  rw [n2] at hx1 s0 s1
                  rw [n3] at t1
                  clear hsn
                  go_wp2_with fail
                  go_quiet (fail)
                  go_wp2_with fail
                  go_roundw
                  case rel => exact ⟨i + 1, by go_num, by omega, by rw [S.out], _, by first | rfl | rw [World.drewN_drewN]⟩
                  case measure => simp [intOf]; omega
                · have S : Hid ((if i + 1 ≤ R then (ci : Int) else (c2 : Int)) = c2) := if_neg (by omega)
                  rw [if_neg (by omega)]
                  have hnq : ((c2 : Int) == (ci : Int)) = false := by rw [beq_eq_false_iff_ne]; omega
                  clear hsn
                  go_wp2_with fail
                  go_quiet (fail)
                  go_wp2_with fail
                  go_roundw
                  case rel => exact ⟨i + 1, by go_num, by omega, by rw [S.out], _, by first | rfl | rw [World.drewN_drewN]⟩
                  case measure => simp [intOf]; omega
              · obtain rfl : i = bs.length := by omega
                rw [if_neg (by omega)]
                have hLG : w2.heap.size ≤ (w5.drewN q2).heap.size := B5.out.size
                have B6 : Hid (Below w2.heap.size w2 (w5.drewN q2)) := belowN B5.out
                have O6 : Hid (GroI (w5.drewN q2) w2.heap.size PP A c) := GroI.dn O5.out
                clear O5 B5
                go_wp2_with (at_builtin; refine isAppI _ _ rfl ?_; refine wpGroI rfl _ _ rfl (w0 := w5.drewN q2) (y := (c2 : Int)) O6.out rfl (by first | rfl | simp [Act.eval]) (by first | rfl | simp [Act.eval]) hLP hLG ?_; intro g7 c7 w7 O7 B7; have HO7 := Lib.hid O7; have HB7 := Lib.hid (B6.out.trans B7); clear O7 B7)
                go_roundw
                case rel => exact ⟨t + 1, _, c7, by omega, by rw [CS.out], by rw [PS.out, CS.out, List.length_append]; rfl, by rw [PS.out, CS.out]; exact HO7, HB7⟩
                case measure => simp [lenV]; have := HPLL.out; omega
          · obtain rfl : t = dn := by omega
            obtain rfl : dc = 0 := by omega
            clear hc1 hdc
            go_wp2_with fail
            rw [HPLL.out]
            go_ret2
            refine ⟨A, c, by rw [HW2.out, HW0.out]; rfl, ?_, HB2.out.trans (hB.out.mono HB2.out.size)⟩
            rw [HW0.out, HW1.out, HPP.out]
            have := hO.out.rowW
            rw [HPLL.out] at this
            exact this.lower HB2.out.size

end Go.Proofs.Yteojpmnnpinpeaa
