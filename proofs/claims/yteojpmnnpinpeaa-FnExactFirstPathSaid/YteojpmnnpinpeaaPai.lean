/-
  What is proved here: FirstPath, as the program tells it, as a walk. Conditions: a valid field.
-/
import Derived.Test.YteojpmnnpinpeaaPas
import Derived.Test.YteojpmnnpinpeaaBui
namespace Go.Proofs.Yteojpmnnpinpeaa
open Go.RowKit
set_option linter.unusedVariables false
set_option linter.unusedSimpArgs false

theorem froz1_new (W : World) (v : Value) (t : TypeId) : (W.alloc (.cells #[v] t)).frozen? ⟨W.heap.size, 0, none⟩ = false := by simp [World.frozen?, World.alloc, -World.alloc_eq]
theorem ButA.cell {A : Option Addr} {w w' : World} (h : ButA A w w') {b o : Nat} (hb : b < w.heap.size) (hd : ∀ a, A = some a → a.block ≠ b) : w'.cell? ⟨b, o, none⟩ = w.cell? ⟨b, o, none⟩ := World.cell?_of_block (w := w) (h.block b hb hd)
theorem ButA.froz {A : Option Addr} {w w' : World} (h : ButA A w w') {b o : Nat} (hb : b < w.heap.size) (hd : ∀ a, A = some a → a.block ≠ b) : w'.frozen? ⟨b, o, none⟩ = w.frozen? ⟨b, o, none⟩ := World.frozen?_of_block (w := w) (h.block b hb hd)
set_option maxHeartbeats 4000000 in
theorem cloPat (tv cv tb to tc n s a : Nat) (D : Nat → Int) (w : World) (ht : w.cell? ⟨tv, 0, none⟩ = some (.slice (some ⟨tb, to, none⟩) n tc)) (hc : w.cell? ⟨cv, 0, none⟩ = some (.int .i64 (a : Int))) (hs : s < n) (ha : a < n) (h1 : w.cell? ⟨tb, to + s, none⟩ = some (.int .i64 (D s))) (h2 : w.cell? ⟨tb, to + a, none⟩ = some (.int .i64 (D a))) (hb : -1 ≤ D a ∧ D a ≤ 256) (hn : n ≤ 256) :
    Calls Try.prog 91 #[.int .i64 (s : Int), .pointer (some ⟨tv, 0, none⟩), .pointer (some ⟨cv, 0, none⟩)] w fun e w' => e = .returned (.bool (D s == D a - 1)) ∧ ∃ k, w' = w.drewN k := by
  have hwr : IntKind.i64.wrap (D a - 1) = D a - 1 := IntWalk.i64_in _ (by omega)
  generalize D s = ds at *
  generalize D a = da at *
  go_enter Try.func91, Try.ntmps91
  go_wp2_with fail
  go_quiet (fail)
  go_wp2_with fail
  go_ret
  exact ⟨rfl, _, rfl⟩

set_option maxHeartbeats 4000000 in
theorem idxPat (tv cv R xg cx : Nat) (bs : List Int) (w : World) (hR : R < bs.length) (hl : bs.length ≤ 4) (hX : ∀ i, i < bs.length → w.cell? ⟨xg, i, none⟩ = some (.int .i64 (atI bs i)))
    (hC : ∀ (q i : Nat), i ≤ R → Calls Try.prog 91 #[.int .i64 (atI bs i), .pointer (some ⟨tv, 0, none⟩), .pointer (some ⟨cv, 0, none⟩)] (w.drewN q) fun e w' => e = .returned (.bool (decide (i = R))) ∧ ∃ k, w' = (w.drewN q).drewN k) :
    Calls Try.prog 90 #[.slice (some ⟨xg, 0, none⟩) bs.length cx, .func (.func 91) #[] #[.pointer (some ⟨tv, 0, none⟩), .pointer (some ⟨cv, 0, none⟩)]] w fun e w' => e = .returned (.int .i64 (R : Int)) ∧ ∃ k, w' = w.drewN k := by
  have HX := Lib.hid hX
  have HC := Lib.hid hC
  clear hX hC
  go_enter Try.func90, Try.ntmps90
  go_wp2
  go_loopw [8] (fun i wr => ∃ k : Nat, k ≤ R ∧ i = .int .i64 k ∧ ∃ q, wr = w.drewN q) (fun i _ => R - (intOf i).toNat)
  case atStart => exact ⟨0, Nat.zero_le _, rfl, 0, rfl⟩
  case round =>
    obtain ⟨k, hk, rfl, q, rfl⟩ := hrel
    have hkn : k < bs.length := by omega
    have hc := HX.out k hkn
    have HK := Lib.hid (HC.out q k hk)
    generalize atI bs k = u at *
    by_cases hlt : k < R
    · rw [decide_eq_false (by omega : ¬ k = R)] at HK
      go_wp2_with (go_at_call 91; refine HK.out.mono ?_; rintro e w' ⟨rfl, k2, rfl⟩)
      go_roundw
      case rel => exact ⟨k + 1, by omega, by go_num, _, by first | rfl | rw [World.drewN_drewN]⟩
      case measure => simp [intOf]; omega
    · obtain rfl : k = R := by omega
      rw [decide_eq_true rfl] at HK
      go_wp2_with (go_at_call 91; refine HK.out.mono ?_; rintro e w' ⟨rfl, k2, rfl⟩)
      go_ret
      exact ⟨rfl, _, by first | rfl | rw [World.drewN_drewN]⟩

set_option maxHeartbeats 16000000 in
set_option maxRecDepth 1000000 in
theorem implPat (x y : Int) (F : Option Addr) (n f : Nat) (p : Nat → Bool) (w : World) (hn : n ≤ 1048576) (hr : RowV w w.heap.size F n (bo p)) (h : fvB x y n = true) :
    Calls Try.prog 30 #[.agg #[.int .i64 x, .int .i64 y, .slice F n f]] w fun e w' => ∃ A c, e = .returned (.tuple #[.slice A (wyN (burnT p x y n) x n) c, .bool (decide (0 ≤ enP (burnT p x y n) x n))]) ∧ Hid (RowW w' w.heap.size w'.heap.size A (wyN (burnT p x y n) x n) (iv (wyF (burnT p x y n) x y n))) ∧ Hid (Below w.heap.size w w') := by
  obtain ⟨⟨hx, hy⟩, hnn, hn1, hn2⟩ := fvB_yes h
  have hsd : sidB x y = true := by
    cases e : sidB x y with
    | true => rfl
    | false => rw [fvB_1 e] at h; cases h
  have B0 := below_var w x y F n f 35
  have V0 := varT_new w x y F n f 35
  have HB := Lib.hid B0
  have HV := Lib.hid V0
  have HC := Lib.hid (implBurn x y F n f p (w.alloc (.cells #[.int .i64 x, .int .i64 y, .slice F n f] 35)) h (hr.carry B0))
  have HFU : Hid (∀ W, Below w.heap.size w W → Calls Try.prog 81 #[.agg #[.int .i64 x, .int .i64 y, .slice F n f]] W fun e w' => ∃ A' c', e = .returned (.slice A' (fulL p n).length c') ∧ Hid (GroI w' W.heap.size (fulL p n) A' c') ∧ Hid (Below W.heap.size W w')) := fun W hW => implFull x y F n f p W (hr.carry hW) (by omega)
  have HBL : Hid (∀ (i : Nat) (W : World), Calls Try.prog 88 #[.agg #[.int .i64 x, .int .i64 y, .slice F n f], .int .i64 (i : Int)] W fun e w' => e = .returned (.bool (decide ((n : Int) - x ≤ (i : Int)))) ∧ Hid (Below W.heap.size W w')) := fun i W => isBlwB x y i F n f W hx hn2
  have HSI : Hid (∀ (i : Nat) (W : World), i < n → Calls Try.prog 89 #[.int .i64 x, .int .i64 y, .int .i64 (i : Int)] W fun e w' => ∃ A c, e = .returned (.slice A (sidL x y i).length c) ∧ Hid (GroI w' (W.heap.size + 1) (sidL x y i) A c) ∧ Hid (Below W.heap.size W w')) := fun i W hi => implSid x y i hsd (by omega) (by omega) W
  have hD : Dist (pB p n) x y n (burnT p x y n) := dT_dist (pB_lt p n)
  have HNX : Hid (∀ a : Nat, 0 < burnT p x y n a → NxtP (burnT p x y n) x y n a (nxR (burnT p x y n) x y a) (nxF (burnT p x y n) x y a)) := fun a ha => nxt_is hD hx.1 hnn (pB_lt p n) ha
  have HCP : Hid (∀ a : Nat, a < n → ∀ k : Nat, (k : Int) ≤ burnT p x y n a → burnT p x y n (cP (burnT p x y n) x y a k) = burnT p x y n a - k ∧ cP (burnT p x y n) x y a k < n) := fun a ha k hk => cP_is hD hx.1 hnn (pB_lt p n) ha k hk
  have HNB : Hid (∀ i : Nat, i < n → ∀ j, j < (sidL x y i).length → 0 ≤ atI (sidL x y i) j ∧ atI (sidL x y i) j < n) := fun i hi j hj => (nb_ok hx.1 hnn).inn i (by omega) (by omega) _ (getD_mem hj)
  have HL4 : Hid (∀ i : Int, (sidL x y i).length ≤ 4) := fun i => sidL_len x y i
  have HHI : Hid (∀ i, burnT p x y n i ≤ n) := hD.high
  have HLO : Hid (∀ i, -1 ≤ burnT p x y n i) := hD.low
  have HFE : Hid (eE (burnT p x y n) ((n : Int) - x) (fulL p n) = fE (burnT p x y n) ((n : Int) - x) n) := eE_full (fun i hi => by have h9 := hD.full i hi; unfold pB at h9; rw [Bool.and_eq_true] at h9; exact h9.2) n
  have FIS : Hid (fE (burnT p x y n) ((n : Int) - x) n = -1 ∨ ∃ i : Nat, fE (burnT p x y n) ((n : Int) - x) n = i ∧ i < n ∧ 0 ≤ burnT p x y n i) := fE_is n
  have HFM : Hid (∀ j, j < (fulL p n).length → ∃ s : Nat, atI (fulL p n) j = (s : Int) ∧ s < n ∧ p s = true) := fun j hj => by
    obtain ⟨s, h1, h2, h3⟩ := fulL_mem.1 (getD_mem hj)
    exact ⟨s, h1, h2, h3⟩
  have HLM : Hid (∀ j, eE (burnT p x y n) ((n : Int) - x) ((fulL p n).take j) = -1 ∨ ∃ i : Nat, eE (burnT p x y n) ((n : Int) - x) ((fulL p n).take j) = i ∧ i < n) := fun j => by
    rcases eE_is (D := burnT p x y n) (m := (n : Int) - x) (L := (fulL p n).take j) (fun b hb => by
      obtain ⟨s, h1, h2, h3⟩ := fulL_mem.1 (List.mem_of_mem_take hb); omega) with e | ⟨h1, _⟩
    · exact .inl e
    · obtain ⟨s, e, h2, _⟩ := fulL_mem.1 (List.mem_of_mem_take h1)
      exact .inr ⟨s, e, h2⟩
  have HSN : Hid (∀ j s : Nat, j < (fulL p n).length → atI (fulL p n) j = (s : Int) → eE (burnT p x y n) ((n : Int) - x) ((fulL p n).take (j + 1)) = if btE (burnT p x y n) ((n : Int) - x) (eE (burnT p x y n) ((n : Int) - x) ((fulL p n).take j)) s = true then (s : Int) else eE (burnT p x y n) ((n : Int) - x) ((fulL p n).take j)) := fun j s hj hs => by
    rw [show (fulL p n).take (j + 1) = (fulL p n).take j ++ [(s : Int)] by
      rw [List.take_succ_eq_append_getElem hj, ← hs, atI_getD, List.getD_eq_getElem?_getD, List.getElem?_eq_getElem hj]; rfl, eE_snoc]
  have HFL : Hid ((fulL p n).length ≤ n) := by show _ ≤ _; rw [fulL_len]; exact fulN_le _ _
  have HPS : Hid (∀ a k, pP (burnT p x y n) x y a (k + 1) = pP (burnT p x y n) x y a k ++ [(cP (burnT p x y n) x y a (k + 1) : Int)]) := fun a k => pP_succ _ _ _ a k
  have HPL : Hid (∀ a k, (pP (burnT p x y n) x y a k).length = k + 1) := fun a k => pP_len _ _ _ a k
  have HWN : Hid (wyN (burnT p x y n) x n = if 0 ≤ fE (burnT p x y n) ((n : Int) - x) n then (burnT p x y n (fE (burnT p x y n) ((n : Int) - x) n).toNat).toNat + 1 else 0) := rfl
  have HWF : Hid (wyF (burnT p x y n) x y n = atI (pP (burnT p x y n) x y (fE (burnT p x y n) ((n : Int) - x) n).toNat (burnT p x y n (fE (burnT p x y n) ((n : Int) - x) n).toNat).toNat)) := rfl
  have HWE : Hid (enP (burnT p x y n) x n = fE (burnT p x y n) ((n : Int) - x) n) := rfl
  have HBT : Hid (∀ (a : Int) (k : Nat), btE (burnT p x y n) ((n : Int) - x) a k = ((decide ((n : Int) - x ≤ k) && decide (0 ≤ burnT p x y n k)) && (decide (a < 0) || decide (burnT p x y n k < burnT p x y n a.toNat)))) := fun a k => rfl
  have hxx : (w.alloc (.cells #[.int .i64 x, .int .i64 y, .slice F n f] 35)).heap.size = w.heap.size + 1 := by simp
  have HXX := Lib.hid hxx
  have v0 := V0.c0
  have v1 := V0.c1
  have v2 := V0.c2
  clear hr h B0 V0 hnn hD hx hy hsd hxx
  generalize wyN (burnT p x y n) x n = wN at *
  generalize wyF (burnT p x y n) x y n = wF at *
  generalize enP (burnT p x y n) x n = eP at *
  generalize burnT p x y n = D at *
  generalize (n : Int) - x = mI at *
  go_enter Try.func30, Try.ntmps30
  go_wp2_with fail
  generalize w.alloc (.cells #[.int .i64 x, .int .i64 y, .slice F n f] 35) = b at *
  refine HC.out.mono ?_
  rintro e w2 ⟨TA, tc, rfl, hW, hb2⟩
  have B2 := Lib.hid (HB.out.trans (hb2.out.mono HB.out.size))
  have VV2 := Lib.hid (HV.out.below hb2.out)
  obtain ⟨tb, to, rfl, _, htb, htc, _⟩ := hW.out.row (by omega)
  have HTC2 : Hid (∀ wr, Below w2.heap.size w2 wr → ∀ j, j < n → wr.cell? ⟨tb, to + j, none⟩ = some (.int .i64 (D j))) := fun wr h j hj => (h.cell (p := ⟨tb, to + j, none⟩) htb).trans (htc j hj)
  have A3 : Hid (Below w2.heap.size w2 (w2.alloc (.cells #[.slice (some ⟨tb, to, none⟩) n tc] 32))) := below_oneB _ _ (Nat.le_refl _)
  have TV3 : Hid ((w2.alloc (.cells #[.slice (some ⟨tb, to, none⟩) n tc] 32)).cell? ⟨w2.heap.size, 0, none⟩ = some (.slice (some ⟨tb, to, none⟩) n tc)) := cell1_new w2 _ _
  have hs3 : Hid ((w2.alloc (.cells #[.slice (some ⟨tb, to, none⟩) n tc] 32)).heap.size = w2.heap.size + 1) := by show _ = _; simp
  have V3 := VV2.out.below A3.out
  have B3 := Lib.hid (B2.out.trans (A3.out.mono B2.out.size))
  have HF3 := Lib.hid (HFU.out _ B3.out)
  have VV3 := Lib.hid V3
  have u0 := V3.c0
  have u1 := V3.c1
  have u2 := V3.c2
  clear hW hb2 HC HV HB v0 v1 v2 htc htb V3
  go_wp2_with fail
  refine HF3.out.mono ?_
  rintro e w4 ⟨LA, lc, rfl, hO, hb4⟩
  have B4 := Lib.hid (B3.out.trans (hb4.out.mono B3.out.size))
  have VV4 := Lib.hid (VV3.out.below hb4.out)
  have A4 := Lib.hid (A3.out.trans (hb4.out.mono A3.out.size))
  have tvl : w2.heap.size < w4.heap.size := by have := hb4.out.size; have := hs3.out; omega
  have TV4 : w4.cell? ⟨w2.heap.size, 0, none⟩ = some (.slice (some ⟨tb, to, none⟩) n tc) := (hb4.out.cell (p := ⟨w2.heap.size, 0, none⟩) (by show w2.heap.size < _; rw [hs3.out]; omega)).trans TV3.out
  -- what stands behind more memory
  have KK : Hid (∀ wr, Below w4.heap.size w4 wr → VarT wr w.heap.size x y F n f ∧ wr.cell? ⟨w2.heap.size, 0, none⟩ = some (.slice (some ⟨tb, to, none⟩) n tc) ∧ (∀ j, j < n → wr.cell? ⟨tb, to + j, none⟩ = some (.int .i64 (D j))) ∧ GroI wr w4.heap.size [] none 0 ∧ (∀ j lg, LA = some ⟨lg, 0, none⟩ → j < (fulL p n).length → wr.cell? ⟨lg, j, none⟩ = some (.int .i64 (atI (fulL p n) j)))) := fun wr h => by
    refine ⟨VV4.out.below h, (h.cell (p := ⟨w2.heap.size, 0, none⟩) tvl).trans TV4, HTC2.out wr (A4.out.trans (h.mono A4.out.size)), GroI.nil _ _, fun j lg e hj => ?_⟩
    subst e
    exact (hO.out.below h).at hj
  have HLA : Hid (∀ j, j < (fulL p n).length → ∃ lg, LA = some ⟨lg, 0, none⟩) := fun j hj => hO.out.adr hj
  have hLn : (fulL p n).length ≤ 256 := Nat.le_trans HFL.out hn2
  clear hO hb4 A4 A3 TV3 hs3 B3 B2 HF3 VV3 VV4 VV2 u0 u1 u2 HTC2 TV4 tvl HFL HFU
  generalize w2.heap.size = tv at *
  generalize fulL p n = L at *
  go_wp2_with fail
  go_loopw [7, 25] (fun a i wr => ∃ j : Nat, i = .int .i64 j ∧ j ≤ L.length ∧ a = .int .i64 (eE D mI (L.take j)) ∧ Hid (Below w4.heap.size w4 wr)) (fun _ i _ => L.length - (intOf i).toNat)
  case atStart => exact ⟨0, rfl, Nat.zero_le _, rfl, Below.refl _ _⟩
  case round =>
    obtain ⟨j, rfl, hj, rfl, hB⟩ := hrel
    by_cases hlt : j < L.length
    · obtain ⟨s, hs, hsn, hps⟩ := HFM.out j hlt
      have SN := HSN.out j s hlt hs
      obtain ⟨lg, hlg⟩ := HLA.out j hlt
      obtain ⟨hV, hT, hTC, _, hLC⟩ := KK.out wr hB.out
      have hl1 := hLC j lg hlg hlt
      rw [hs] at hl1
      subst hlg
      have v0 := hV.c0
      have v1 := hV.c1
      have v2 := hV.c2
      have vl := hV.lt
      have BT := HBT.out (eE D mI (L.take j)) s
      have LM := HLM.out j
      have HBL1 := HBL.out s wr
      have HK := KK
      clear hs hps hV hT hTC hLC
      generalize eE D mI (L.take j) = a at *
      by_cases hms : mI ≤ s
      · rw [decide_eq_true hms] at HBL1 BT
        have HB1 := Lib.hid HBL1
        clear HBL1
        by_cases hd : 0 ≤ D s
        · rw [decide_eq_true hd] at BT
          rcases LM with ea | ⟨i0, ea, hi0⟩
          · subst ea
            rw [show btE D mI (-1) s = true by rw [BT]; rfl, if_pos rfl] at SN
            have S := Lib.hid SN
            clear BT SN
            have htd : (wr.cell? ⟨tb, to + s, none⟩ = some (.int .i64 (D s))) := (KK.out wr hB.out).2.2.1 s hsn
            have HTD : Hid (∀ W, Below w4.heap.size w4 W → W.cell? ⟨tb, to + s, none⟩ = some (.int .i64 (D s)) ∧ W.cell? ⟨tv, 0, none⟩ = some (.slice (some ⟨tb, to, none⟩) n tc)) := fun W hW => ⟨(KK.out W hW).2.2.1 s hsn, (KK.out W hW).2.1⟩
            generalize D s = d at *
            clear htd
            go_wp2_with (go_at_call 88; refine HB1.out.mono ?_; rintro e w7 ⟨rfl, hb7⟩; have B7 := Lib.hid (hB.out.trans (hb7.out.mono hB.out.size)); obtain ⟨t1, t2⟩ := HTD.out w7 B7.out; clear hb7)
            go_quiet (fail)
            go_wp2_with fail
            go_roundw
            case rel => exact ⟨j + 1, by go_num, by omega, by rw [S.out], belowN B7.out⟩
            case measure => simp [intOf]; omega
          · subst ea
            have hnl : decide ((i0 : Int) < 0) = false := decide_eq_false (by omega)
            rw [hnl, Int.toNat_natCast, Bool.true_and, Bool.true_and, Bool.false_or] at BT
            have HTD : Hid (∀ W, Below w4.heap.size w4 W → W.cell? ⟨tb, to + s, none⟩ = some (.int .i64 (D s)) ∧ W.cell? ⟨tv, 0, none⟩ = some (.slice (some ⟨tb, to, none⟩) n tc) ∧ W.cell? ⟨tb, to + i0, none⟩ = some (.int .i64 (D i0))) := fun W hW => ⟨(KK.out W hW).2.2.1 s hsn, (KK.out W hW).2.1, (KK.out W hW).2.2.1 i0 hi0⟩
            by_cases hdd : D s < D i0
            · rw [decide_eq_true hdd] at BT
              rw [BT, if_pos rfl] at SN
              have S := Lib.hid SN
              clear BT SN
              generalize D s = d at *
              generalize D i0 = d0 at *
              go_wp2_with (go_at_call 88; refine HB1.out.mono ?_; rintro e w7 ⟨rfl, hb7⟩; have B7 := Lib.hid (hB.out.trans (hb7.out.mono hB.out.size)); obtain ⟨t1, t2, t3⟩ := HTD.out w7 B7.out; clear hb7)
              go_quiet (fail)
              go_wp2_with fail
              go_roundw
              case rel => exact ⟨j + 1, by go_num, by omega, by rw [S.out], belowN B7.out⟩
              case measure => simp [intOf]; omega
            · rw [decide_eq_false hdd] at BT
              rw [BT, if_neg (by decide)] at SN
              have S := Lib.hid SN
              clear BT SN
              generalize D s = d at *
              generalize D i0 = d0 at *
              have hnd : decide (d < d0) = false := decide_eq_false hdd
              go_wp2_with (go_at_call 88; refine HB1.out.mono ?_; rintro e w7 ⟨rfl, hb7⟩; have B7 := Lib.hid (hB.out.trans (hb7.out.mono hB.out.size)); obtain ⟨t1, t2, t3⟩ := HTD.out w7 B7.out; clear hb7)
              go_quiet (fail)
              go_wp2_with fail
              go_roundw
              case rel => exact ⟨j + 1, by go_num, by omega, by rw [S.out], belowN B7.out⟩
              case measure => simp [intOf]; omega
        · rw [decide_eq_false hd, Bool.and_false, Bool.false_and] at BT
          rw [BT, if_neg (by decide)] at SN
          have S := Lib.hid SN
          have HTD : Hid (∀ W, Below w4.heap.size w4 W → W.cell? ⟨tb, to + s, none⟩ = some (.int .i64 (D s)) ∧ W.cell? ⟨tv, 0, none⟩ = some (.slice (some ⟨tb, to, none⟩) n tc)) := fun W hW => ⟨(KK.out W hW).2.2.1 s hsn, (KK.out W hW).2.1⟩
          have hdf : decide (D s ≥ 0) = false := decide_eq_false hd
          clear BT SN LM
          generalize D s = d at *
          go_wp2_with (go_at_call 88; refine HB1.out.mono ?_; rintro e w7 ⟨rfl, hb7⟩; have B7 := Lib.hid (hB.out.trans (hb7.out.mono hB.out.size)); obtain ⟨t1, t2⟩ := HTD.out w7 B7.out; clear hb7)
          go_quiet (fail)
          go_wp2_with fail
          go_roundw
          case rel => exact ⟨j + 1, by go_num, by omega, by rw [S.out], belowN B7.out⟩
          case measure => simp [intOf]; omega
      · rw [decide_eq_false hms] at HBL1 BT
        have HB1 := Lib.hid HBL1
        rw [Bool.false_and, Bool.false_and] at BT
        rw [BT, if_neg (by decide)] at SN
        have S := Lib.hid SN
        clear HBL1 BT SN LM
        go_wp2_with (go_at_call 88; refine HB1.out.mono ?_; rintro e w7 ⟨rfl, hb7⟩; have B7 := Lib.hid (hB.out.trans (hb7.out.mono hB.out.size)); clear hb7)
        go_quiet (fail)
        go_wp2_with fail
        go_roundw
        case rel => exact ⟨j + 1, by go_num, by omega, by rw [S.out], belowN B7.out⟩
        case measure => simp [intOf]; omega
    · obtain rfl : j = L.length := by omega
      rw [List.take_length, HFE.out]
      have FI := FIS.out
      clear HSN HLM HFM HLA HBL HBT HFE FIS
      generalize hfk : fE D mI n = a at *
      rcases FI with e0 | ⟨i0, e0, hi0, hd0⟩
      · subst e0
        have HW0 : Hid (wN = 0) := by show _ = _; rw [HWN.out, if_neg (by decide)]
        clear HWN HWF
        go_wp2_with fail
        go_ret2
        exact ⟨none, 0, by rw [HWE.out, HW0.out]; rfl, by rw [HW0.out]; exact RowW.empty (Nat.le_refl _), B4.out.trans (hB.out.mono B4.out.size)⟩
      · subst e0
        obtain ⟨dn, hdn⟩ : ∃ dn : Nat, D i0 = (dn : Int) := ⟨(D i0).toNat, by omega⟩
        have HDN := Lib.hid hdn
        have HW0 : Hid (wN = dn + 1) := by show _ = _; rw [HWN.out, if_pos (by omega), Int.toNat_natCast, hdn, Int.toNat_natCast]
        have HW1 : Hid (wF = atI (pP D x y i0 dn)) := by show _ = _; rw [HWF.out, Int.toNat_natCast, hdn, Int.toNat_natCast]
        have HW2 : Hid (decide (0 ≤ eP) = true) := by show _ = _; rw [HWE.out]; exact decide_eq_true (by omega)
        have CPP := Lib.hid (fun t (ht : t ≤ dn) => HCP.out i0 hi0 t (by rw [hdn]; omega))
        have hdk := HHI.out i0
        rw [hdn] at hdk
        have hnl : decide ((i0 : Int) < 0) = false := decide_eq_false (by omega)
        have b5 : Below (wr.alloc (.cells #[.int .i64 (i0 : Int)] 2)).heap.size (wr.alloc (.cells #[.int .i64 (i0 : Int)] 2)) ((wr.alloc (.cells #[.int .i64 (i0 : Int)] 2)).alloc (.cells #[.int .i64 (i0 : Int)] 2)) := below_oneB _ _ (Nat.le_refl _)
        have O0 : Hid (GroI ((wr.alloc (.cells #[.int .i64 (i0 : Int)] 2)).alloc (.cells #[.int .i64 (i0 : Int)] 2)) wr.heap.size (pP D x y i0 0) (some ⟨wr.heap.size, 0, none⟩) 1) := (GroI.lit1 wr (Nat.le_refl _) (i0 : Int)).below b5
        have D0 : Hid (Below wr.heap.size wr ((wr.alloc (.cells #[.int .i64 (i0 : Int)] 2)).alloc (.cells #[.int .i64 (i0 : Int)] 2))) := ((Below.refl _ _).alloc (Nat.le_refl _) _).alloc (by simp) _
        have hz5 : (wr.alloc (.cells #[.int .i64 (i0 : Int)] 2)).heap.size = wr.heap.size + 1 := by simp
        have C0 : ((wr.alloc (.cells #[.int .i64 (i0 : Int)] 2)).alloc (.cells #[.int .i64 (i0 : Int)] 2)).cell? ⟨wr.heap.size + 1, 0, none⟩ = some (.int .i64 (i0 : Int)) := by rw [← hz5]; exact cell1_new _ _ _
        have E0 : ((wr.alloc (.cells #[.int .i64 (i0 : Int)] 2)).alloc (.cells #[.int .i64 (i0 : Int)] 2)).frozen? ⟨wr.heap.size + 1, 0, none⟩ = false := by rw [← hz5]; exact froz1_new _ _ _
        have hz6 : wr.heap.size + 1 < ((wr.alloc (.cells #[.int .i64 (i0 : Int)] 2)).alloc (.cells #[.int .i64 (i0 : Int)] 2)).heap.size := by simp
        have HC0 := Lib.hid C0
        have HE0 := Lib.hid E0
        have HZ6 := Lib.hid hz6
        have B5 := Lib.hid (B4.out.trans (hB.out.mono B4.out.size))
        have K5 : Hid (∀ W, Below wr.heap.size wr W → VarT W w.heap.size x y F n f ∧ W.cell? ⟨tv, 0, none⟩ = some (.slice (some ⟨tb, to, none⟩) n tc) ∧ (∀ j, j < n → W.cell? ⟨tb, to + j, none⟩ = some (.int .i64 (D j)))) := fun W hW => by
          obtain ⟨k1, k2, k3, _⟩ := KK.out W (hB.out.trans (hW.mono hB.out.size))
          exact ⟨k1, k2, k3⟩
        clear HWN HWF HCP hdn hd0 KK hB B4 C0 E0 hz5 hz6 b5
        generalize wr = w6 at *
        go_wp2_with fail
        generalize (w6.alloc (.cells #[.int .i64 (i0 : Int)] 2)).alloc (.cells #[.int .i64 (i0 : Int)] 2) = wz at *
        go_loopw [11, 12] (fun o u W => ∃ (t : Nat) (A : Option Addr) (c cv : Nat), t ≤ dn ∧ o = .slice A (pP D x y i0 t).length c ∧ u = .pointer (some ⟨cv, 0, none⟩) ∧ w6.heap.size ≤ cv ∧ cv < W.heap.size ∧ Hid (W.cell? ⟨cv, 0, none⟩ = some (.int .i64 (cP D x y i0 t : Nat))) ∧ Hid (W.frozen? ⟨cv, 0, none⟩ = false) ∧ Hid (∀ a, A = some a → a.block ≠ cv) ∧ Hid (GroI W w6.heap.size (pP D x y i0 t) A c) ∧ Hid (Below w6.heap.size w6 W)) (fun o _ _ => dn + 1 - lenV o)
        case atStart => exact ⟨0, _, _, _, Nat.zero_le _, rfl, rfl, Nat.le_succ _, HZ6.out, HC0, HE0, fun a ha => by injection ha with ha; subst ha; show w6.heap.size ≠ w6.heap.size + 1; omega, O0, D0⟩
        case round =>
          clear O0 D0 HC0 HE0 HZ6
          obtain ⟨t, A, c, cv, ht, rfl, rfl, hcv0, hcv1, hCE, hFR, hne, hO, hB⟩ := hrel
          obtain ⟨hc1, hc2⟩ := CPP.out t ht
          have PS := Lib.hid (HPS.out i0 t)
          have PL := HPL.out i0 t
          have CS : Hid (cP D x y i0 (t + 1) = nxF D x y (cP D x y i0 t)) := rfl
          rw [HDN.out] at hc1
          obtain ⟨hV, hT, hTC⟩ := K5.out _ hB.out
          have hce := hCE.out
          generalize hcc : cP D x y i0 t = ci at *
          generalize hpl : pP D x y i0 t = PP at *
          have HPP := Lib.hid hpl
          have h1 := hTC ci hc2
          obtain ⟨dc, hdc⟩ : ∃ dc, D ci = dc := ⟨_, rfl⟩
          have hdl := HLO.out ci
          rw [hdc] at h1 hc1 hdl
          have hLP : PP.length ≤ 1048576 := by rw [PL]; omega
          have HPLL := Lib.hid PL
          have HDC := Lib.hid hdc
          clear hcc hpl PL hTC hCE
          by_cases htd : t < dn
          · have N := HNX.out ci (by rw [hdc]; omega)
            have hgt : 0 < dc := by omega
            have hlc : dc ≤ 256 := by omega
            have v0 := hV.c0
            have v1 := hV.c1
            have HSC := Lib.hid (fun W => HSI.out ci W hc2)
            have HBN := Lib.hid (HNB.out ci hc2)
            have hl4 := HL4.out (ci : Int)
            obtain ⟨n1, n2, n3, n4, n5, n6⟩ := N
            generalize nxR D x y ci = R at *
            generalize nxF D x y ci = c2 at *
            generalize sidL x y (ci : Int) = bs at *
            have HN3 := Lib.hid n3
            have HN4 := Lib.hid n4
            have HN2 := Lib.hid n2
            clear n2 n3 n4 hdc hc1 hV
            go_wp2_with fail
            refine (HSC.out _).mono ?_
            rintro e w8 ⟨X, cx, rfl, hX, hb8⟩
            obtain ⟨xg, rfl⟩ := hX.out.adr n1
            have B8 := Lib.hid (hB.out.trans (hb8.out.mono hB.out.size))
            have O8 := Lib.hid (hO.out.below hb8.out)
            have c8 := (hb8.out.cell (p := ⟨cv, 0, none⟩) hcv1).trans hce
            have f8 := (hb8.out.frozen (p := ⟨cv, 0, none⟩) hcv1).trans hFR.out
            have hcv8 := Nat.lt_of_lt_of_le hcv1 hb8.out.size
            obtain ⟨hV8, hT8, hTC8⟩ := K5.out _ B8.out
            have HIX := Lib.hid (idxPat tv cv R xg cx bs w8 n1 hl4 (fun i hi => hX.out.at hi) (fun q2 i hi => by
              obtain ⟨s0, s1⟩ := HBN.out i (by omega)
              obtain ⟨sn, hsn⟩ : ∃ sn : Nat, atI bs i = (sn : Int) := ⟨(atI bs i).toNat, by omega⟩
              rw [hsn] at s0 s1 ⊢
              have CL := cloPat tv cv tb to tc n sn ci D (w8.drewN q2) hT8 c8 (by omega) hc2 (hTC8 sn (by omega)) (hTC8 ci hc2) (by rw [HDC.out]; omega) hn2
              have e1 : (D sn == D ci - 1) = decide (i = R) := by
                by_cases hiR : i = R
                · subst hiR
                  rw [HN2.out] at hsn
                  obtain rfl : c2 = sn := by omega
                  rw [HN3.out, decide_eq_true rfl, beq_self_eq_true]
                · rw [decide_eq_false hiR, beq_eq_false_iff_ne]
                  exact HN4.out i (by omega) sn hsn
              rw [e1] at CL
              exact CL))
            have hxr := hX.out.at n1
            rw [HN2.out] at hxr
            have hRl : (R : Int) < bs.length := by omega
            have hsz8 := hb8.out.size
            clear hb8 HSC hB hO hce hFR v0 v1 h1 hT hV8 hT8 hTC8 hX HBN
            go_wp2_with fail
            refine HIX.out.mono ?_
            rintro e w9 ⟨rfl, k9, rfl⟩
            have O9 : Hid (GroI (((w8.drewN k9).setCell ⟨cv, 0, none⟩ (.int .i64 (c2 : Int))).alloc (.cells #[.int .i64 (c2 : Int)] 2)) w6.heap.size PP A c) := ((GroI.dn (n := k9) O8.out).butA (A := some ⟨cv, 0, none⟩) (ButA.setCell (q := ⟨cv, 0, none⟩) (fun a ha => by injection ha with ha; rw [← ha]) (by simp) _) (fun a z ha hz => by injection ha with ha; subst ha; exact (hne.out z hz).symm)).below (below_oneB _ _ (Nat.le_refl _))
            have B9 : Hid (Below w6.heap.size w6 (((w8.drewN k9).setCell ⟨cv, 0, none⟩ (.int .i64 (c2 : Int))).alloc (.cells #[.int .i64 (c2 : Int)] 2))) := (Below.setCell (p := ⟨cv, 0, none⟩) (belowN (n := k9) B8.out) hcv0 _).trans (below_oneB _ _ (by simp [World.setCell]; omega))
            have hz9 : ((w8.drewN k9).setCell ⟨cv, 0, none⟩ (.int .i64 (c2 : Int))).heap.size = w8.heap.size := by simp [World.setCell]
            have c9 : (((w8.drewN k9).setCell ⟨cv, 0, none⟩ (.int .i64 (c2 : Int))).alloc (.cells #[.int .i64 (c2 : Int)] 2)).cell? ⟨w8.heap.size, 0, none⟩ = some (.int .i64 (c2 : Int)) := by rw [← hz9]; exact cell1_new _ _ _
            have f9 : (((w8.drewN k9).setCell ⟨cv, 0, none⟩ (.int .i64 (c2 : Int))).alloc (.cells #[.int .i64 (c2 : Int)] 2)).frozen? ⟨w8.heap.size, 0, none⟩ = false := by rw [← hz9]; exact froz1_new _ _ _
            have hs9 : (((w8.drewN k9).setCell ⟨cv, 0, none⟩ (.int .i64 (c2 : Int))).alloc (.cells #[.int .i64 (c2 : Int)] 2)).heap.size = w8.heap.size + 1 := by simp [World.setCell]
            have hA8 : Hid (∀ a, A = some a → a.block < w8.heap.size) := fun a ha => (O8.out.lt a ha).2
            have HF9 := Lib.hid f9
            have HC9 := Lib.hid c9
            have HS9 := Lib.hid hs9
            have hgw : w6.heap.size ≤ w8.heap.size := Nat.le_trans hcv0 (Nat.le_of_lt hcv8)
            clear HIX O8 B8 hz9 f9
            go_wp2_with (at_builtin; refine isAppI _ _ rfl ?_; refine wpGroY rfl _ _ rfl (w0 := ((w8.drewN k9).setCell ⟨cv, 0, none⟩ (.int .i64 (c2 : Int))).alloc (.cells #[.int .i64 (c2 : Int)] 2)) (y := (c2 : Int)) O9.out rfl rfl (by first | rfl | simp [Act.eval, World.setCell]) hLP (by rw [hs9]; omega) ?_; intro g7 c7 w7 O7 b7 f7; have HO7 := Lib.hid O7; have HB7 := Lib.hid b7; have HF7 := Lib.hid f7; clear O7 b7 f7)
            have hlt9 : w8.heap.size < (((w8.drewN k9).setCell ⟨cv, 0, none⟩ (.int .i64 (c2 : Int))).alloc (.cells #[.int .i64 (c2 : Int)] 2)).heap.size := by rw [HS9.out]; omega
            have hdA : ∀ a, A = some a → a.block ≠ w8.heap.size := fun a ha => by have := hA8.out a ha; omega
            have B10 := Lib.hid (HB7.out.below B9.out (by rw [HS9.out]; omega) (fun a ha => (O9.out.lt a ha).1))
            have F10 : Hid (∀ a, (some (⟨g7, 0, none⟩ : Addr)) = some a → a.block ≠ w8.heap.size) := fun a ha => by
              injection ha with ha
              subst ha
              rcases HF7.out with ⟨z, e1, e2⟩ | hge
              · have := hdA z e1
                show g7 ≠ w8.heap.size
                omega
              · have := HS9.out
                show g7 ≠ w8.heap.size
                omega
            have C10 : Hid (w7.cell? ⟨w8.heap.size, 0, none⟩ = some (.int .i64 (cP D x y i0 (t + 1) : Nat))) := by
              show _ = _
              rw [CS.out]
              exact (HB7.out.cell hlt9 hdA).trans HC9.out
            have E10 : Hid (w7.frozen? ⟨w8.heap.size, 0, none⟩ = false) := (HB7.out.froz hlt9 hdA).trans HF9.out
            have hs10 : w8.heap.size < w7.heap.size := Nat.lt_of_lt_of_le hlt9 HB7.out.size
            go_roundw
            case rel => exact ⟨t + 1, _, c7, w8.heap.size, by omega, by rw [PS.out, CS.out, List.length_append]; rfl, rfl, hgw, hs10, C10, E10, F10, by rw [PS.out, CS.out]; exact HO7, B10⟩
            case measure => simp [lenV]; have := HPLL.out; omega
          · obtain rfl : t = dn := by omega
            obtain rfl : dc = 0 := by omega
            clear hc1 hdc hdl
            go_wp2_with fail
            rw [HPLL.out]
            go_ret2
            refine ⟨A, c, by rw [HW2.out, HW0.out]; rfl, ?_, B5.out.trans (hB.out.mono B5.out.size)⟩
            rw [HW0.out, HW1.out, HPP.out]
            have := hO.out.rowW
            rw [HPLL.out] at this
            exact this.lower B5.out.size

end Go.Proofs.Yteojpmnnpinpeaa
