/-
  What is proved here: l04After as a walk. Conditions: a valid grammar; texts of at most 32 letters.
-/
import Derived.Test.YtckhdbnoihieeaaLtB
namespace Go.Proofs.Ytckhdbnoihieeaa
open Go.RowKit

/-- what counting leaves -/
def AfterP (o : Option (Nat → Int)) (w : World) (e : Ending) (w' : World) : Prop :=
  match o with
  | some f => ∃ g, e = .returned (.tuple #[.slice (some ⟨g, 0, none⟩) 27 27, .bool true]) ∧ w.heap.size ≤ g ∧ Hid (OneI w' g 27 f) ∧ Hid (Below w.heap.size w w')
  | none => e = .returned (.tuple #[.slice none 0 0, .bool false]) ∧ Hid (Below w.heap.size w w')
theorem oneI_start (w : World) (n : Nat) : OneI (w.alloc (.cells (madeCells #[.int .i64 0] n) 2)) w.heap.size n (fun _ => 0) := by
  refine ⟨by simp, fun j hj => ?_, fun j => ?_⟩
  · have h : (madeCells #[.int .i64 0] n)[j]? = some (.int .i64 0) := by simp [madeCells, hj, Nat.mod_one]
    simp [World.cell?, World.alloc, -World.alloc_eq, h]
  · simp [World.frozen?, World.alloc, -World.alloc_eq]
theorem enc_cap (q : Nat) (h : q < 26) : Utf8.encode (65 + (q : Int)) = key1 (capU q) := by
  have e : (65 + (q : Int)).toNat = 65 + q := by omega
  have hv : Utf8.valid (65 + (q : Int)) = true := by simp [Utf8.valid]; omega
  unfold Utf8.encode
  simp only [hv, e, if_true]
  rw [if_pos (by omega)]
  rfl
theorem OneI.drew {w : World} {G n : Nat} {f : Nat → Int} (h : OneI w G n f) : OneI w.drew G n f := ⟨h.size, h.cell, h.free⟩
theorem afterP_none {o : Option (Nat → Int)} {w w' : World} (h : o = none) (hb : Hid (Below w.heap.size w w')) : AfterP o w (.returned (.tuple #[.slice none 0 0, .bool false])) w' := by subst h; exact ⟨rfl, hb⟩
theorem afterP_some {o : Option (Nat → Int)} {f : Nat → Int} {g : Nat} {w w' : World} (h : o = some f) (hg : w.heap.size ≤ g) (ho : Hid (OneI w' g 27 f)) (hb : Hid (Below w.heap.size w w')) : AfterP o w (.returned (.tuple #[.slice (some ⟨g, 0, none⟩) 27 27, .bool true])) w' := by subst h; exact ⟨g, rfl, hg, ho, hb⟩

/-- a row on its way -/
def mixJ (f g : Nat → Int) (k : Nat) (j : Nat) : Int := if j < k then g j else f j
theorem mixJ_step (f g : Nat → Int) (k : Nat) : mixJ f g (k + 1) = fun j => if j = k then g k else mixJ f g k j := by
  funext j
  unfold mixJ
  by_cases e : j = k
  · subst e; rw [if_pos (by omega), if_pos rfl]
  · rw [if_neg e]
    by_cases h : j < k
    · rw [if_pos h, if_pos (by omega)]
    · rw [if_neg h, if_neg (by omega)]

set_option maxHeartbeats 16000000 in
set_option maxRecDepth 1000000 in
theorem specAfter (x n cc m : Nat) (A : Option Addr) (st : ByteArray) (ss : List ByteArray) (w : World) (V : VarG w x st A n cc) (hr : RowU w w.heap.size A ss) (hn : ss.length = 2 * n) (hN : n ≤ 1048576) (hT : ∀ c, (tx ss n c).size ≤ 32) (hst : st.size ≤ 32) (hm : m ≤ 64) :
    Calls Try.prog 77 #[.pointer (some ⟨x, 0, none⟩), .int .i64 m] w (AfterP (afN ss n st m) w) := by
  obtain ⟨i0, hi, hz0, hz1, hz2⟩ := info_parts info_i64
  have hmk := fun W => run_make_rowN (P := Try.prog) 51 2 i0 (.int .i64 0) Try.underlying51 hi hz0 .i64 .i64 27 27 (Nat.le_refl _) (by rw [hz2]; omega) (by omega) W
  rw [hz1, Nat.mul_one] at hmk
  have hmk2 : ∀ W : World, (Instr.makeSlice 51 (.int .i64 27) (.int .i64 27)).run Try.prog W = _ := hmk
  have HMK := Lib.hid hmk2
  have HV := Lib.hid V
  have HR := Lib.hid hr
  have HL := Lib.hid hn
  have HTX := Lib.hid hT
  have c0 := V.c0
  have HST : Hid (Bd (ltC st.data.toList)) := fun j _ => by
    have := ltC_le st.data.toList j
    have h2 : st.data.toList.length ≤ 32 := by simpa using hst
    omega
  clear hmk hmk2 hi hz0 hz1 hz2 V hr hn hT
  go_enter Try.func77, Try.ntmps77
  go_wp2_with fail
  refine (specLt st (by omega) _).mono ?_
  rintro e w1 ⟨rfl, hO, hB⟩
  have HO : Hid (OneI w1 w.heap.size 27 (ltC st.data.toList)) := hO.out.i
  have HX : Hid (w.heap.size ≤ w.heap.size) := Nat.le_refl _
  clear hO c0
  go_wp2_with fail
  generalize hG : w.heap.size = X at *
  have HG := Lib.hid hG
  clear hG
  go_loopw [6, 7] (fun o i wr => ∃ (k g : Nat) (f : Nat → Int), k ≤ m ∧ X ≤ g ∧ i = .int .i64 k ∧ o = .slice (some ⟨g, 0, none⟩) 27 27 ∧ Hid (OneI wr g 27 f) ∧ Hid (afN ss n st k = some f) ∧ Hid (Bd f) ∧ Hid (Below X w wr)) (fun _ i _ => m - (intOf i).toNat)
  case atStart => exact ⟨0, X, _, Nat.zero_le _, Nat.le_refl _, rfl, rfl, HO, rfl, HST, hB⟩
  case round =>
    obtain ⟨k, g, f, hk, hg, rfl, rfl, hO2, hA, hD, hB2⟩ := hrel
    by_cases hlt : k < m
    · have hmk := HMK.out
      have b1 : Below wr.heap.size wr (wr.alloc (.cells (madeCells #[.int .i64 0] 27) 2)) := (Below.refl _ _).alloc (Nat.le_refl _) _
      have S0 := oneI_start wr 27
      have N0 := hO2.out.below b1
      have d26 := S0.cell 26 (by omega)
      have f26 := S0.free 26
      have c26 := N0.cell 26 (by omega)
      have S1 := Lib.hid ((S0.step (k := 26) (x := f 26) (by omega) rfl).ext (g := nxP f (byF ss n) 0) fun j _ => by unfold nxP; rfl)
      have N1 := Lib.hid (N0.other (q := ⟨wr.heap.size, 26, none⟩) (by have := hO2.out.size; show wr.heap.size ≠ g; omega) (.int .i64 (f 26)))
      have XH : X ≤ wr.heap.size := by have := hO2.out.size; omega
      have hgh : g < wr.heap.size := hO2.out.size
      have B1 : Hid (Below X w ((wr.alloc (.cells (madeCells #[.int .i64 0] 27) 2)).setCell ⟨wr.heap.size, 26, none⟩ (.int .i64 (f 26)))) := (hB2.out.trans (b1.mono XH)).setCell XH _
      have hE : (wr.alloc (.cells (madeCells #[.int .i64 0] 27) 2)).setCell ⟨wr.heap.size, 26, none⟩ (.int .i64 (f 26)) = wr.alloc (.cells ((madeCells #[.int .i64 0] 27).setIfInBounds 26 (.int .i64 (f 26))) 2) := by simp [go_sem]
      rw [hE] at S1 N1 B1
      clear S0 N0 b1 hO2 hB2 hE
      go_wp2_with fail
      clear d26 f26 c26 hmk
      generalize wr.alloc (.cells ((madeCells #[.int .i64 0] 27).setIfInBounds 26 (.int .i64 (f 26))) 2) = a1 at *
      generalize wr.heap.size = h at *
      have HH : Hid (X ≤ h ∧ g < h) := ⟨XH, hgh⟩
      clear XH hgh
      go_loopw [9] (fun i wr => ∃ q : Nat, q ≤ 26 ∧ i = .int .i64 q ∧ Hid (OneI wr h 27 (nxP f (byF ss n) q)) ∧ Hid (OneI wr g 27 f) ∧ Hid (Below X w wr)) (fun i _ => 26 - (intOf i).toNat)
      case atStart => exact ⟨0, Nat.zero_le _, rfl, S1, N1, B1⟩
      case round =>
        obtain ⟨q, hq, rfl, hS, hNow, hBe⟩ := hrel
        by_cases hq2 : q < 26
        · have he := enc_cap q hq2
          have hlw : w.heap.size ≤ wr.heap.size := by have := hBe.out.size; omega
          have hbw : Below w.heap.size w wr := by rw [HG.out]; exact hBe.out
          have HT1 := Lib.hid (specText x n cc A st ss (capU q) wr (HV.out.below hbw) ((by rw [HG.out]; exact HR.out : RowU w w.heap.size A ss).carry hbw) HL.out hN)
          have HT2 := Lib.hid (specLt (tx ss n (capU q)) (Nat.le_trans (HTX.out _) (by decide)) wr)
          clear hlw hbw
          go_wp2_with fail
          refine HT1.out.mono ?_
          rintro e w' ⟨rfl, rfl⟩
          clear HT1
          go_wp2_with fail
          refine HT2.out.mono ?_
          rintro e w2 ⟨rfl, hBy, hb2⟩
          have hBy2 := Lib.hid hBy.out.i
          have hS2 := Lib.hid (hS.out.below hb2.out)
          have hN2 := Lib.hid (hNow.out.below hb2.out)
          have hZ : X ≤ wr.heap.size := by have := hNow.out.size; have := hg; omega
          have hB2 := Lib.hid (hBe.out.trans (hb2.out.mono hZ))
          have hK : Hid (g < wr.heap.size ∧ h < wr.heap.size) := ⟨hNow.out.size, hS.out.size⟩
          clear HT2 hBy hb2 hS hNow hBe he
          go_wp2_with fail
          generalize wr.heap.size = b at *
          have HS0 : Hid (OneI w2 h 27 (mixJ (nxP f (byF ss n) q) (nxP f (byF ss n) (q + 1)) 0)) := hS2.out.ext fun j _ => by unfold mixJ; rw [if_neg (by omega)]
          clear hS2
          go_loopw [11] (fun i wr => ∃ r : Nat, r ≤ 27 ∧ i = .int .i64 r ∧ Hid (OneI wr h 27 (mixJ (nxP f (byF ss n) q) (nxP f (byF ss n) (q + 1)) r)) ∧ Hid (OneI wr g 27 f) ∧ Hid (OneI wr b 27 (byF ss n q)) ∧ Hid (Below X w wr)) (fun i _ => 27 - (intOf i).toNat)
          case atStart => exact ⟨0, Nat.zero_le _, rfl, HS0, hN2, hBy2, hB2⟩
          case round =>
            obtain ⟨r, hr, rfl, hS, hNow, hBy, hBe⟩ := hrel
            by_cases hr2 : r < 27
            · have d1 := hS.out.cell r hr2
              have d2 := hNow.out.cell q (by omega)
              have d3 := hBy.out.cell r hr2
              have f1 := hS.out.free r
              have hm0 : mixJ (nxP f (byF ss n) q) (nxP f (byF ss n) (q + 1)) r r = nxP f (byF ss n) q r := if_neg (by omega)
              rw [hm0] at d1
              have hby : ∀ i j, 0 ≤ byF ss n i j ∧ byF ss n i j ≤ 32 := fun i j => by
                have h1 := ltC_le (tx ss n (capU i)).data.toList j
                have h2 : (tx ss n (capU i)).data.toList.length ≤ 32 := by simpa using HTX.out (capU i)
                show 0 ≤ ltC _ _ ∧ ltC _ _ ≤ 32
                omega
              have p1 := nxP_bd hD.out hby q (by omega) r
              have p2 := hD.out q (by omega)
              have p3 := hby q r
              have p4 : 0 ≤ f q * byF ss n q r := Int.mul_nonneg p2.1 p3.1
              have p5 : f q * byF ss n q r ≤ 32000000000000 := Int.mul_le_mul p2.2 p3.2 p3.1 (by decide)
              have eN : nxP f (byF ss n) (q + 1) r = nxP f (byF ss n) q r + f q * byF ss n q r := rfl
              have Z1 := Lib.hid (hS.out.step (k := r) (g := mixJ (nxP f (byF ss n) q) (nxP f (byF ss n) (q + 1)) (r + 1)) (x := nxP f (byF ss n) q r + f q * byF ss n q r) hr2 (by rw [← eN]; exact mixJ_step _ _ r))
              have Z2 := Lib.hid (hNow.out.other (q := ⟨h, r, none⟩) (fun e => by have := HH.out.2; have e : h = g := e; omega) (.int .i64 (nxP f (byF ss n) q r + f q * byF ss n q r)))
              have Z3 := Lib.hid (hBy.out.other (q := ⟨h, r, none⟩) (by have := hK.out.2; show h ≠ b; omega) (.int .i64 (nxP f (byF ss n) q r + f q * byF ss n q r)))
              have Z4 : Hid (Below X w (wr.setCell ⟨h, r, none⟩ (.int .i64 (nxP f (byF ss n) q r + f q * byF ss n q r)))) := hBe.out.setCell HH.out.1 _
              obtain ⟨p6, p7⟩ := p1
              clear hm0 hby eN hS hNow hBy hBe p2 p3
              go_wp2_with fail
              go_region
              have Z1d := Lib.hid Z1.out.drew
              have Z2d := Lib.hid Z2.out.drew
              have Z3d := Lib.hid Z3.out.drew
              have Z4d : Hid (Below X w _) := Z4.out.drew
              clear Z1 Z2 Z3 Z4 p4 p5 p6 p7 d1 d2 d3 f1
              go_wp2_with fail
              go_roundw
              case rel => exact ⟨r + 1, by omega, by go_num, Z1d, Z2d, Z3d, Z4d⟩
              case measure => simp [intOf]; omega
            · have hr3 : r = 27 := by omega
              have S3 : Hid (OneI wr h 27 (nxP f (byF ss n) (q + 1))) := hS.out.ext fun j hj => by unfold mixJ; rw [if_pos (by omega)]
              clear hr3
              go_wp2_with fail
              go_roundw
              case rel => exact ⟨q + 1, by omega, by go_num, S3, hNow, hBe⟩
              case measure => simp [intOf]; omega
        · have hq3 : q = 26 := by omega
          have S4 : Hid (OneI wr h 27 (stepF ss n f)) := by rw [hq3] at hS; exact hS
          clear hq3 hS
          go_wp2_with fail
          go_loop [12] (fun i => ∃ r : Nat, r ≤ 27 ∧ i = .int .i64 r ∧ Hid (∀ j, j < r → stepF ss n f j ≤ 1000000000000)) (fun i => 27 - (intOf i).toNat)
          case atStart => exact ⟨0, Nat.zero_le _, rfl, fun j hj => absurd hj (Nat.not_lt_zero _)⟩
          case round =>
            obtain ⟨r, hr, rfl, hJ⟩ := hrel
            by_cases hr2 : r < 27
            · have d1 := S4.out.cell r hr2
              by_cases hbig : 1000000000000 < stepF ss n f r
              · have N := Lib.hid (afN_none (afN_no hA.out (okF_no hr2 hbig)) m (by omega))
                go_wp2_with fail
                go_ret2
                exact afterP_none N.out (by rw [HG.out]; exact hBe)
              · have HJ : Hid (∀ j, j < r + 1 → stepF ss n f j ≤ 1000000000000) := fun j hj => by
                  by_cases e : j = r
                  · rw [e]; omega
                  · exact hJ.out j (by omega)
                go_wp2_with fail
                go_round
                case rel => exact ⟨r + 1, by omega, by go_num, HJ⟩
                case measure => simp [intOf]; omega
            · have hby : ∀ i j, 0 ≤ byF ss n i j ∧ byF ss n i j ≤ 32 := fun i j => by
                have h1 := ltC_le (tx ss n (capU i)).data.toList j
                have h2 : (tx ss n (capU i)).data.toList.length ≤ 32 := by simpa using HTX.out (capU i)
                show 0 ≤ ltC _ _ ∧ ltC _ _ ≤ 32
                omega
              have HA2 := Lib.hid (afN_yes hA.out (okF_yes fun j hj => hJ.out j (by omega)))
              have HD2 : Hid (Bd (stepF ss n f)) := fun j hj => ⟨(nxP_bd hD.out hby 26 (Nat.le_refl _) j).1, hJ.out j (by omega)⟩
              clear hby
              go_wp2_with fail
              go_roundw
              case rel => exact ⟨k + 1, h, _, by omega, HH.out.1, by go_num, rfl, S4, HA2, HD2, hBe⟩
              case measure => simp [intOf]; omega
    · have hkm : k = m := by omega
      have HA2 : Hid (afN ss n st m = some f) := by rw [← hkm]; exact hA
      clear hkm
      go_wp2_with fail
      go_ret2
      exact afterP_some HA2.out (by rw [HG.out]; exact hg) hO2 (by rw [HG.out]; exact hB2)

end Go.Proofs.Ytckhdbnoihieeaa
