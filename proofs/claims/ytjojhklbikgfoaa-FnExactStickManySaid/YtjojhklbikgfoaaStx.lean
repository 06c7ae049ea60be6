/-
  What is proved here: a walker of the reference, as a walk. Conditions: a valid field, at most 512 moves, a seed.
-/
import Derived.Test.YtjojhklbikgfoaaStw
namespace Go.Proofs.Ytjojhklbikgfoaa
open Go.RowKit
attribute [local go_sem] run_store_bool
set_option linter.unusedVariables false

theorem butB {w a b : World} {lo hi : Nat} (h : Below w.heap.size w a) (g : ButIn lo hi a b) : ButIn lo hi w b :=
  ⟨g.os.trans h.os, g.tape.trans h.tape, g.output.trans h.output, Nat.le_trans h.size g.size, fun k hk hd => (g.block k (Nat.lt_of_lt_of_le hk h.size) hd).trans (h.block k hk)⟩
theorem stk_at {p : Nat → Bool} {x y s : Int} {n m : Nat} (h : p (drawS s n).toNat = true) : stkS p x y n m s = nextS s ∧ stkB p x y n m s = false ∧ ∀ j, stkF p x y n m s j = p j := by
  have hb : stkB p x y n m s = false := by unfold stkB; rw [h]; rfl
  refine ⟨by unfold stkS; rw [if_pos h], hb, fun j => ?_⟩
  unfold stkF
  rw [hb, if_neg (by simp)]
theorem stk_full {p : Nat → Bool} {x y s z : Int} {n m i : Nat} (h : p (drawS s n).toNat = false) (e : endS p x y n m s = (z, (i : Int))) (hf : 0 < fulS p x y i) : stkS p x y n m s = z ∧ stkB p x y n m s = true ∧ ∀ j, stkF p x y n m s j = if j = i then true else p j := by
  have hb : stkB p x y n m s = true := by unfold stkB; rw [h, e]; exact decide_eq_true hf
  refine ⟨by unfold stkS; rw [if_neg (by rw [h]; decide), e], hb, fun j => ?_⟩
  unfold stkF
  rw [hb, e]
  by_cases g : j = i
  · rw [if_pos g, if_pos ⟨rfl, by rw [g]; rfl⟩]
  · rw [if_neg g, if_neg (fun h => g (by have := h.2; simpa using this))]
theorem stk_none {p : Nat → Bool} {x y s z : Int} {n m i : Nat} (h : p (drawS s n).toNat = false) (e : endS p x y n m s = (z, (i : Int))) (hf : ¬ 0 < fulS p x y i) : stkS p x y n m s = z ∧ stkB p x y n m s = false ∧ ∀ j, stkF p x y n m s j = p j := by
  have hb : stkB p x y n m s = false := by unfold stkB; rw [h, e]; exact decide_eq_false hf
  refine ⟨by unfold stkS; rw [if_neg (by rw [h]; decide), e], hb, fun j => ?_⟩
  unfold stkF
  rw [hb, if_neg (by simp)]

set_option maxHeartbeats 16000000 in
set_option maxRecDepth 100000 in
theorem specStk (x y : Int) (v : Nat) (A : Option Addr) (n c : Nat) (p : Nat → Bool) (m : Nat) (s : Int) (hv : fvB x y n = true) (hm : m ≤ 512) (hs0 : 0 ≤ s) (hs1 : s ≤ 2147483647) (lo hi : Nat) (w : World) (V : VarT w v x y A n c) (hr : RowW w lo hi A n (bo p)) :
    Calls Try.prog 68 #[.pointer (some ⟨v, 0, none⟩), .int .i64 (m : Nat), .int .i64 s] w fun e w' => e = .returned (.tuple #[.int .i64 (stkS p x y n m s), .bool (stkB p x y n m s)]) ∧ Hid (RowW w' lo hi A n (bo (stkF p x y n m s))) ∧ Hid (ButIn lo hi w w') := by
  obtain ⟨⟨hx, hy⟩, hnn, hn1, hn2⟩ := fvB_yes hv
  have HNN := Lib.hid hnn
  have hmx : x * y ≤ 256 := by omega
  obtain ⟨hx1, hx2⟩ := hx
  obtain ⟨hy1, hy2⟩ := hy
  have hz : x ≠ 0 := by omega
  have HT := Lib.hid (fun (i : Nat) (h : i < n) (W : World) (hV : VarT W v x y A n c) (hR : RowV W W.heap.size A n (bo p)) => specTou x y i v A n c p hv (by omega) (by omega) W hV hR)
  have HD := Lib.hid (specDraw s n hs0 hs1 (by omega) (by omega) w)
  have HDR := Lib.hid (fun (z : Int) (h0 : 0 ≤ z) (h1 : z ≤ 2147483647) (W : World) => specDraw z 4 h0 h1 (by decide) (by decide) W)
  obtain ⟨d0, d1⟩ := drawS_bd s (n := (n : Int)) (by omega)
  obtain ⟨b0, b1⟩ := nextS_bd s
  obtain ⟨i0, hi0⟩ : ∃ i0 : Nat, drawS s n = (i0 : Int) := ⟨(drawS s n).toNat, by omega⟩
  have hin0 : i0 < n := by omega
  have hin0' : (i0 : Int) < n := by omega
  have hend : Hid (walkS p x y m (nextS s) i0 = endS p x y n m s) := by show _ = _; unfold endS; rw [hi0]
  have HRV := Lib.hid hr
  have HV := Lib.hid V
  obtain ⟨bb, off, rfl, hl1, hl2, hcell, hfree⟩ := hr.row (by omega)
  have hc := hcell i0 hin0
  unfold bo at hc
  have v2 := V.c2
  have HSA : Hid (p i0 = true → stkS p x y n m s = nextS s ∧ stkB p x y n m s = false ∧ ∀ j, stkF p x y n m s j = p j) := fun h => stk_at (by rw [hi0]; exact h)
  have HSF : Hid (p i0 = false → ∀ z i, endS p x y n m s = (z, ((i : Nat) : Int)) → 0 < fulS p x y i → stkS p x y n m s = z ∧ stkB p x y n m s = true ∧ ∀ j, stkF p x y n m s j = if j = i then true else p j) := fun h z i e g => stk_full (by rw [hi0]; exact h) e g
  have HSN : Hid (p i0 = false → ∀ z i, endS p x y n m s = (z, ((i : Nat) : Int)) → ¬ 0 < fulS p x y i → stkS p x y n m s = z ∧ stkB p x y n m s = false ∧ ∀ j, stkF p x y n m s j = p j) := fun h z i e g => stk_none (by rw [hi0]; exact h) e g
  rw [hi0] at HD
  clear hi0 d0 d1 hv hr hcell hfree V hnn
  generalize stkS p x y n m s = RS at *
  generalize stkB p x y n m s = RB at *
  generalize stkF p x y n m s = RF at *
  generalize endS p x y n m s = RE at *
  generalize nextS s = s1 at *
  cases hp : p i0
  · rw [hp] at hc
    replace HSF := Lib.hid (HSF.out hp)
    replace HSN := Lib.hid (HSN.out hp)
    have HPP := Lib.hid hp
    clear HSA hp
    go_enter Try.func68, Try.ntmps68
    go_wp2_with fail
    refine HD.out.mono ?_
    rintro e w' ⟨rfl, rfl⟩
    clear HD
    go_wp2_with fail
    go_loopw [1, 2, 8] (fun mo sd ce wr => ∃ (t i : Nat) (z : Int), t ≤ m ∧ mo = .int .i64 t ∧ sd = .int .i64 z ∧ ce = .int .i64 i ∧ 0 ≤ z ∧ z ≤ 2147483647 ∧ i < n ∧ Hid (p i = false) ∧ Hid (walkS p x y t z i = RE) ∧ Hid (Below w.heap.size w wr)) (fun mo _ _ _ => (intOf mo).toNat)
    case atStart => exact ⟨m, i0, s1, Nat.le_refl _, rfl, rfl, rfl, b0, b1, hin0, HPP, hend, Below.refl _ _⟩
    case round =>
      clear b0 b1 hin0 hin0' hc v2 hend HPP
      obtain ⟨t, i, z, htm, rfl, rfl, rfl, hz0, hz1, hin, hpi, hW, hB⟩ := hrel
      have Vr := Lib.hid (HV.out.below hB.out)
      have Rr := Lib.hid (HRV.out.below hB.out)
      have hin' : (i : Int) < n := by omega
      by_cases hf : 0 < fulS p x y i
      · have hE : RE = (z, ((i : Nat) : Int)) := hW.out.symm.trans (walkS_end hf)
        obtain ⟨e1, e2, e3⟩ := HSF.out z i hE hf
        have E12 := Lib.hid (And.intro e1 e2)
        have E3 := Lib.hid e3
        have HTi := Lib.hid (fun W hV hR => HT.out i hin W hV hR)
        rw [decide_eq_true hf] at HTi
        clear hE e1 e2 e3 HSF HSN HT hf hW
        cases t with
        | zero =>
          go_wp2_with fail
          refine (HTi.out wr Vr.out Rr.out.toRow).mono ?_
          rintro e w5 ⟨rfl, hb5⟩
          have V5 := Vr.out.below hb5.out
          have R5 := Rr.out.below hb5.out
          have HB5 := Lib.hid (hB.out.trans (hb5.out.mono hB.out.size))
          have v2 := V5.c2
          obtain ⟨b5, o5, e5, l51, l52, hcell, hfree⟩ := R5.row (by omega)
          injection e5 with e5
          injection e5 with e51 e52 _
          subst e51 e52
          have hc := hcell i hin
          have hfz := hfree i hin
          have R6 := Lib.hid ((R5.setW (k := i) (u := .bool true) hin).ext (U := bo RF) fun j _ => by unfold put bo; rw [E3.out j]; by_cases g : j = i <;> simp [g])
          have K6 := Lib.hid (((ButIn.refl lo hi w5).set (q := ⟨bb, off + i, none⟩) l51 l52 (.bool true)))
          clear hb5 V5 R5 hcell hfree HTi
          go_wp2_with fail
          go_ret2
          exact ⟨by rw [E12.out.1, E12.out.2]; rfl, R6, butB HB5.out K6.out⟩
        | succ t =>
          go_wp2_with fail
          refine (HTi.out wr Vr.out Rr.out.toRow).mono ?_
          rintro e w4 ⟨rfl, hb4⟩
          have HB4 := Lib.hid (hB.out.trans (hb4.out.mono hB.out.size))
          have V4 := Lib.hid (Vr.out.below hb4.out)
          have R4 := Lib.hid (Rr.out.below hb4.out)
          clear hb4 hB Vr Rr
          have hB := HB4
          have Vr := V4
          have Rr := R4
          clear HB4 V4 R4
          generalize w4 = wr at *
          go_wp2_with fail
          refine (HTi.out wr Vr.out Rr.out.toRow).mono ?_
          rintro e w5 ⟨rfl, hb5⟩
          have V5 := Vr.out.below hb5.out
          have R5 := Rr.out.below hb5.out
          have HB5 := Lib.hid (hB.out.trans (hb5.out.mono hB.out.size))
          have v2 := V5.c2
          obtain ⟨b5, o5, e5, l51, l52, hcell, hfree⟩ := R5.row (by omega)
          injection e5 with e5
          injection e5 with e51 e52 _
          subst e51 e52
          have hc := hcell i hin
          have hfz := hfree i hin
          have R6 := Lib.hid ((R5.setW (k := i) (u := .bool true) hin).ext (U := bo RF) fun j _ => by unfold put bo; rw [E3.out j]; by_cases g : j = i <;> simp [g])
          have K6 := Lib.hid (((ButIn.refl lo hi w5).set (q := ⟨bb, off + i, none⟩) l51 l52 (.bool true)))
          clear hb5 V5 R5 hcell hfree HTi
          go_wp2_with fail
          go_ret2
          exact ⟨by rw [E12.out.1, E12.out.2]; rfl, R6, butB HB5.out K6.out⟩
      · have HTi := Lib.hid (fun W hV hR => HT.out i hin W hV hR)
        rw [decide_eq_false hf] at HTi
        cases t with
        | zero =>
          have hE : RE = (z, ((i : Nat) : Int)) := hW.out.symm
          obtain ⟨e1, e2, e3⟩ := HSN.out z i hE hf
          have E12 := Lib.hid (And.intro e1 e2)
          have E3 := Lib.hid e3
          clear hE e1 e2 e3 HSF HSN HT hf hW
          go_wp2_with fail
          refine (HTi.out wr Vr.out Rr.out.toRow).mono ?_
          rintro e w4 ⟨rfl, hb4⟩
          have R4 := Lib.hid (Rr.out.below hb4.out)
          have HB4 := Lib.hid (hB.out.trans (hb4.out.mono hB.out.size))
          clear hb4
          go_wp2_with fail
          go_ret2
          exact ⟨by rw [E12.out.1, E12.out.2]; rfl, R4.out.ext fun j _ => by unfold bo; rw [E3.out j], butB HB4.out (ButIn.refl _ _ _)⟩
        | succ t =>
          have hf0 : fulS p x y i = 0 := by omega
          have hnn := HNN.out
          have HN : Hid (∀ k, p (nxtC x y i k).toNat = false) := fun k => nxtC_free hf0 hpi.out
          have hW2 := hW.out
          rw [walkS_go hf0] at hW2
          have HNB := Lib.hid (fun k => nxtC_bd (y := y) (k := k) hx1 (show 0 ≤ (i : Int) by omega) (show (i : Int) < x * y by omega))
          obtain ⟨e1, q0, q1, r0, r1⟩ := div_facts (y := y) hx1 (show 0 ≤ (i : Int) by omega) (show (i : Int) < x * y by omega)
          have hup := up_iff (y := y) hx1 (show 0 ≤ (i : Int) by omega) (show (i : Int) < x * y by omega)
          have hdn := down_iff (y := y) hx1 (show 0 ≤ (i : Int) by omega) (show (i : Int) < x * y by omega)
          obtain ⟨k0, k1⟩ := drawS_bd z (n := 4) (by decide)
          obtain ⟨n0, n1⟩ := nextS_bd z
          have HZ := Lib.hid (fun W => HDR.out z hz0 hz1 W)
          obtain ⟨k, hk⟩ : ∃ k : Nat, drawS z 4 = (k : Int) := ⟨(drawS z 4).toNat, by omega⟩
          have hk4 : k < 4 := by omega
          rw [hk] at HZ hW2
          rw [Int.toNat_natCast] at hW2
          generalize nextS z = z1 at *
          have HW := Lib.hid hW2
          have HE := Lib.hid e1
          have HNk := Lib.hid (HN.out k)
          have HBk := Lib.hid (HNB.out k)
          clear hf hf0 hW hW2 HT HSF HSN hk k0 k1 HDR e1 HN HNB hpi hz0 hz1
          clear hnn
          match k, hk4 with
          | 0, _ =>
            obtain ⟨tt, htt⟩ : ∃ tt, tt = (i / x - 1) * x := ⟨_, rfl⟩
            have ht2 : tt = i - i % x - x := by
              have := HE.out
              rw [htt]
              rw [Int.sub_mul, Int.mul_comm ((i : Int) / x) x]
              omega
            have hw : IntKind.i64.wrap ((i / x - 1) * x) = tt := by rw [← htt]; exact IntWalk.i64_in _ (by omega)
            clear htt
            have v0 := Vr.out.c0
            have v1 := Vr.out.c1
            by_cases hc1 : x ≤ (i : Int)
            · have hq1 : 1 ≤ (i : Int) / x := hup.1 hc1
              have hN : nxtC x y i 0 = (i : Int) - x := by show (if x ≤ (i : Int) then (i : Int) - x else (i : Int)) = _; rw [if_pos hc1]
              rw [hN] at HW HNk HBk
              obtain ⟨j, hj⟩ : ∃ j : Nat, (i : Int) - x = (j : Int) := ⟨((i : Int) - x).toNat, by have := HBk.out; omega⟩
              rw [hj] at HW HNk HBk
              rw [Int.toNat_natCast] at HNk
              have hjn : j < n := by have := HBk.out; have := HNN.out; omega
              clear hup hdn hN
              go_wp2_with fail
              refine (HTi.out wr Vr.out Rr.out.toRow).mono ?_
              rintro e w4 ⟨rfl, hb4⟩
              have HB4 := Lib.hid (hB.out.trans (hb4.out.mono hB.out.size))
              have V4 := Vr.out.below hb4.out
              have d0 := V4.c0
              have d1 := V4.c1
              clear hb4 hB Vr Rr V4 HTi v0 v1
              go_wp2_with fail
              refine (HZ.out _).mono ?_
              rintro e w5 ⟨rfl, rfl⟩
              clear HZ
              go_wp2_with (go_at_call 59; refine (inS_any _ _ _ _).mono ?_; rintro e w' ⟨rfl, rfl⟩; first | (rw [inB_in]; rotate_left 1; omega; omega) | (rw [inB_out]; rotate_left 1; omega))
              go_roundw
              case rel => exact ⟨t, j, z1, by omega, by go_num, rfl, by rw [← hj]; congr 1; omega, n0, n1, hjn, HNk, HW, HB4⟩
              case measure => simp [intOf]
            · have hq1 : ¬ 1 ≤ (i : Int) / x := fun h => hc1 (hup.2 h)
              have hN : nxtC x y i 0 = (i : Int) := by show (if x ≤ (i : Int) then (i : Int) - x else (i : Int)) = _; rw [if_neg hc1]
              rw [hN] at HW HNk HBk
              rw [Int.toNat_natCast] at HNk
              clear hup hdn hN
              go_wp2_with fail
              refine (HTi.out wr Vr.out Rr.out.toRow).mono ?_
              rintro e w4 ⟨rfl, hb4⟩
              have HB4 := Lib.hid (hB.out.trans (hb4.out.mono hB.out.size))
              have V4 := Vr.out.below hb4.out
              have d0 := V4.c0
              have d1 := V4.c1
              clear hb4 hB Vr Rr V4 HTi v0 v1
              go_wp2_with fail
              refine (HZ.out _).mono ?_
              rintro e w5 ⟨rfl, rfl⟩
              clear HZ
              go_wp2_with (go_at_call 59; refine (inS_any _ _ _ _).mono ?_; rintro e w' ⟨rfl, rfl⟩; first | (rw [inB_in]; rotate_left 1; omega; omega) | (rw [inB_out]; rotate_left 1; omega))
              go_roundw
              case rel => exact ⟨t, i, z1, by omega, by go_num, rfl, rfl, n0, n1, hin, HNk, HW, HB4⟩
              case measure => simp [intOf]
          | 1, _ =>
            obtain ⟨tt, htt⟩ : ∃ tt, tt = (i / x) * x := ⟨_, rfl⟩
            have ht2 : tt = i - i % x := by
              have := HE.out
              rw [htt]
              rw [Int.mul_comm]
              omega
            have hw : IntKind.i64.wrap ((i / x) * x) = tt := by rw [← htt]; exact IntWalk.i64_in _ (by omega)
            clear htt
            have v0 := Vr.out.c0
            have v1 := Vr.out.c1
            by_cases hc1 : 0 < (i : Int) % x
            · skip
              have hN : nxtC x y i 1 = (i : Int) - 1 := by show (if 0 < (i : Int) % x then (i : Int) - 1 else (i : Int)) = _; rw [if_pos hc1]
              rw [hN] at HW HNk HBk
              obtain ⟨j, hj⟩ : ∃ j : Nat, (i : Int) - 1 = (j : Int) := ⟨((i : Int) - 1).toNat, by have := HBk.out; omega⟩
              rw [hj] at HW HNk HBk
              rw [Int.toNat_natCast] at HNk
              have hjn : j < n := by have := HBk.out; have := HNN.out; omega
              clear hup hdn hN
              go_wp2_with fail
              refine (HTi.out wr Vr.out Rr.out.toRow).mono ?_
              rintro e w4 ⟨rfl, hb4⟩
              have HB4 := Lib.hid (hB.out.trans (hb4.out.mono hB.out.size))
              have V4 := Vr.out.below hb4.out
              have d0 := V4.c0
              have d1 := V4.c1
              clear hb4 hB Vr Rr V4 HTi v0 v1
              go_wp2_with fail
              refine (HZ.out _).mono ?_
              rintro e w5 ⟨rfl, rfl⟩
              clear HZ
              go_wp2_with (go_at_call 59; refine (inS_any _ _ _ _).mono ?_; rintro e w' ⟨rfl, rfl⟩; first | (rw [inB_in]; rotate_left 1; omega; omega) | (rw [inB_out]; rotate_left 1; omega))
              go_roundw
              case rel => exact ⟨t, j, z1, by omega, by go_num, rfl, by rw [← hj]; congr 1; omega, n0, n1, hjn, HNk, HW, HB4⟩
              case measure => simp [intOf]
            · skip
              have hN : nxtC x y i 1 = (i : Int) := by show (if 0 < (i : Int) % x then (i : Int) - 1 else (i : Int)) = _; rw [if_neg hc1]
              rw [hN] at HW HNk HBk
              rw [Int.toNat_natCast] at HNk
              clear hup hdn hN
              go_wp2_with fail
              refine (HTi.out wr Vr.out Rr.out.toRow).mono ?_
              rintro e w4 ⟨rfl, hb4⟩
              have HB4 := Lib.hid (hB.out.trans (hb4.out.mono hB.out.size))
              have V4 := Vr.out.below hb4.out
              have d0 := V4.c0
              have d1 := V4.c1
              clear hb4 hB Vr Rr V4 HTi v0 v1
              go_wp2_with fail
              refine (HZ.out _).mono ?_
              rintro e w5 ⟨rfl, rfl⟩
              clear HZ
              go_wp2_with (go_at_call 59; refine (inS_any _ _ _ _).mono ?_; rintro e w' ⟨rfl, rfl⟩; first | (rw [inB_in]; rotate_left 1; omega; omega) | (rw [inB_out]; rotate_left 1; omega))
              go_roundw
              case rel => exact ⟨t, i, z1, by omega, by go_num, rfl, rfl, n0, n1, hin, HNk, HW, HB4⟩
              case measure => simp [intOf]
          | 2, _ =>
            obtain ⟨tt, htt⟩ : ∃ tt, tt = (i / x) * x := ⟨_, rfl⟩
            have ht2 : tt = i - i % x := by
              have := HE.out
              rw [htt]
              rw [Int.mul_comm]
              omega
            have hw : IntKind.i64.wrap ((i / x) * x) = tt := by rw [← htt]; exact IntWalk.i64_in _ (by omega)
            clear htt
            have v0 := Vr.out.c0
            have v1 := Vr.out.c1
            by_cases hc1 : (i : Int) % x + 1 < x
            · skip
              have hN : nxtC x y i 2 = (i : Int) + 1 := by show (if (i : Int) % x + 1 < x then (i : Int) + 1 else (i : Int)) = _; rw [if_pos hc1]
              rw [hN] at HW HNk HBk
              obtain ⟨j, hj⟩ : ∃ j : Nat, (i : Int) + 1 = (j : Int) := ⟨((i : Int) + 1).toNat, by have := HBk.out; omega⟩
              rw [hj] at HW HNk HBk
              rw [Int.toNat_natCast] at HNk
              have hjn : j < n := by have := HBk.out; have := HNN.out; omega
              clear hup hdn hN
              go_wp2_with fail
              refine (HTi.out wr Vr.out Rr.out.toRow).mono ?_
              rintro e w4 ⟨rfl, hb4⟩
              have HB4 := Lib.hid (hB.out.trans (hb4.out.mono hB.out.size))
              have V4 := Vr.out.below hb4.out
              have d0 := V4.c0
              have d1 := V4.c1
              clear hb4 hB Vr Rr V4 HTi v0 v1
              go_wp2_with fail
              refine (HZ.out _).mono ?_
              rintro e w5 ⟨rfl, rfl⟩
              clear HZ
              go_wp2_with (go_at_call 59; refine (inS_any _ _ _ _).mono ?_; rintro e w' ⟨rfl, rfl⟩; first | (rw [inB_in]; rotate_left 1; omega; omega) | (rw [inB_out]; rotate_left 1; omega))
              go_roundw
              case rel => exact ⟨t, j, z1, by omega, by go_num, rfl, by rw [← hj]; congr 1; omega, n0, n1, hjn, HNk, HW, HB4⟩
              case measure => simp [intOf]
            · skip
              have hN : nxtC x y i 2 = (i : Int) := by show (if (i : Int) % x + 1 < x then (i : Int) + 1 else (i : Int)) = _; rw [if_neg hc1]
              rw [hN] at HW HNk HBk
              rw [Int.toNat_natCast] at HNk
              clear hup hdn hN
              go_wp2_with fail
              refine (HTi.out wr Vr.out Rr.out.toRow).mono ?_
              rintro e w4 ⟨rfl, hb4⟩
              have HB4 := Lib.hid (hB.out.trans (hb4.out.mono hB.out.size))
              have V4 := Vr.out.below hb4.out
              have d0 := V4.c0
              have d1 := V4.c1
              clear hb4 hB Vr Rr V4 HTi v0 v1
              go_wp2_with fail
              refine (HZ.out _).mono ?_
              rintro e w5 ⟨rfl, rfl⟩
              clear HZ
              go_wp2_with (go_at_call 59; refine (inS_any _ _ _ _).mono ?_; rintro e w' ⟨rfl, rfl⟩; first | (rw [inB_in]; rotate_left 1; omega; omega) | (rw [inB_out]; rotate_left 1; omega))
              go_roundw
              case rel => exact ⟨t, i, z1, by omega, by go_num, rfl, rfl, n0, n1, hin, HNk, HW, HB4⟩
              case measure => simp [intOf]
          | 3, _ =>
            obtain ⟨tt, htt⟩ : ∃ tt, tt = (i / x + 1) * x := ⟨_, rfl⟩
            have ht2 : tt = i - i % x + x := by
              have := HE.out
              rw [htt]
              rw [Int.add_mul, Int.mul_comm ((i : Int) / x) x]
              omega
            have hw : IntKind.i64.wrap ((i / x + 1) * x) = tt := by rw [← htt]; exact IntWalk.i64_in _ (by omega)
            clear htt
            have v0 := Vr.out.c0
            have v1 := Vr.out.c1
            by_cases hc1 : (i : Int) + x < x * y
            · have hq1 : (i : Int) / x + 1 < y := hdn.1 hc1
              have hN : nxtC x y i 3 = (i : Int) + x := by show (if (i : Int) + x < x * y then (i : Int) + x else (i : Int)) = _; rw [if_pos hc1]
              rw [hN] at HW HNk HBk
              obtain ⟨j, hj⟩ : ∃ j : Nat, (i : Int) + x = (j : Int) := ⟨((i : Int) + x).toNat, by have := HBk.out; omega⟩
              rw [hj] at HW HNk HBk
              rw [Int.toNat_natCast] at HNk
              have hjn : j < n := by have := HBk.out; have := HNN.out; omega
              clear hup hdn hN
              go_wp2_with fail
              refine (HTi.out wr Vr.out Rr.out.toRow).mono ?_
              rintro e w4 ⟨rfl, hb4⟩
              have HB4 := Lib.hid (hB.out.trans (hb4.out.mono hB.out.size))
              have V4 := Vr.out.below hb4.out
              have d0 := V4.c0
              have d1 := V4.c1
              clear hb4 hB Vr Rr V4 HTi v0 v1
              go_wp2_with fail
              refine (HZ.out _).mono ?_
              rintro e w5 ⟨rfl, rfl⟩
              clear HZ
              go_wp2_with (go_at_call 59; refine (inS_any _ _ _ _).mono ?_; rintro e w' ⟨rfl, rfl⟩; first | (rw [inB_in]; rotate_left 1; omega; omega) | (rw [inB_out]; rotate_left 1; omega))
              go_roundw
              case rel => exact ⟨t, j, z1, by omega, by go_num, rfl, by rw [← hj]; congr 1; omega, n0, n1, hjn, HNk, HW, HB4⟩
              case measure => simp [intOf]
            · have hq1 : ¬ (i : Int) / x + 1 < y := fun h => hc1 (hdn.2 h)
              have hN : nxtC x y i 3 = (i : Int) := by show (if (i : Int) + x < x * y then (i : Int) + x else (i : Int)) = _; rw [if_neg hc1]
              rw [hN] at HW HNk HBk
              rw [Int.toNat_natCast] at HNk
              clear hup hdn hN
              go_wp2_with fail
              refine (HTi.out wr Vr.out Rr.out.toRow).mono ?_
              rintro e w4 ⟨rfl, hb4⟩
              have HB4 := Lib.hid (hB.out.trans (hb4.out.mono hB.out.size))
              have V4 := Vr.out.below hb4.out
              have d0 := V4.c0
              have d1 := V4.c1
              clear hb4 hB Vr Rr V4 HTi v0 v1
              go_wp2_with fail
              refine (HZ.out _).mono ?_
              rintro e w5 ⟨rfl, rfl⟩
              clear HZ
              go_wp2_with (go_at_call 59; refine (inS_any _ _ _ _).mono ?_; rintro e w' ⟨rfl, rfl⟩; first | (rw [inB_in]; rotate_left 1; omega; omega) | (rw [inB_out]; rotate_left 1; omega))
              go_roundw
              case rel => exact ⟨t, i, z1, by omega, by go_num, rfl, rfl, n0, n1, hin, HNk, HW, HB4⟩
              case measure => simp [intOf]
  · rw [hp] at hc
    obtain ⟨e1, e2, e3⟩ := HSA.out hp
    rw [e1, e2]
    have E3 := Lib.hid e3
    clear HSF HSN HSA hp e1 e2 e3 HT HDR
    go_enter Try.func68, Try.ntmps68
    go_wp2_with fail
    refine HD.out.mono ?_
    rintro e w' ⟨rfl, rfl⟩
    clear HD
    go_wp2_with fail
    go_ret2
    exact ⟨rfl, HRV.out.ext fun j _ => by unfold bo; rw [E3.out j], ButIn.refl _ _ _⟩

end Go.Proofs.Ytjojhklbikgfoaa
