/-
  What is proved here: a walker of the program, as a walk. Conditions: a valid field, at most 512 moves, a seed.
-/
import Derived.Test.YtjojhklbikgfoaaStx
import Derived.Test.YtjojhklbikgfoaaOwb
namespace Go.Proofs.Ytjojhklbikgfoaa
open Go.RowKit
attribute [local go_sem] run_store_bool
set_option linter.unusedVariables false

/-- what stands while a cell of a row is written, which a variable names -/
structure One (b : World) (lo hi v : Nat) (q : Addr) (x y : Int) (A : Option Addr) (n c : Nat) (w : World) : Prop where
  vlt : v < w.heap.size
  vhi : hi ≤ v
  ql : lo ≤ q.block
  qh : q.block < hi
  but : ButIn lo hi b w
  c0 : w.cell? ⟨v, 0, none⟩ = some (.int .i64 x)
  c1 : w.cell? ⟨v, 1, none⟩ = some (.int .i64 y)
  c2 : w.cell? ⟨v, 2, none⟩ = some (.slice A n c)
  d : w.cell? q = some (rd w q)
  f : w.frozen? q = false
theorem One.below {b w w' : World} {lo hi v n c : Nat} {q : Addr} {x y : Int} {A : Option Addr} (h : One b lo hi v q x y A n c w) (hb : Below w.heap.size w w') : One b lo hi v q x y A n c w' := by
  have hq : q.block < w.heap.size := by have := h.vlt; have := h.vhi; have := h.qh; omega
  refine ⟨Nat.lt_of_lt_of_le h.vlt hb.size, h.vhi, h.ql, h.qh, h.but.below hb, ?_, ?_, ?_, ?_, ?_⟩
  · rw [hb.cell (p := ⟨v, 0, none⟩) h.vlt]; exact h.c0
  · rw [hb.cell (p := ⟨v, 1, none⟩) h.vlt]; exact h.c1
  · rw [hb.cell (p := ⟨v, 2, none⟩) h.vlt]; exact h.c2
  · exact rd_of ((hb.cell (p := q) hq).trans h.d)
  · rw [hb.frozen (p := q) hq]; exact h.f
theorem One.set {b w : World} {lo hi v n c : Nat} {q : Addr} {x y : Int} {A : Option Addr} (h : One b lo hi v q x y A n c w) (u : Value) : One b lo hi v q x y A n c (w.setCell q u) := by
  have far : ∀ j, q ≠ ⟨v, j, none⟩ := fun j e => by have := h.vhi; have := h.qh; rw [e] at this; simp at this; omega
  refine ⟨by have := h.vlt; simpa [World.setCell] using this, h.vhi, h.ql, h.qh, h.but.set h.ql h.qh u, ?_, ?_, ?_, rd_of (World.cell?_setCell_same w _ _ h.d), ?_⟩
  · rw [World.cell?_setCell_other w _ _ _ (far 0)]; exact h.c0
  · rw [World.cell?_setCell_other w _ _ _ (far 1)]; exact h.c1
  · rw [World.cell?_setCell_other w _ _ _ (far 2)]; exact h.c2
  · rw [World.frozen?_setCell]; exact h.f

theorem butOf {w w' : World} (lo hi : Nat) (h : Below w.heap.size w w') : ButIn lo hi w w' := ⟨h.os, h.tape, h.output, h.size, fun k hk _ => h.block k hk⟩

theorem One.s {b w : World} {lo hi v n c : Nat} {q : Addr} {x y : Int} {A : Option Addr} (h : One b lo hi v q x y A n c w) : w.cell? ⟨v, 0, none⟩ = some (.int .i64 x) ∧ w.cell? ⟨v, 1, none⟩ = some (.int .i64 y) ∧ w.cell? ⟨v, 2, none⟩ = some (.slice A n c) ∧ w.cell? q = some (rd w q) ∧ w.frozen? q = false ∧ Hid (One b lo hi v q x y A n c w) := ⟨h.c0, h.c1, h.c2, h.d, h.f, h⟩

set_option maxHeartbeats 16000000 in
set_option maxRecDepth 100000 in
theorem implStk (x y : Int) (A : Option Addr) (n c : Nat) (p : Nat → Bool) (m : Nat) (s : Int) (hv : fvB x y n = true) (hm : m ≤ 512) (hs0 : 0 ≤ s) (hs1 : s ≤ 2147483647) (lo hi : Nat) (w : World) (hr : RowW w lo hi A n (bo p)) :
    Calls Try.prog 71 #[.agg #[.int .i64 x, .int .i64 y, .slice A n c], .int .i64 (m : Nat), .int .i64 s] w fun e w' => e = .returned (.tuple #[.int .i64 (stkS p x y n m s), .bool (stkB p x y n m s)]) ∧ Hid (RowW w' lo hi A n (bo (stkF p x y n m s))) ∧ Hid (ButIn lo hi w w') := by
  obtain ⟨⟨hx, hy⟩, hnn, hn1, hn2⟩ := fvB_yes hv
  have HNN := Lib.hid hnn
  have HT := Lib.hid (fun (i : Nat) (h : i < n) (W : World) (hR : RowV W W.heap.size A n (bo p)) => implHas x y i A n c p hv (by omega) (by omega) W hR)
  have HST := Lib.hid (fun (i : Nat) (h : i < n) (k : Nat) (hk : k < 4) (W : World) => implStep x y i A n c hv (by omega) (by omega) k hk W)
  have HD := Lib.hid (fun W => implDraw s n hs0 hs1 (by omega) (by omega) W)
  have HDR := Lib.hid (fun (z : Int) (h0 : 0 ≤ z) (h1 : z ≤ 2147483647) (W : World) => implDraw z 4 h0 h1 (by decide) (by decide) W)
  obtain ⟨d0, d1⟩ := drawS_bd s (n := (n : Int)) (by omega)
  obtain ⟨b0, b1⟩ := nextS_bd s
  obtain ⟨i0, hi0⟩ : ∃ i0 : Nat, drawS s n = (i0 : Int) := ⟨(drawS s n).toNat, by omega⟩
  have hin0 : i0 < n := by omega
  have hin0' : (i0 : Int) < n := by omega
  have hend : Hid (walkS p x y m (nextS s) i0 = endS p x y n m s) := by show _ = _; unfold endS; rw [hi0]
  have HSA : Hid (p i0 = true → stkS p x y n m s = nextS s ∧ stkB p x y n m s = false ∧ ∀ j, stkF p x y n m s j = p j) := fun h => stk_at (by rw [hi0]; exact h)
  have HSF : Hid (p i0 = false → ∀ z i, endS p x y n m s = (z, ((i : Nat) : Int)) → 0 < fulS p x y i → stkS p x y n m s = z ∧ stkB p x y n m s = true ∧ ∀ j, stkF p x y n m s j = if j = i then true else p j) := fun h z i e g => stk_full (by rw [hi0]; exact h) e g
  have HSN : Hid (p i0 = false → ∀ z i, endS p x y n m s = (z, ((i : Nat) : Int)) → ¬ 0 < fulS p x y i → stkS p x y n m s = z ∧ stkB p x y n m s = false ∧ ∀ j, stkF p x y n m s j = p j) := fun h z i e g => stk_none (by rw [hi0]; exact h) e g
  rw [hi0] at HD
  have B1 := below_var w x y A n c 27
  have V0 := varT_new w x y A n c 27
  have HB := Lib.hid B1
  have HRV := Lib.hid (hr.below B1)
  have HV := Lib.hid V0
  obtain ⟨bb, off, rfl, hl1, hl2, hcell, hfree⟩ := HRV.out.row (by omega)
  have hc := hcell i0 hin0
  unfold bo at hc
  have v2 := V0.c2
  have HHI : Hid (hi ≤ w.heap.size) := hr.le
  have HX : Hid (1 ≤ x) := hx.1
  clear hi0 d0 d1 hv hr hcell hfree V0 B1 hnn hx hy
  generalize stkS p x y n m s = RS at *
  generalize stkB p x y n m s = RB at *
  generalize stkF p x y n m s = RF at *
  generalize endS p x y n m s = RE at *
  generalize nextS s = s1 at *
  cases hp : p i0
  · rw [hp] at hc
    replace HSF := Lib.hid (HSF.out hp)
    replace HSN := Lib.hid (HSN.out hp)
    have HPP := Lib.hid hp
    clear HSA hp
    go_enter Try.func71, Try.ntmps71
    go_wp2_with fail
    generalize w.alloc (.cells #[.int .i64 x, .int .i64 y, .slice (some ⟨bb, off, none⟩) n c] 27) = b at *
    refine (HD.out _).mono ?_
    rintro e w' ⟨rfl, k1, rfl⟩
    clear HD
    go_wp2_with fail
    go_loopw [2, 8, 9] (fun sd ce mo wr => ∃ (a i : Nat) (z : Int), a ≤ m ∧ mo = .int .i64 a ∧ sd = .int .i64 z ∧ ce = .int .i64 i ∧ 0 ≤ z ∧ z ≤ 2147483647 ∧ i < n ∧ Hid (p i = false) ∧ Hid (walkS p x y (m - a) z i = RE) ∧ Hid (Below b.heap.size b wr)) (fun _ _ mo _ => m - (intOf mo).toNat)
    case atStart => exact ⟨0, i0, s1, Nat.zero_le _, rfl, rfl, rfl, b0, b1, hin0, HPP, hend, belowN (Below.refl _ _)⟩
    case round =>
      clear b0 b1 hin0 hin0' hc v2 hend HPP
      obtain ⟨a, i, z, htm, rfl, rfl, rfl, hz0, hz1, hin, hpi, hW, hB⟩ := hrel
      have Vr := Lib.hid (HV.out.below hB.out)
      have Rr := Lib.hid (HRV.out.below hB.out)
      have hin' : (i : Int) < n := by omega
      obtain ⟨t, ht⟩ : ∃ t, m - a = t := ⟨_, rfl⟩
      rw [ht] at hW
      by_cases hf : 0 < fulS p x y i
      · have hE : RE = (z, ((i : Nat) : Int)) := hW.out.symm.trans (walkS_end hf)
        obtain ⟨e1, e2, e3⟩ := HSF.out z i hE hf
        have E12 := Lib.hid (And.intro e1 e2)
        have E3 : Hid (∀ j, RF j = if j = i then true else p j) := e3
        have HTi := Lib.hid (fun W hR => HT.out i hin W hR)
        rw [decide_eq_true hf] at HTi
        clear hE e1 e2 e3 HSF HSN HT hf hW HST HDR
        by_cases hlt : a < m
        · clear ht
          have v0 := Vr.out.c0
          have v1 := Vr.out.c1
          have v2 := Vr.out.c2
          go_wp2_with fail
          refine (HTi.out wr Rr.out.toRow).mono ?_
          rintro e w4 ⟨rfl, hb4⟩
          have HB4 := Lib.hid (hB.out.trans (hb4.out.mono hB.out.size))
          have V4 := Lib.hid (Vr.out.below hb4.out)
          have R4 := Lib.hid (Rr.out.below hb4.out)
          clear hb4 hB Vr Rr v0 v1 v2
          have hB := HB4
          have Vr := V4
          have Rr := R4
          clear HB4 V4 R4
          generalize w4 = wr at *
          obtain ⟨b5, o5, e5, l51, l52, hcell, hfree⟩ := Rr.out.row (by omega)
          injection e5 with e5
          injection e5 with e51 e52 _
          subst e51 e52
          have O0 : One b lo hi w.heap.size ⟨bb, off + i, none⟩ x y (some ⟨bb, off, none⟩) n c wr := ⟨Vr.out.lt, HHI.out, l51, l52, butOf lo hi hB.out, Vr.out.c0, Vr.out.c1, Vr.out.c2, rd_of (hcell i hin), hfree i hin⟩
          have K0 : Hid (One b lo hi w.heap.size ⟨bb, off + i, none⟩ x y (some ⟨bb, off, none⟩) n c wr.drew) := O0.below (Below.refl _ _).drew
          have R0 : Hid (RowW wr.drew lo hi (some ⟨bb, off, none⟩) n (bo p)) := Rr.out.below (Below.refl _ _).drew
          have v0 := Vr.out.c0
          have v1 := Vr.out.c1
          have v2 := Vr.out.c2
          have hcd := O0.d
          have hfz := hfree i hin
          clear O0 hcell hfree hB Vr Rr
          go_wp2_with fail
          go_region_held3 (fun w' => w'.cell? ⟨w.heap.size, 0, none⟩ = some (.int .i64 x) ∧ w'.cell? ⟨w.heap.size, 1, none⟩ = some (.int .i64 y) ∧ w'.cell? ⟨w.heap.size, 2, none⟩ = some (.slice (some ⟨bb, off, none⟩) n c) ∧ w'.cell? ⟨bb, off + i, none⟩ = some (rd w' ⟨bb, off + i, none⟩) ∧ w'.frozen? ⟨bb, off + i, none⟩ = false ∧ Hid (One b lo hi w.heap.size ⟨bb, off + i, none⟩ x y (some ⟨bb, off, none⟩) n c w')) (first | (exact K0.out.s) | (exact ⟨by assumption, by assumption, by assumption, by assumption, by assumption, by assumption⟩) | (exact ((Hid.out (‹Hid (One b lo hi w.heap.size ⟨bb, off + i, none⟩ x y (some ⟨bb, off, none⟩) n c _)›)).set _).s) | go_keep)
            ((go_at_call 117; refine (HTi.out _ R0.out.toRow).mono ?_; rintro e wc ⟨rfl, hbc⟩; have KC := Lib.hid (K0.out.below hbc.out); have RC := Lib.hid (R0.out.below hbc.out); obtain ⟨p0, p1, p2, q0, q1, _⟩ := KC.out.s))
          rename_i hh
          clear hh
          have O3 := KC.out.set (.bool true)
          have f2 := O3.c2
          have f3 := World.cell?_setCell_same wc ⟨bb, off + i, none⟩ (.bool true) KC.out.d
          have R6 := Lib.hid ((RC.out.setW (k := i) (u := .bool true) hin).ext (U := bo RF) fun j _ => by unfold put bo; rw [E3.out j]; by_cases g : j = i <;> simp [g])
          have K6 := Lib.hid O3.but
          clear KC RC O3 K0 R0 hbc HTi p0 p1 p2 q0 q1
          generalize wc.setCell ⟨bb, off + i, none⟩ (.bool true) = w6 at *
          go_wp2_with fail
          go_quiet (fail)
          go_wp2
          go_ret2
          exact ⟨by rw [E12.out.1, E12.out.2]; rfl, R6.out.drewN, butB HB.out K6.out.drewN⟩
        · clear ht
          obtain ⟨b5, o5, e5, l51, l52, hcell, hfree⟩ := Rr.out.row (by omega)
          injection e5 with e5
          injection e5 with e51 e52 _
          subst e51 e52
          have O0 : One b lo hi w.heap.size ⟨bb, off + i, none⟩ x y (some ⟨bb, off, none⟩) n c wr := ⟨Vr.out.lt, HHI.out, l51, l52, butOf lo hi hB.out, Vr.out.c0, Vr.out.c1, Vr.out.c2, rd_of (hcell i hin), hfree i hin⟩
          have K0 : Hid (One b lo hi w.heap.size ⟨bb, off + i, none⟩ x y (some ⟨bb, off, none⟩) n c wr.drew) := O0.below (Below.refl _ _).drew
          have R0 : Hid (RowW wr.drew lo hi (some ⟨bb, off, none⟩) n (bo p)) := Rr.out.below (Below.refl _ _).drew
          have v0 := Vr.out.c0
          have v1 := Vr.out.c1
          have v2 := Vr.out.c2
          have hcd := O0.d
          have hfz := hfree i hin
          clear O0 hcell hfree hB Vr Rr
          go_wp2_with fail
          go_region_held3 (fun w' => w'.cell? ⟨w.heap.size, 0, none⟩ = some (.int .i64 x) ∧ w'.cell? ⟨w.heap.size, 1, none⟩ = some (.int .i64 y) ∧ w'.cell? ⟨w.heap.size, 2, none⟩ = some (.slice (some ⟨bb, off, none⟩) n c) ∧ w'.cell? ⟨bb, off + i, none⟩ = some (rd w' ⟨bb, off + i, none⟩) ∧ w'.frozen? ⟨bb, off + i, none⟩ = false ∧ Hid (One b lo hi w.heap.size ⟨bb, off + i, none⟩ x y (some ⟨bb, off, none⟩) n c w')) (first | (exact K0.out.s) | (exact ⟨by assumption, by assumption, by assumption, by assumption, by assumption, by assumption⟩) | (exact ((Hid.out (‹Hid (One b lo hi w.heap.size ⟨bb, off + i, none⟩ x y (some ⟨bb, off, none⟩) n c _)›)).set _).s) | go_keep)
            ((go_at_call 117; refine (HTi.out _ R0.out.toRow).mono ?_; rintro e wc ⟨rfl, hbc⟩; have KC := Lib.hid (K0.out.below hbc.out); have RC := Lib.hid (R0.out.below hbc.out); obtain ⟨p0, p1, p2, q0, q1, _⟩ := KC.out.s))
          rename_i hh
          clear hh
          have O3 := KC.out.set (.bool true)
          have f2 := O3.c2
          have f3 := World.cell?_setCell_same wc ⟨bb, off + i, none⟩ (.bool true) KC.out.d
          have R6 := Lib.hid ((RC.out.setW (k := i) (u := .bool true) hin).ext (U := bo RF) fun j _ => by unfold put bo; rw [E3.out j]; by_cases g : j = i <;> simp [g])
          have K6 := Lib.hid O3.but
          clear KC RC O3 K0 R0 hbc HTi p0 p1 p2 q0 q1
          generalize wc.setCell ⟨bb, off + i, none⟩ (.bool true) = w6 at *
          go_wp2_with fail
          go_quiet (fail)
          go_wp2
          go_ret2
          exact ⟨by rw [E12.out.1, E12.out.2]; rfl, R6.out.drewN, butB HB.out K6.out.drewN⟩
      · have HTi := Lib.hid (fun W hR => HT.out i hin W hR)
        rw [decide_eq_false hf] at HTi
        by_cases hlt : a < m
        · obtain ⟨u, rfl⟩ : ∃ u, t = u + 1 := ⟨t - 1, by omega⟩
          have hf0 : fulS p x y i = 0 := by omega
          have hnn := HNN.out
          have HN : Hid (∀ k, p (nxtC x y i k).toNat = false) := fun k => nxtC_free hf0 hpi.out
          have hW2 := hW.out
          rw [walkS_go hf0] at hW2
          have hx1 : 1 ≤ x := HX.out
          have HNB := Lib.hid (fun k => nxtC_bd (y := y) (k := k) hx1 (show 0 ≤ (i : Int) by omega) (show (i : Int) < x * y by omega))
          obtain ⟨k0, k1⟩ := drawS_bd z (n := 4) (by decide)
          obtain ⟨n0, n1⟩ := nextS_bd z
          have HZ := Lib.hid (fun W => HDR.out z hz0 hz1 W)
          obtain ⟨k, hk⟩ : ∃ k : Nat, drawS z 4 = (k : Int) := ⟨(drawS z 4).toNat, by omega⟩
          have hk4 : k < 4 := by omega
          rw [hk] at HZ hW2
          rw [Int.toNat_natCast] at hW2
          generalize nextS z = z1 at *
          have hu : m - (a + 1) = u := by omega
          obtain ⟨j, hj⟩ : ∃ j : Nat, nxtC x y i k = (j : Int) := ⟨(nxtC x y i k).toNat, by have := HNB.out k; omega⟩
          have hjn : j < n := by have := HNB.out k; omega
          have HNk := HN.out k
          rw [hj] at hW2 HNk
          rw [Int.toNat_natCast] at HNk
          rw [← hu] at hW2
          have HW := Lib.hid hW2
          have HPk := Lib.hid HNk
          have HSTk := Lib.hid (fun W => HST.out i hin k hk4 W)
          rw [hj] at HSTk
          clear hf hf0 hW hW2 HT HSF HSN hk k0 k1 HDR HN HNB hpi hz0 hz1 hnn ht hu hj HNk HST hx1
          clear hk4
          have v0 := Vr.out.c0
          have v1 := Vr.out.c1
          have v2 := Vr.out.c2
          go_wp2_with fail
          refine (HTi.out wr Rr.out.toRow).mono ?_
          rintro e w4 ⟨rfl, hb4⟩
          have HB4 := Lib.hid (hB.out.trans (hb4.out.mono hB.out.size))
          have V4 := Lib.hid (Vr.out.below hb4.out)
          have R4 := Lib.hid (Rr.out.below hb4.out)
          clear hb4 hB Vr Rr v0 v1 v2
          have hB := HB4
          have Vr := V4
          have Rr := R4
          clear HB4 V4 R4
          generalize w4 = wr at *
          have v0 := Vr.out.c0
          have v1 := Vr.out.c1
          have v2 := Vr.out.c2
          go_wp2_with fail
          refine (HZ.out _).mono ?_
          rintro e w5 ⟨rfl, k5, rfl⟩
          clear HZ
          have HB5 : Hid (Below b.heap.size b (wr.drewN k5)) := belowN hB.out
          generalize wr.drewN k5 = w5 at *
          have V5 := HV.out.below HB5.out
          clear v0 v1 v2
          have v0 := V5.c0
          have v1 := V5.c1
          have v2 := V5.c2
          clear V5
          go_wp2_with fail
          refine (HSTk.out _).mono ?_
          rintro e w6 ⟨rfl, hb6⟩
          have HB6 := Lib.hid (HB5.out.trans (hb6.out.mono HB5.out.size))
          clear hb6 HSTk v0 v1 v2
          go_wp2_with fail
          go_roundw
          case rel => exact ⟨a + 1, j, z1, by omega, by go_num, rfl, rfl, n0, n1, hjn, HPk, HW, HB6⟩
          case measure => simp [intOf]; omega
        · obtain rfl : t = 0 := by omega
          have hE : RE = (z, ((i : Nat) : Int)) := hW.out.symm
          obtain ⟨e1, e2, e3⟩ := HSN.out z i hE hf
          have E12 := Lib.hid (And.intro e1 e2)
          have E3 : Hid (∀ j, RF j = p j) := e3
          clear hE e1 e2 e3 HSF HSN HT hf hW ht HST HDR
          obtain ⟨b5, o5, e5, l51, l52, hcell, hfree⟩ := Rr.out.row (by omega)
          injection e5 with e5
          injection e5 with e51 e52 _
          subst e51 e52
          have O0 : One b lo hi w.heap.size ⟨bb, off + i, none⟩ x y (some ⟨bb, off, none⟩) n c wr := ⟨Vr.out.lt, HHI.out, l51, l52, butOf lo hi hB.out, Vr.out.c0, Vr.out.c1, Vr.out.c2, rd_of (hcell i hin), hfree i hin⟩
          have K0 : Hid (One b lo hi w.heap.size ⟨bb, off + i, none⟩ x y (some ⟨bb, off, none⟩) n c wr.drew) := O0.below (Below.refl _ _).drew
          have R0 : Hid (RowW wr.drew lo hi (some ⟨bb, off, none⟩) n (bo p)) := Rr.out.below (Below.refl _ _).drew
          have v0 := Vr.out.c0
          have v1 := Vr.out.c1
          have v2 := Vr.out.c2
          have hcd := O0.d
          have hfz := hfree i hin
          clear O0 hcell hfree hB Vr Rr
          go_wp2_with fail
          go_region_held3 (fun w' => w'.cell? ⟨w.heap.size, 0, none⟩ = some (.int .i64 x) ∧ w'.cell? ⟨w.heap.size, 1, none⟩ = some (.int .i64 y) ∧ w'.cell? ⟨w.heap.size, 2, none⟩ = some (.slice (some ⟨bb, off, none⟩) n c) ∧ w'.cell? ⟨bb, off + i, none⟩ = some (rd w' ⟨bb, off + i, none⟩) ∧ w'.frozen? ⟨bb, off + i, none⟩ = false ∧ Hid (One b lo hi w.heap.size ⟨bb, off + i, none⟩ x y (some ⟨bb, off, none⟩) n c w')) (first | (exact K0.out.s) | (exact ⟨by assumption, by assumption, by assumption, by assumption, by assumption, by assumption⟩) | (exact ((Hid.out (‹Hid (One b lo hi w.heap.size ⟨bb, off + i, none⟩ x y (some ⟨bb, off, none⟩) n c _)›)).set _).s) | go_keep)
            ((go_at_call 117; refine (HTi.out _ R0.out.toRow).mono ?_; rintro e wc ⟨rfl, hbc⟩; have KC := Lib.hid (K0.out.below hbc.out); have RC := Lib.hid (R0.out.below hbc.out); obtain ⟨p0, p1, p2, q0, q1, _⟩ := KC.out.s))
          rename_i hh
          clear hh
          have O3 := KC.out.set (.bool false)
          have f2 := O3.c2
          have f3 := World.cell?_setCell_same wc ⟨bb, off + i, none⟩ (.bool false) KC.out.d
          have R6 := Lib.hid ((RC.out.setW (k := i) (u := .bool false) hin).ext (U := bo RF) fun j _ => by unfold put bo; rw [E3.out j]; by_cases g : j = i <;> simp [g, hpi.out])
          have K6 := Lib.hid O3.but
          clear KC RC O3 K0 R0 hbc HTi p0 p1 p2 q0 q1
          generalize wc.setCell ⟨bb, off + i, none⟩ (.bool false) = w6 at *
          go_wp2_with fail
          go_quiet (fail)
          go_wp2
          go_ret2
          exact ⟨by rw [E12.out.1, E12.out.2]; rfl, R6.out.drewN, butB HB.out K6.out.drewN⟩
  · rw [hp] at hc
    obtain ⟨e1, e2, e3⟩ := HSA.out hp
    have E12 := Lib.hid (And.intro e1 e2)
    have E3 := Lib.hid e3
    clear hp e1 e2 e3 HSA HSF HSN HT HST HDR hend
    go_enter Try.func71, Try.ntmps71
    go_wp2_with fail
    generalize w.alloc (.cells #[.int .i64 x, .int .i64 y, .slice (some ⟨bb, off, none⟩) n c] 27) = b at *
    refine (HD.out _).mono ?_
    rintro e w' ⟨rfl, k1, rfl⟩
    clear HD
    go_wp2_with fail
    go_ret2
    exact ⟨by rw [E12.out.1, E12.out.2]; rfl, (HRV.out.ext fun j _ => by unfold bo; rw [E3.out j]).drewN, butB (belowN HB.out) (ButIn.refl _ _ _)⟩

end Go.Proofs.Ytjojhklbikgfoaa
