/-
  What is proved here: SlopeOf, of both packages, as walks. Conditions: at most 1048576 numbers.
-/
import Derived.Test.YthhimielelpcoaaSlo
namespace Go.Proofs.Ythhimielelpcoaa
open Flt Go.RowKit
set_option linter.unusedVariables false

theorem sumT_at {f : Nat → Option Nat} {k : Nat} : sumT f (k + 1) = fop .add .f32 (sumT f k) (f k) := rfl
theorem sloIn_yes {xs ys : List Nat} (h : sloIn xs ys = true) : lisB xs = true ∧ lisB ys = true ∧ xs.length = ys.length ∧ 2 ≤ xs.length ∧ xs.length ≤ 256 := by
  unfold sloIn at h
  simp only [Bool.and_eq_true] at h
  obtain ⟨h1, h2, h3, h4⟩ := h
  exact ⟨h1, h2, eq_of_beq h3, of_decide_eq_true h4, (lisB_yes h1).1⟩

/-- what is told of a slope -/
def SlPost (xs ys : List Nat) (w : World) (e : Ending) (w' : World) : Prop :=
  ∃ f g b n, e = .returned (.tuple #[.float .f32 f, .float .f32 g, .bool b]) ∧ w' = w.drewN n ∧ Hid (can .f32 f = sloS xs ys) ∧ Hid (can .f32 g = sloB xs ys) ∧ Hid (b = sloOk xs ys) ∧ WF .f32 f ∧ WF .f32 g

set_option maxHeartbeats 8000000 in
theorem specSl (A B : Option Addr) (c d : Nat) (xs ys : List Nat) (w : World) (Z : Nat) (hr : RowF w Z A xs) (hq : RowF w Z B ys) (h : sloIn xs ys = true) :
    Calls Try.prog 118 #[.slice A xs.length c, .slice B ys.length d] w (SlPost xs ys w) := by
  obtain ⟨h1, h2, h3, h4, h5⟩ := sloIn_yes h
  have HR := Lib.hid hr
  have HQ := Lib.hid hq
  have HX := Lib.hid (fun n => specList A c xs (w.drewN n) Z hr.drewN (by omega))
  have HX0 := Lib.hid (specList A c xs w Z hr (by omega))
  have HY := Lib.hid (fun n => specList B d ys (w.drewN n) Z hq.drewN (by omega))
  rw [h1] at HX HX0
  rw [h2] at HY
  have HE := Lib.hid h3
  rw [← h3] at HY ⊢
  have h4' : ¬ ((xs.length : Int) < 2) := by omega
  clear hr hq h h1 h2 h3
  go_enter Try.func118, Try.ntmps118
  go_wp2_with (go_at_call 68; (first | (with_reducible refine HX0.out.mono ?_) | (with_reducible refine (HX.out _).mono ?_) | (with_reducible refine (HY.out _).mono ?_)); rintro e w' ⟨rfl, n, rfl⟩)
  clear HX HX0 HY h4'
  go_loopw [8, 9, 10, 11, 12] (fun a b cc dd i wr => ∃ k : Nat, k ≤ xs.length ∧ i = .int .i64 k ∧ ∃ n aw bw cw dw, wr = w.drewN n ∧ a = .float .f32 aw ∧ b = .float .f32 bw ∧ cc = .float .f32 cw ∧ dd = .float .f32 dw ∧ Hid (can .f32 aw = sumT (selfF xs) k) ∧ Hid (can .f32 bw = sumT (selfF ys) k) ∧ Hid (can .f32 cw = sumT (mulF xs xs) k) ∧ Hid (can .f32 dw = sumT (mulF xs ys) k)) (fun _ _ _ _ i _ => xs.length - (intOf i).toNat)
  case atStart => exact ⟨0, Nat.zero_le _, rfl, _, 0, 0, 0, 0, rfl, rfl, rfl, rfl, rfl, rfl, rfl, rfl, rfl⟩
  case round =>
    obtain ⟨k, hk, rfl, n, aw, bw, cw, dw, rfl, rfl, rfl, rfl, rfl, hA, hB, hC, hD⟩ := hrel
    by_cases hlt : k < xs.length
    · obtain ⟨b, off, rfl, hb, hcell⟩ := HR.out (by omega)
      obtain ⟨b2, off2, rfl, hb2, hcell2⟩ := HQ.out (by have := HE.out; omega)
      have hc := hcell k hlt
      have hd := hcell2 k (by have := HE.out; omega)
      clear hcell hcell2
      go_wp2_with ((with_reducible refine upon_bin rfl ?_); intro _ _ _ _)
      rename_i r1 n1 w1 e1 r2 n2 w2 e2 K1 hK1
      have a1 : Hid (can .f32 r1 = sumT (selfF xs) (k + 1)) := by show _ = _; rw [e1.out, hA.out]; rfl
      have a2 : Hid (can .f32 r2 = sumT (selfF ys) (k + 1)) := by show _ = _; rw [e2.out, hB.out]; rfl
      clear e1 e2 w1 w2
      go_region_with ((with_reducible refine upon_bin rfl ?_); intro _ _ _ _)
      all_goals
        rename_i r3 n3 w3 e3 r4 n4 w4 e4
        have a3 : Hid (can .f32 r4 = sumT (mulF xs xs) (k + 1)) := by show _ = _; rw [e4.out, e3.out, hC.out]; rfl
        clear e3 e4 w3 w4
        go_wp2_with fail
        go_region_with ((with_reducible refine upon_bin rfl ?_); intro _ _ _ _)
        all_goals
          rename_i r5 n5 w5 e5 r6 n6 w6 e6
          have a4 : Hid (can .f32 r6 = sumT (mulF xs ys) (k + 1)) := by show _ = _; rw [e6.out, e5.out, hD.out]; rfl
          clear e5 e6 w5 w6
          go_wp2_with fail
          go_roundw
          case rel => exact ⟨k + 1, by omega, by go_num, _, r1, r2, r4, r6, rfl, rfl, rfl, rfl, rfl, a1, a2, a3, a4⟩
          case measure => simp [intOf]; omega
    · have HK : Hid (k = xs.length) := by show k = xs.length; omega
      rw [HK.out] at hA hB hC hD
      go_wp2_with (first | ((with_reducible refine upon_bin rfl ?_); intro _ _ _ _) | (go_at_call 79; refine (specFin _ _).mono ?_; rintro e w' ⟨rfl, nf, rfl⟩))
      · rename_i r1 n1 w1 e1 r2 n2 w2 e2 r3 n3 w3 e3 r4 n4 w4 e4 r5 n5 w5 e5 r6 n6 w6 e6 r7 n7 w7 e7 r8 n8 w8 e8 r9 n9 w9 e9 r10 n10 w10 e10 h1
        have hS : Hid (can .f32 r7 = sloS xs ys) := by show _ = _; rw [e7.out, e6.out, e5.out, e4.out, e3.out, e2.out, e1.out, hA.out, hB.out, hC.out, hD.out]; rfl
        have hE : sloOk xs ys = false := by
          unfold sloOk
          rw [← hS.out, e7.out, quo_zero h1]; rfl
        go_ret3
        exact ⟨_, _, _, _, rfl, rfl, hS, by show _ = _; rw [e10.out, e9.out, e8.out, hS.out, hA.out, hB.out]; rfl, by show _ = _; rw [hE], w7, w10⟩
      · rename_i r1 n1 w1 e1 r2 n2 w2 e2 r3 n3 w3 e3 r4 n4 w4 e4 r5 n5 w5 e5 r6 n6 w6 e6 r7 n7 w7 e7 r8 n8 w8 e8 r9 n9 w9 e9 r10 n10 w10 e10 h1 nf1 h2
        have hS : Hid (can .f32 r7 = sloS xs ys) := by show _ = _; rw [e7.out, e6.out, e5.out, e4.out, e3.out, e2.out, e1.out, hA.out, hB.out, hC.out, hD.out]; rfl
        have hQ : Hid (can .f32 r10 = sloB xs ys) := by show _ = _; rw [e10.out, e9.out, e8.out, hS.out, hA.out, hB.out]; rfl
        have hE : Hid ((FloatKind.f32.format.order r3 0 != some .eq && finB .f32 r10) = sloOk xs ys) := by
          show _ = _
          unfold sloOk
          rw [← hS.out, ← hQ.out, finO_can, finO_can, h2, bne_iff_ne.2 h1]
        go_ret3
        exact ⟨_, _, _, _, rfl, rfl, hS, hQ, hE, w7, w10⟩
      · rename_i r1 n1 w1 e1 r2 n2 w2 e2 r3 n3 w3 e3 r4 n4 w4 e4 r5 n5 w5 e5 r6 n6 w6 e6 r7 n7 w7 e7 r8 n8 w8 e8 r9 n9 w9 e9 r10 n10 w10 e10 h1 h2
        have hS : Hid (can .f32 r7 = sloS xs ys) := by show _ = _; rw [e7.out, e6.out, e5.out, e4.out, e3.out, e2.out, e1.out, hA.out, hB.out, hC.out, hD.out]; rfl
        have hQ : Hid (can .f32 r10 = sloB xs ys) := by show _ = _; rw [e10.out, e9.out, e8.out, hS.out, hA.out, hB.out]; rfl
        have hE : sloOk xs ys = false := by
          unfold sloOk
          rw [← hS.out, finO_can, show finB .f32 r7 = false by simpa using h2]; rfl
        go_ret3
        exact ⟨_, _, _, _, rfl, rfl, hS, hQ, by show _ = _; rw [hE], w7, w10⟩

set_option maxHeartbeats 4000000 in
theorem implSlt (A B : Option Addr) (c d : Nat) (xs ys : List Nat) (w : World) (Z : Nat) (hr : RowF w Z A xs) (hq : RowF w Z B ys) (hl : xs.length = ys.length) (h5 : xs.length ≤ 256) :
    Calls Try.prog 160 #[.slice A xs.length c, .slice B ys.length d] w (FPost .f32 (sloS xs ys) w) := by
  have HX := Lib.hid (fun n => implSumN A c xs (w.drewN n) Z hr.drewN (by omega))
  have HX0 := Lib.hid (implSumN A c xs w Z hr (by omega))
  have HY := Lib.hid (fun n => implSumN B d ys (w.drewN n) Z hq.drewN (by omega))
  have HXX := Lib.hid (fun n => implDotN A A c c xs xs (w.drewN n) Z hr.drewN hr.drewN (by omega))
  have HXY := Lib.hid (fun n => implDotN A B c d xs ys (w.drewN n) Z hr.drewN hq.drewN (by omega))
  have fx : Fit xs xs := ⟨h5, rfl⟩
  have fy : Fit xs ys := ⟨h5, hl⟩
  have ly : ys.length ≤ 256 := by omega
  simp only [if_pos h5, decide_eq_true h5] at HX HX0
  simp only [if_pos ly, decide_eq_true ly] at HY
  simp only [if_pos fx, decide_eq_true fx] at HXX
  simp only [if_pos fy, decide_eq_true fy] at HXY
  have ex : Hid (sumF xs = sumT (selfF xs) xs.length) := sumF_self xs
  have ey : Hid (sumF ys = sumT (selfF ys) xs.length) := by show _ = _; rw [hl]; exact sumF_self ys
  have exx : Hid (dotF xs xs xs.length = sumT (mulF xs xs) xs.length) := dotF_tl (Tl.self xs) (Tl.self xs) _ (Nat.le_refl _)
  have exy : Hid (dotF xs ys xs.length = sumT (mulF xs ys) xs.length) := dotF_tl (Tl.self xs) (by have := Tl.self ys; rwa [← hl] at this) _ (Nat.le_refl _)
  clear hr hq hl fx fy ly
  go_enter Try.func160, Try.ntmps160
  go_wp2_with (first | ((with_reducible refine upon_bin rfl ?_); intro _ _ _ _) | (go_at_call 157; (first | (with_reducible refine HX0.out.mono ?_) | (with_reducible refine (HX.out _).mono ?_) | (with_reducible refine (HY.out _).mono ?_)); rintro e w' ⟨g, n, rfl, rfl, hc⟩) | (go_at_call 182; (first | (with_reducible refine (HXX.out _).mono ?_) | (with_reducible refine (HXY.out _).mono ?_)); rintro e w' ⟨g, n, rfl, rfl, hc⟩))
  rename_i g1 n1 c1 g2 n2 c2 g3 n3 c3 r1 m1 w1 e1 r2 m2 w2 e2 r3 m3 w3 e3 r4 m4 w4 e4 r5 m5 w5 e5 r6 m6 w6 e6 r7 m7 w7 e7
  go_ret
  exact fpost (by rw [e7.out, e6.out, e5.out, e4.out, e3.out, e2.out, e1.out, hc.out, c1.out, c2.out, c3.out, ex.out, ey.out, exx.out, exy.out]; rfl) w7

set_option maxHeartbeats 4000000 in
theorem implSl (A B : Option Addr) (c d : Nat) (xs ys : List Nat) (w : World) (Z : Nat) (hr : RowF w Z A xs) (hq : RowF w Z B ys) (h : sloIn xs ys = true) :
    Calls Try.prog 123 #[.slice A xs.length c, .slice B ys.length d] w (fun e w' => ∃ f g n, e = .returned (.tuple #[.float .f32 f, .float .f32 g, .bool (sloOk xs ys)]) ∧ w' = w.drewN n ∧ Hid (sloOk xs ys = true → can .f32 f = sloS xs ys ∧ can .f32 g = sloB xs ys) ∧ Hid (sloOk xs ys = false → f = 0 ∧ g = 0)) := by
  obtain ⟨h1, h2, h3, h4, h5⟩ := sloIn_yes h
  have HX := Lib.hid (fun n => implList A c xs (w.drewN n) Z hr.drewN (by omega))
  have HX0 := Lib.hid (implList A c xs w Z hr (by omega))
  have HY := Lib.hid (fun n => implList B d ys (w.drewN n) Z hq.drewN (by omega))
  rw [h1] at HX HX0
  rw [h2] at HY
  have SX := Lib.hid (fun n => implSumN A c xs (w.drewN n) Z hr.drewN (by omega))
  have SY := Lib.hid (fun n => implSumN B d ys (w.drewN n) Z hq.drewN (by omega))
  have ly : ys.length ≤ 256 := by omega
  simp only [if_pos h5, decide_eq_true h5] at SX
  simp only [if_pos ly, decide_eq_true ly] at SY
  have HT := Lib.hid (fun n => implSlt A B c d xs ys (w.drewN n) Z hr.drewN hq.drewN h3 h5)
  have ex : Hid (sumF xs = sumT (selfF xs) xs.length) := sumF_self xs
  have ey : Hid (sumF ys = sumT (selfF ys) xs.length) := by show _ = _; rw [h3]; exact sumF_self ys
  have h4' : ¬ ((xs.length : Int) < 2) := by omega
  have h3' : (xs.length : Int) = ys.length := by omega
  have HL := Lib.hid h3
  clear hr hq h h1 h2 h3 ly
  go_enter Try.func123, Try.ntmps123
  go_wp2_with (first | ((with_reducible refine upon_bin rfl ?_); intro _ _ _ _) | (go_at_call 73; (first | (with_reducible refine HX0.out.mono ?_) | (with_reducible refine (HX.out _).mono ?_) | (with_reducible refine (HY.out _).mono ?_)); rintro e w' ⟨rfl, n, rfl⟩) | (go_at_call 160; refine (HT.out _).mono ?_; rintro e w' ⟨gs, ns, rfl, rfl, hgs, hws⟩) | (go_at_call 157; (first | (with_reducible refine (SX.out _).mono ?_) | (with_reducible refine (SY.out _).mono ?_)); rintro e w' ⟨g, n, rfl, rfl, hc⟩) | (go_at_call 129; refine (implFin _ _).mono ?_; rintro e w' ⟨rfl, nf, rfl⟩))
  · rename_i g1 n1 c1 r1 m1 w1 e1 r2 m2 w2 e2 r3 m3 w3 e3 K hK nf1 hA hB
    have hQ : can .f32 r3 = sloB xs ys := by rw [e3.out, e2.out, e1.out, hgs.out, c1.out, hc.out, ex.out, ey.out, ← HL.out]; rfl
    have hE : sloOk xs ys = false := by
      unfold sloOk
      rw [← hgs.out, ← hQ, finO_can, finO_can, show finB .f32 r3 = false by simpa using hB, Bool.and_false]
    go_ret3
    exact ⟨0, 0, _, (by rw [hE]; rfl), rfl, (by show _ → _; rw [hE]; intro h; cases h), fun _ => ⟨rfl, rfl⟩⟩
  · rename_i g1 n1 c1 r1 m1 w1 e1 r2 m2 w2 e2 r3 m3 w3 e3 nf1 hA hB
    have hQ : can .f32 r3 = sloB xs ys := by rw [e3.out, e2.out, e1.out, hgs.out, c1.out, hc.out, ex.out, ey.out, ← HL.out]; rfl
    have hE : sloOk xs ys = true := by
      unfold sloOk
      rw [← hgs.out, ← hQ, finO_can, finO_can, show finB .f32 r3 = true by simpa using hB, hA]; rfl
    go_ret3
    exact ⟨gs, r3, _, (by rw [hE]; rfl), rfl, fun _ => ⟨hgs.out, hQ⟩, (by show _ → _; rw [hE]; intro h; cases h)⟩
  · rename_i g1 n1 c1 r1 m1 w1 e1 r2 m2 w2 e2 r3 m3 w3 e3 K hK hA
    have hE : sloOk xs ys = false := by
      unfold sloOk
      rw [← hgs.out, finO_can, show finB .f32 gs = false by simpa using hA, Bool.false_and]
    go_ret3
    exact ⟨0, 0, _, (by rw [hE]; rfl), rfl, (by show _ → _; rw [hE]; intro h; cases h), fun _ => ⟨rfl, rfl⟩⟩

/-- the lists do not go together: neither package gives a slope -/
def NoPost (w : World) (e : Ending) (w' : World) : Prop := ∃ n, e = .returned (.tuple #[.float .f32 0, .float .f32 0, .bool false]) ∧ w' = w.drewN n
set_option maxHeartbeats 2000000 in
theorem specSlNo (A B : Option Addr) (c d : Nat) (xs ys : List Nat) (w : World) (Z : Nat) (hr : RowF w Z A xs) (hq : RowF w Z B ys) (hn : xs.length ≤ 1048576) (hm : ys.length ≤ 1048576) (h : sloIn xs ys = false) :
    Calls Try.prog 118 #[.slice A xs.length c, .slice B ys.length d] w (NoPost w) := by
  have HX0 := Lib.hid (specList A c xs w Z hr hn)
  have HY := Lib.hid (fun n => specList B d ys (w.drewN n) Z hq.drewN hm)
  clear hr hq
  cases h1 : lisB xs
  · rw [h1] at HX0
    clear h1 h
    go_enter Try.func118, Try.ntmps118
    go_wp2_with (go_at_call 68; (with_reducible refine HX0.out.mono ?_); rintro e w' ⟨rfl, n, rfl⟩)
    go_ret3
    exact ⟨_, rfl, rfl⟩
  rw [h1] at HX0
  cases h2 : lisB ys
  · rw [h2] at HY
    clear h1 h2 h
    go_enter Try.func118, Try.ntmps118
    go_wp2_with (go_at_call 68; (first | (with_reducible refine HX0.out.mono ?_) | (with_reducible refine (HY.out _).mono ?_)); rintro e w' ⟨rfl, n, rfl⟩)
    go_ret3
    exact ⟨_, rfl, rfl⟩
  rw [h2] at HY
  by_cases h3 : xs.length = ys.length
  · have h4 : (xs.length : Int) < 2 := by
      unfold sloIn at h
      rw [h1, h2, beq_iff_eq.2 h3] at h
      simp at h
      omega
    have h5 : (xs.length : Int) = ys.length := by omega
    clear h1 h2 h h3
    go_enter Try.func118, Try.ntmps118
    go_wp2_with (go_at_call 68; (first | (with_reducible refine HX0.out.mono ?_) | (with_reducible refine (HY.out _).mono ?_)); rintro e w' ⟨rfl, n, rfl⟩)
    go_ret3
    exact ⟨_, rfl, rfl⟩
  · have h5 : ¬ (xs.length : Int) = ys.length := by omega
    clear h1 h2 h h3
    go_enter Try.func118, Try.ntmps118
    go_wp2_with (go_at_call 68; (first | (with_reducible refine HX0.out.mono ?_) | (with_reducible refine (HY.out _).mono ?_)); rintro e w' ⟨rfl, n, rfl⟩)
    go_ret3
    exact ⟨_, rfl, rfl⟩
set_option maxHeartbeats 2000000 in
theorem implSlNo (A B : Option Addr) (c d : Nat) (xs ys : List Nat) (w : World) (Z : Nat) (hr : RowF w Z A xs) (hq : RowF w Z B ys) (hn : xs.length ≤ 1048576) (hm : ys.length ≤ 1048576) (h : sloIn xs ys = false) :
    Calls Try.prog 123 #[.slice A xs.length c, .slice B ys.length d] w (NoPost w) := by
  have HX0 := Lib.hid (implList A c xs w Z hr hn)
  have HY := Lib.hid (fun n => implList B d ys (w.drewN n) Z hq.drewN hm)
  clear hr hq
  cases h1 : lisB xs
  · rw [h1] at HX0
    clear h1 h
    go_enter Try.func123, Try.ntmps123
    go_wp2_with (go_at_call 73; (with_reducible refine HX0.out.mono ?_); rintro e w' ⟨rfl, n, rfl⟩)
    go_ret3
    exact ⟨_, rfl, rfl⟩
  rw [h1] at HX0
  cases h2 : lisB ys
  · rw [h2] at HY
    clear h1 h2 h
    go_enter Try.func123, Try.ntmps123
    go_wp2_with (go_at_call 73; (first | (with_reducible refine HX0.out.mono ?_) | (with_reducible refine (HY.out _).mono ?_)); rintro e w' ⟨rfl, n, rfl⟩)
    go_ret3
    exact ⟨_, rfl, rfl⟩
  rw [h2] at HY
  by_cases h3 : xs.length = ys.length
  · have h4 : (xs.length : Int) < 2 := by
      unfold sloIn at h
      rw [h1, h2, beq_iff_eq.2 h3] at h
      simp at h
      omega
    have h5 : (xs.length : Int) = ys.length := by omega
    clear h1 h2 h h3
    go_enter Try.func123, Try.ntmps123
    go_wp2_with (go_at_call 73; (first | (with_reducible refine HX0.out.mono ?_) | (with_reducible refine (HY.out _).mono ?_)); rintro e w' ⟨rfl, n, rfl⟩)
    go_ret3
    exact ⟨_, rfl, rfl⟩
  · have h5 : ¬ (xs.length : Int) = ys.length := by omega
    clear h1 h2 h h3
    go_enter Try.func123, Try.ntmps123
    go_wp2_with (go_at_call 73; (first | (with_reducible refine HX0.out.mono ?_) | (with_reducible refine (HY.out _).mono ?_)); rintro e w' ⟨rfl, n, rfl⟩)
    go_ret3
    exact ⟨_, rfl, rfl⟩

/-- what SlopeOf gives -/
def SLP (cs cb : Option Nat) (b : Bool) (w : World) (e : Ending) (w' : World) : Prop := ∃ f g, e = .returned (.tuple #[.float .f32 f, .float .f32 g, .bool b]) ∧ Hid (can .f32 f = cs) ∧ Hid (can .f32 g = cb) ∧ Hid (Below w.heap.size w w')
def orNo (b : Bool) (c : Option Nat) : Option Nat := if b = true then c else some 0
def sloAll (xs ys : List Nat) : Bool := sloIn xs ys && sloOk xs ys

theorem specSlO (A B : Option Addr) (c d : Nat) (xs ys : List Nat) (w : World) (Z : Nat) (hr : RowF w Z A xs) (hq : RowF w Z B ys) (hn : xs.length ≤ 1048576) (hm : ys.length ≤ 1048576) :
    Calls Try.prog 72 #[.slice A xs.length c, .slice B ys.length d] w (SLP (orNo (sloAll xs ys) (sloS xs ys)) (orNo (sloAll xs ys) (sloB xs ys)) (sloAll xs ys) w) := by
  cases h : sloIn xs ys
  · have H := Lib.hid (specSlNo A B c d xs ys w Z hr hq hn hm h)
    have N : Hid (sloAll xs ys = false) := by show _ = _; unfold sloAll; rw [h]; rfl
    have M : sloIn xs ys = false := h
    clear hr hq h
    have H2 : Hid (Calls Try.prog 118 #[.slice A xs.length c, .slice B ys.length d] w (fun e w' => ∃ f g n, e = .returned (.tuple #[.float .f32 f, .float .f32 g, .bool false]) ∧ w' = w.drewN n)) := H.out.mono fun _ _ ⟨n, h1, h2⟩ => ⟨0, 0, n, h1, h2⟩
    clear H M
    go_enter Try.func72, Try.ntmps72
    go_wp2_with (go_at_call 118; refine H2.out.mono ?_; rintro e w' ⟨f, g, n, rfl, rfl⟩)
    go_ret3
    rw [N.out]
    exact ⟨0, 0, rfl, by show can .f32 0 = some 0; decide, by show can .f32 0 = some 0; decide, belowN (Below.refl _ _)⟩
  · have H := Lib.hid (specSl A B c d xs ys w Z hr hq h)
    have NN : Hid (sloAll xs ys = sloOk xs ys) := by show _ = _; unfold sloAll; rw [h]; rfl
    clear hr hq h
    cases hk : sloOk xs ys
    · have K := Lib.hid hk
      have H2 : Hid (Calls Try.prog 118 #[.slice A xs.length c, .slice B ys.length d] w (fun e w' => ∃ f g n, e = .returned (.tuple #[.float .f32 f, .float .f32 g, .bool false]) ∧ w' = w.drewN n)) := H.out.mono fun _ _ ⟨f, g, b, n, h1, h2, h3, h4, h5, _⟩ => ⟨f, g, n, by rw [h1, h5.out, hk], h2⟩
      clear H hk
      go_enter Try.func72, Try.ntmps72
      go_wp2_with (go_at_call 118; refine H2.out.mono ?_; rintro e w' ⟨f, g, n, rfl, rfl⟩)
      go_ret3
      rw [NN.out, K.out]
      exact ⟨0, 0, rfl, by show can .f32 0 = some 0; decide, by show can .f32 0 = some 0; decide, belowN (Below.refl _ _)⟩
    · have K := Lib.hid hk
      have H2 : Hid (Calls Try.prog 118 #[.slice A xs.length c, .slice B ys.length d] w (fun e w' => ∃ f g n, e = .returned (.tuple #[.float .f32 f, .float .f32 g, .bool true]) ∧ w' = w.drewN n ∧ Hid (can .f32 f = sloS xs ys) ∧ Hid (can .f32 g = sloB xs ys))) := H.out.mono fun _ _ ⟨f, g, b, n, h1, h2, h3, h4, h5, _⟩ => ⟨f, g, n, by rw [h1, h5.out, hk], h2, h3, h4⟩
      clear H hk
      go_enter Try.func72, Try.ntmps72
      go_wp2_with (go_at_call 118; refine H2.out.mono ?_; rintro e w' ⟨f, g, n, rfl, rfl, hf, hg⟩)
      go_ret3
      rw [NN.out, K.out]
      exact ⟨f, g, rfl, hf, hg, belowN (Below.refl _ _)⟩
theorem implSlO (A B : Option Addr) (c d : Nat) (xs ys : List Nat) (w : World) (Z : Nat) (hr : RowF w Z A xs) (hq : RowF w Z B ys) (hn : xs.length ≤ 1048576) (hm : ys.length ≤ 1048576) :
    Calls Try.prog 123 #[.slice A xs.length c, .slice B ys.length d] w (SLP (orNo (sloAll xs ys) (sloS xs ys)) (orNo (sloAll xs ys) (sloB xs ys)) (sloAll xs ys) w) := by
  have z : can .f32 0 = some 0 := by decide
  cases h : sloIn xs ys
  · refine (implSlNo A B c d xs ys w Z hr hq hn hm h).mono fun _ _ ⟨n, h1, h2⟩ => ?_
    subst h2
    have N : sloAll xs ys = false := by unfold sloAll; rw [h]; rfl
    rw [N]
    exact ⟨0, 0, h1, z, z, belowN (Below.refl _ _)⟩
  · refine (implSl A B c d xs ys w Z hr hq h).mono fun _ _ ⟨f, g, n, h1, h2, h3, h4⟩ => ?_
    subst h2
    have N : sloAll xs ys = sloOk xs ys := by unfold sloAll; rw [h]; rfl
    rw [N]
    cases hk : sloOk xs ys
    · obtain ⟨rfl, rfl⟩ := h4.out hk
      rw [hk] at h1
      exact ⟨0, 0, h1, z, z, belowN (Below.refl _ _)⟩
    · obtain ⟨a, b⟩ := h3.out hk
      rw [hk] at h1
      exact ⟨f, g, h1, a, b, belowN (Below.refl _ _)⟩
theorem sloBoth (xs ys : List Nat) (hn : xs.length ≤ 1048576) (hm : ys.length ≤ 1048576) : ∃ cs cb b,
    (∀ W A c B d, RowF W W.heap.size A xs → RowF W W.heap.size B ys → Calls Try.prog 72 #[.slice A xs.length c, .slice B ys.length d] W (SLP cs cb b W)) ∧
    (∀ W A c B d, RowF W W.heap.size A xs → RowF W W.heap.size B ys → Calls Try.prog 123 #[.slice A xs.length c, .slice B ys.length d] W (SLP cs cb b W)) :=
  ⟨_, _, _, fun W A c B d h1 h2 => specSlO A B c d xs ys W _ h1 h2 hn hm, fun W A c B d h1 h2 => implSlO A B c d xs ys W _ h1 h2 hn hm⟩

end Go.Proofs.Ythhimielelpcoaa
