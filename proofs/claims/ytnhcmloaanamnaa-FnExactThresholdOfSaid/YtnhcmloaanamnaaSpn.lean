/-
  What is proved here: SpansOf, of both packages, as walks. Conditions: at most 1048576 cells.
-/
import Derived.Test.YtnhcmloaanamnaaSpc
import Derived.Test.YtnhcmloaanamnaaGps
import Derived.Deep.QuietTactic
namespace Go.Proofs.Ytnhcmloaanamnaa
open Go.RowKit
set_option linter.unusedVariables false

theorem spn_s {x y : Int} {n : Nat} (hx : 1 ≤ x) (hy : 1 ≤ y) (hn : (n : Int) = x * y) : ∃ s W : Nat, (s : Int) = (y - 1) * x ∧ x = (W : Int) ∧ s + W = n := by
  obtain ⟨W, rfl⟩ := Int.eq_ofNat_of_zero_le (show 0 ≤ x by omega)
  have h0 : 0 ≤ (y - 1) * (W : Int) := Int.mul_nonneg (by omega) (by omega)
  obtain ⟨s, hs⟩ := Int.eq_ofNat_of_zero_le h0
  refine ⟨s, W, hs.symm, rfl, ?_⟩
  have e : (W : Int) * y = (y - 1) * W + W := by rw [Int.sub_mul, Int.one_mul, Int.mul_comm]; omega
  omega

set_option maxHeartbeats 8000000 in
set_option maxRecDepth 1000000 in
theorem specSp0 (v : Nat) (x y : Int) (F : Option Addr) (n f : Nat) (p : Nat → Bool) (w : World) (hv : fvB x y n = true) (V : VarT w v x y F n f) (hr : RowV w w.heap.size F n (bo p)) :
    Calls Try.prog 52 #[.pointer (some ⟨v, 0, none⟩)] w fun e w' => ∃ B d, e = .returned (.slice B (spL x n (gsF p true x y n n) (gsF p true x y n n).length).length d) ∧ Hid (GroI w' w.heap.size (spL x n (gsF p true x y n n) (gsF p true x y n n).length) B d) ∧ Hid (Below w.heap.size w w') := by
  have HSG := Lib.hid (specGrpT v x y F n f p w hv V hr)
  obtain ⟨⟨⟨hx1, hx2⟩, ⟨hy1, hy2⟩⟩, hn, hn1, hn2⟩ := fvB_yes hv
  obtain ⟨s, W, hs, hW, hsW⟩ := spn_s hx1 hy1 hn
  have hok := nb_ok hx1 hn
  have HAB := Lib.hid (fun k (hk : k < (gsF p true x y n n).length) => abv_is (p := pqF p true) (k := k) hok hW hk (by omega))
  have HBL := Lib.hid (fun k (hk : k < (gsF p true x y n n).length) => blw_is (p := pqF p true) (k := k) hok hW hk hsW)
  have hgl : (gsF p true x y n n).length ≤ n := grs_len _ _ _ _
  have HV := Lib.hid V
  have hw1 : IntKind.i64.wrap (y - 1) = y - 1 := IntWalk.i64_in _ (by omega)
  have hw2 : IntKind.i64.wrap ((y - 1) * x) = (s : Int) := by rw [← hs]; exact IntWalk.i64_in _ (by omega)
  have hWx := Lib.hid hW
  have hxW : Hid (x.toNat = W) := by show _ = _; omega
  clear hv V hr hn hok hs hW
  change Hid (∀ k, k < (gsF p true x y n n).length → anyN (fun j => numG (gsF p true x y n n) (j : Int) == (k : Int)) W = abvB x ((gsF p true x y n n).getD k [])) at HAB
  change Hid (∀ k, k < (gsF p true x y n n).length → anyN (fun j => numG (gsF p true x y n n) ((s + j : Nat) : Int) == (k : Int)) W = blwB x n ((gsF p true x y n n).getD k [])) at HBL
  generalize gsF p true x y n n = Gs at *
  go_enter Try.func52, Try.ntmps52
  go_wp2_with fail
  refine HSG.out.mono ?_
  rintro e w1 ⟨A, c, Z, d, _, rfl, _, hR, hZ, hb⟩
  have R1 := Lib.hid hR.out.toRow
  have V1 := Lib.hid (HV.out.below hb.out)
  have B1 : Hid (Below w.heap.size w w1) := hb
  have B2 := Lib.hid (World.below_one2 w1 (.cells #[] 2) (Nat.le_refl _))
  have O2 := Lib.hid (GroI.lit w1 (Nat.le_refl _))
  have hszl := szL_len Gs
  rw [hszl]
  clear HSG hR hZ hb HV
  go_wp2_with fail
  generalize w1.alloc (.cells #[] 2) = w2 at *
  generalize hG1 : w1.heap.size = G1 at *
  have HG1 := Lib.hid hG1
  clear hG1 hszl
  go_loopw [5, 6] (fun o i wr => ∃ (k : Nat) (B : Option Addr) (d : Nat), i = .int .i64 k ∧ k ≤ Gs.length ∧ o = .slice B (spL x n Gs k).length d ∧ Hid (GroI wr G1 (spL x n Gs k) B d) ∧ Hid (Below G1 w1 wr)) (fun _ i _ => Gs.length - (intOf i).toNat)
  case atStart => exact ⟨0, _, 0, rfl, Nat.zero_le _, rfl, O2, B2⟩
  case round =>
    clear O2 B2
    obtain ⟨k, B, d, rfl, hk, rfl, hO, hB⟩ := hrel
    by_cases hkl : k < Gs.length
    · have hbw : Below w1.heap.size w1 wr := by rw [HG1.out]; exact hB.out
      have VR := V1.out.below hbw
      have v0 := VR.c0
      have v1 := VR.c1
      have vl := VR.lt
      have RR := Lib.hid (R1.out.below (by rw [← HG1.out] at *; exact hbw))
      have HA := Lib.hid (HAB.out k hkl)
      have HBb := Lib.hid (HBL.out k hkl)
      have hsl := spL_le x n Gs k
      have SY := Lib.hid (spL_yes (x := x) (n := n) (Gs := Gs) (k := k))
      have SN := Lib.hid (spL_no (x := x) (n := n) (Gs := Gs) (k := k))
      have hG1w : G1 ≤ wr.heap.size := by rw [← HG1.out]; exact hbw.size
      clear VR hbw
      have hsp : Hid (spnB x n (Gs.getD k []) = (abvB x (Gs.getD k []) && blwB x n (Gs.getD k []))) := rfl
      generalize spL x n Gs k = L at *
      go_wp2_with fail
      go_loopw [7, 8, 9] (fun a b q wq => ∃ (j m : Nat), a = .bool (anyN (fun j => numG Gs (j : Int) == (k : Int)) j) ∧ b = .bool (anyN (fun j => numG Gs ((s + j : Nat) : Int) == (k : Int)) j) ∧ q = .int .i64 j ∧ j ≤ W ∧ wq = wr.drewN m) (fun _ _ q _ => W - (intOf q).toNat)
      case atStart => exact ⟨0, 0, rfl, rfl, rfl, Nat.zero_le _, rfl⟩
      case round =>
        obtain ⟨j, m, rfl, rfl, rfl, hj, rfl⟩ := hrel
        have hWx2 := hWx.out
        by_cases hjW : j < W
        · obtain ⟨rb, ro, rfl, hrb, hrc⟩ := RR.out (by omega)
          have c1 := hrc j (by omega)
          have c2 := hrc (s + j) (by omega)
          unfold iv at c1 c2
          dsimp only at c1 c2
          have hw3 : IntKind.i64.wrap ((s : Int) + (j : Int)) = ((s + j : Nat) : Int) := by rw [IntWalk.i64_in _ (by omega)]; omega
          have S1 : Hid (anyN (fun j => numG Gs (j : Int) == (k : Int)) (j + 1) = (anyN (fun j => numG Gs (j : Int) == (k : Int)) j || numG Gs (j : Int) == (k : Int))) := rfl
          have S2 : Hid (anyN (fun j => numG Gs ((s + j : Nat) : Int) == (k : Int)) (j + 1) = (anyN (fun j => numG Gs ((s + j : Nat) : Int) == (k : Int)) j || numG Gs ((s + j : Nat) : Int) == (k : Int))) := rfl
          have hjx : (j : Int) < x := by omega
          generalize anyN (fun j => numG Gs (j : Int) == (k : Int)) j = b1 at *
          generalize anyN (fun j => numG Gs ((s + j : Nat) : Int) == (k : Int)) j = b2 at *
          generalize hm1 : numG Gs (j : Int) = m1 at *
          have hsj : s + j < n := by omega
          have hsj2 : ((s + j : Nat) : Int) < n := by omega
          generalize s + j = sj at *
          generalize numG Gs (sj : Int) = m2 at *
          clear hrc hm1 HA HBb SY SN hWx2
          cases b1 <;> cases b2 <;> cases e1 : (m1 == (k : Int)) <;> cases e2 : (m2 == (k : Int))
          all_goals
            rw [e1] at S1
            rw [e2] at S2
            go_wp2_with fail
            go_quiet (fail)
            go_wp2_with fail
            go_roundw
            case rel => exact ⟨j + 1, _, by rw [S1.out]; rfl, by rw [S2.out]; rfl, by go_num, by omega, by first | rfl | simp⟩
            case measure => simp [intOf]; omega
        · have ej : j = W := by omega
          have hjx : ¬ (j : Int) < x := by omega
          subst ej
          clear hWx2
          rw [HA.out, HBb.out]
          have OR : Hid (GroI (wr.drewN m) G1 L B d) := hO.out.dn
          have BR : Hid (Below G1 w1 (wr.drewN m)) := belowN hB.out
          have hGd : G1 ≤ (wr.drewN m).heap.size := hG1w
          have hLb : L.length ≤ 1048576 := by omega
          cases ha : abvB x (Gs.getD k []) <;> cases hb : blwB x n (Gs.getD k [])
          rotate_right
          · have S := Lib.hid (SY.out (by rw [hsp.out, ha, hb]; rfl))
            clear SY SN ha hb HA HBb
            go_wp2_with (at_builtin; refine isAppI _ _ rfl ?_; refine wpGroY rfl _ _ rfl (w0 := wr.drewN m) (y := (k : Int)) OR.out rfl rfl (by first | rfl | simp [Act.eval]) hLb hGd ?_; intro g5 c5 w5 O5 b5 f5; have HO5 := Lib.hid O5; have HB5 := Lib.hid b5; clear O5 b5 f5)
            have B5 := Lib.hid (HB5.out.below BR.out hGd (fun a ha => (OR.out.lt a ha).1))
            go_roundw
            case rel => exact ⟨k + 1, _, c5, by go_num, by omega, by rw [S.out, List.length_append]; rfl, by rw [S.out]; exact HO5, B5⟩
            case measure => simp [intOf]; omega
          all_goals
            have S := Lib.hid (SN.out (by rw [hsp.out, ha, hb]; rfl))
            clear SY SN ha hb HA HBb
            go_wp2_with fail
            try go_quiet (fail)
            try go_wp2_with fail
            go_roundw
            case rel => exact ⟨k + 1, B, d, by go_num, by omega, by rw [S.out], by rw [S.out]; exact OR, BR⟩
            case measure => simp [intOf]; omega
    · have ek : k = Gs.length := by omega
      subst ek
      have HE : Hid (Below w.heap.size w wr) := B1.out.trans (hB.out.mono (by rw [← HG1.out]; exact B1.out.size))
      have HO2 := Lib.hid (GroI.lower (G' := w.heap.size) hO.out (by rw [← HG1.out]; exact B1.out.size))
      go_wp2
      go_ret
      exact ⟨B, d, rfl, HO2, HE⟩

end Go.Proofs.Ytnhcmloaanamnaa
