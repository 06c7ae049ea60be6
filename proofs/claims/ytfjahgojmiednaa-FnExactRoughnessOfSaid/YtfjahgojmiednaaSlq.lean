/-
  What is proved here: SlopeOfPowers of the program where a number is not finite; both together. Conditions: at most 1048576 numbers.
-/
import Derived.Test.YtfjahgojmiednaaSlp
namespace Go.Proofs.Ytfjahgojmiednaa
open Flt Go.RowKit
attribute [local go_sem] run_store_float unary_negf
set_option linter.unusedVariables false

set_option maxHeartbeats 16000000 in
theorem implLogSlInf (A : Option Addr) (c : Nat) (zs : List Nat) (G : Nat → Option Nat) (w : World) (hr : RowF w w.heap.size A zs) (hn : zs.length ≤ 64) (hf : finAll zs = false) (hG : Cnts G) :
    Calls Try.prog 46 #[.slice A zs.length c] w (MPost (some 0) false w) := by
  have HR := Lib.hid hr
  have HNF := Lib.hid hf
  have hmk := run_mk zs.length (by omega)
  clear hr hf
  go_enter Try.func46, Try.ntmps46
  go_wp2_with fail
  go_region
  all_goals clear hmk
  · have n0 : (w.heap.size : Nat) ≠ w.heap.size + 1 := by omega
    go_wp2_with fail
    go_loopw [16] (fun i wr => ∃ (k : Nat) (xs ys : List Nat), i = .int .i64 k ∧ k ≤ zs.length ∧ Hid (∀ j, j < k → finB .f32 (at0 zs j) = true) ∧ Hid (xs.length = zs.length) ∧ Hid (ys.length = zs.length) ∧ Hid (RowH wr (w.heap.size) xs) ∧ Hid (RowH wr (w.heap.size + 1) ys) ∧ Hid (Below w.heap.size w wr)) (fun i _ => zs.length - (intOf i).toNat)
    case atStart => exact ⟨0, List.replicate zs.length 0, List.replicate zs.length 0, rfl, Nat.zero_le _, fun j hj => absurd hj (Nat.not_lt_zero _), by show _ = _; simp, by show _ = _; simp, ((rowH_new w zs.length).below ((Below.refl _ _).alloc (Nat.le_refl _) _)).dr, (rowH_two w zs.length).dr, (((Below.refl _ _).alloc (Nat.le_refl _) _).alloc (by simp) _).drew⟩
    case round =>
      obtain ⟨k, xs, ys, rfl, hk, hJ, hP, hP', hX, hY, hB⟩ := hrel
      by_cases hlt : k < zs.length
      · obtain ⟨b, off, rfl, hb, hcell⟩ := (HR.out.below hB.out) (by omega)
        have hc := hcell k hlt
        have hx1 := hX.out.cell k (by rw [hP.out]; exact hlt)
        have hx2 := hX.out.free k (by rw [hP.out]; exact hlt)
        have hy1 := hY.out.cell k (by rw [hP'.out]; exact hlt)
        have hy2 := hY.out.free k (by rw [hP'.out]; exact hlt)
        clear hcell hb
        cases hfi : finB .f32 (at0 zs k)
        · have HFI := Lib.hid hfi
          clear hfi
          go_wp2_with (go_at_call 73; refine (implFin _ _).mono ?_; rintro e w' ⟨rfl, nf, rfl⟩; rw [HFI.out])
          go_ret2
          exact mpost_no rfl rfl (belowN hB.out)
        have HFI := Lib.hid hfi
        cases hp : posB (at0 zs k)
        · have hp1 := pos_le HFI.out hp
          clear hp
          rcases hp1 with hp1 | hp1
          all_goals
            go_wp2_with (go_at_call 73; refine (implFin _ _).mono ?_; rintro e w' ⟨rfl, nf, rfl⟩; rw [HFI.out])
            go_ret2
            exact mpost_no rfl rfl (belowN hB.out)
        · have hp1 : FloatKind.f32.format.order (at0 zs k) 0 = some .gt := eq_of_beq hp
          obtain ⟨cl, _, hcl⟩ := lg_both (at0 zs k) (by unfold abvB; rw [HFI.out]; exact hp)
          have HS := Lib.hid hcl
          have HG := Lib.hid (fun W => (hG k (by omega)).2 W)
          have HJ : Hid (∀ j, j < k + 1 → finB .f32 (at0 zs j) = true) := fun j hj => by
            by_cases e : j = k
            · rw [e]; exact HFI.out
            · exact hJ.out j (by omega)
          clear hp hJ hcl hfi
          go_wp2_with (first | (go_at_call 73; refine (implFin _ _).mono ?_; rintro e w' ⟨rfl, nf, rfl⟩; rw [HFI.out]) | (go_at_call 80; (first | ((with_reducible refine (HS.out _).mono ?_); rintro e w' ⟨g2, n2, rfl, rfl, e2, w2⟩) | ((with_reducible refine (HG.out _).mono ?_); rintro e w' ⟨g1, n1, rfl, rfl, e1, w1⟩))))
          go_roundw
          case rel => exact ⟨k + 1, xs.set k g1, ys.set k g2, by go_num, by omega, HJ, by show _ = _; rw [List.length_set]; exact hP.out, by show _ = _; rw [List.length_set]; exact hP'.out, (hX.out.dn.set (by rw [hP.out]; exact hlt)).other (Ne.symm n0), (hY.out.dn.other n0).set (by rw [hP'.out]; exact hlt), ((belowN hB.out).setCell (by dsimp only; omega) _).setCell (by dsimp only; omega) _⟩
          case measure => simp [intOf]; omega
      · exfalso
        have := finAll_yes (zs := zs) fun j hj => hJ.out j (by omega)
        rw [HNF.out] at this
        cases this
  · have n0 : (w.heap.size + 1 : Nat) ≠ w.heap.size := by omega
    go_wp2_with fail
    go_loopw [16] (fun i wr => ∃ (k : Nat) (xs ys : List Nat), i = .int .i64 k ∧ k ≤ zs.length ∧ Hid (∀ j, j < k → finB .f32 (at0 zs j) = true) ∧ Hid (xs.length = zs.length) ∧ Hid (ys.length = zs.length) ∧ Hid (RowH wr (w.heap.size + 1) xs) ∧ Hid (RowH wr (w.heap.size) ys) ∧ Hid (Below w.heap.size w wr)) (fun i _ => zs.length - (intOf i).toNat)
    case atStart => exact ⟨0, List.replicate zs.length 0, List.replicate zs.length 0, rfl, Nat.zero_le _, fun j hj => absurd hj (Nat.not_lt_zero _), by show _ = _; simp, by show _ = _; simp, (rowH_two w zs.length).dr, ((rowH_new w zs.length).below ((Below.refl _ _).alloc (Nat.le_refl _) _)).dr, (((Below.refl _ _).alloc (Nat.le_refl _) _).alloc (by simp) _).drew⟩
    case round =>
      obtain ⟨k, xs, ys, rfl, hk, hJ, hP, hP', hX, hY, hB⟩ := hrel
      by_cases hlt : k < zs.length
      · obtain ⟨b, off, rfl, hb, hcell⟩ := (HR.out.below hB.out) (by omega)
        have hc := hcell k hlt
        have hx1 := hX.out.cell k (by rw [hP.out]; exact hlt)
        have hx2 := hX.out.free k (by rw [hP.out]; exact hlt)
        have hy1 := hY.out.cell k (by rw [hP'.out]; exact hlt)
        have hy2 := hY.out.free k (by rw [hP'.out]; exact hlt)
        clear hcell hb
        cases hfi : finB .f32 (at0 zs k)
        · have HFI := Lib.hid hfi
          clear hfi
          go_wp2_with (go_at_call 73; refine (implFin _ _).mono ?_; rintro e w' ⟨rfl, nf, rfl⟩; rw [HFI.out])
          go_ret2
          exact mpost_no rfl rfl (belowN hB.out)
        have HFI := Lib.hid hfi
        cases hp : posB (at0 zs k)
        · have hp1 := pos_le HFI.out hp
          clear hp
          rcases hp1 with hp1 | hp1
          all_goals
            go_wp2_with (go_at_call 73; refine (implFin _ _).mono ?_; rintro e w' ⟨rfl, nf, rfl⟩; rw [HFI.out])
            go_ret2
            exact mpost_no rfl rfl (belowN hB.out)
        · have hp1 : FloatKind.f32.format.order (at0 zs k) 0 = some .gt := eq_of_beq hp
          obtain ⟨cl, _, hcl⟩ := lg_both (at0 zs k) (by unfold abvB; rw [HFI.out]; exact hp)
          have HS := Lib.hid hcl
          have HG := Lib.hid (fun W => (hG k (by omega)).2 W)
          have HJ : Hid (∀ j, j < k + 1 → finB .f32 (at0 zs j) = true) := fun j hj => by
            by_cases e : j = k
            · rw [e]; exact HFI.out
            · exact hJ.out j (by omega)
          clear hp hJ hcl hfi
          go_wp2_with (first | (go_at_call 73; refine (implFin _ _).mono ?_; rintro e w' ⟨rfl, nf, rfl⟩; rw [HFI.out]) | (go_at_call 80; (first | ((with_reducible refine (HS.out _).mono ?_); rintro e w' ⟨g2, n2, rfl, rfl, e2, w2⟩) | ((with_reducible refine (HG.out _).mono ?_); rintro e w' ⟨g1, n1, rfl, rfl, e1, w1⟩))))
          go_roundw
          case rel => exact ⟨k + 1, xs.set k g1, ys.set k g2, by go_num, by omega, HJ, by show _ = _; rw [List.length_set]; exact hP.out, by show _ = _; rw [List.length_set]; exact hP'.out, (hX.out.dn.set (by rw [hP.out]; exact hlt)).other (Ne.symm n0), (hY.out.dn.other n0).set (by rw [hP'.out]; exact hlt), ((belowN hB.out).setCell (by dsimp only; omega) _).setCell (by dsimp only; omega) _⟩
          case measure => simp [intOf]; omega
      · exfalso
        have := finAll_yes (zs := zs) fun j hj => hJ.out j (by omega)
        rw [HNF.out] at this
        cases this



end Go.Proofs.Ytfjahgojmiednaa
