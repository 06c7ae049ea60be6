/-
  What is proved here: ranges of lists, of both packages, as walks; RangeOfWalk. Conditions: at most 1048576 numbers.
-/
import Derived.Test.YthhimielelpcoaaMea
import Derived.Test.YthhimielelpcoaaMxd
namespace Go.Proofs.Ythhimielelpcoaa
open Flt Go.RowKit
set_option linter.unusedVariables false

theorem run_max {a b : Nat} {o : Ordering} (h : FloatKind.f32.format.order a b = some o) : ∀ W : World, (Builtin.max_ #[43, 43] 43 #[.float .f32 a, .float .f32 b]).run Try.prog W = .ok (.float .f32 (mx2 a b)) W := by
  intro W
  unfold mx2
  rw [h]
  cases o <;> simp [Builtin.max_, Builtin.max2, h, List.foldlM]
theorem run_min {a b : Nat} {o : Ordering} (h : FloatKind.f32.format.order a b = some o) : ∀ W : World, (Builtin.min_ #[43, 43] 43 #[.float .f32 a, .float .f32 b]).run Try.prog W = .ok (.float .f32 (mn2 a b)) W := by
  intro W
  unfold mn2
  rw [h]
  cases o <;> simp [Builtin.min_, Builtin.min2, h, List.foldlM]
theorem lessW_self (x : Nat) : lessW x x = x := by unfold lessW; split <;> rfl
theorem greatW_self (x : Nat) : greatW x x = x := by unfold greatW; split <;> rfl
theorem mx2_self (x : Nat) : mx2 x x = x := by rcases mx2_or x x with h | h <;> exact h
theorem mn2_self (x : Nat) : mn2 x x = x := by rcases mn2_or x x with h | h <;> exact h
def rngC (zs : List Nat) : Option Nat := fop .sub .f32 (can .f32 (hiW zs zs.length)) (can .f32 (loW zs zs.length))
theorem rng_same {zs : List Nat} (h : finAll zs = true) (h0 : 0 < zs.length) : fop .sub .f32 (can .f32 (mxW zs zs.length)) (can .f32 (mnW zs zs.length)) = rngC zs := by
  unfold rngC
  rw [fop_can, fop_can]
  exact range_same h h0

theorem specRange6 (A : Option Addr) (c : Nat) (zs : List Nat) (w : World) (Z : Nat) (hr : RowF w Z A zs) (hn : zs.length ≤ 1048576) (h0 : 0 < zs.length) :
    Calls Try.prog 115 #[.slice A zs.length c] w (FPost .f32 (rngC zs) w) := by
  obtain ⟨b, off, rfl, hb, hcell⟩ := hr h0
  have hc0 : w.cell? ⟨b, off, none⟩ = some (.float .f32 (at0 zs 0)) := hcell 0 h0
  have HC := Lib.hid hcell
  have L1 : Hid (loW zs 1 = at0 zs 0) := lessW_self _
  have G1 : Hid (hiW zs 1 = at0 zs 0) := greatW_self _
  clear hr hcell hb
  go_enter Try.func115, Try.ntmps115
  go_wp2
  clear hc0
  go_loop [3, 4, 5] (fun l h i => ∃ k : Nat, k ≤ zs.length ∧ 1 ≤ k ∧ i = .int .i64 k ∧ l = .float .f32 (loW zs k) ∧ h = .float .f32 (hiW zs k)) (fun _ _ i => zs.length - (intOf i).toNat)
  case atStart => exact ⟨1, by omega, Nat.le_refl _, rfl, by rw [L1.out], by rw [G1.out]⟩
  case round =>
    obtain ⟨k, hk, hk1, rfl, rfl, rfl⟩ := hrel
    by_cases hlt : k < zs.length
    · have hc := HC.out k hlt
      by_cases g1 : FloatKind.f32.format.order (at0 zs k) (loW zs k) = some .lt
      · have N1 : Hid (loW zs (k + 1) = at0 zs k) := if_pos g1
        by_cases g2 : FloatKind.f32.format.order (at0 zs k) (hiW zs k) = some .gt
        · have N2 : Hid (hiW zs (k + 1) = at0 zs k) := if_pos g2
          go_wp2
          go_round
          case rel => exact ⟨k + 1, by omega, by omega, by go_num, by rw [N1.out], by rw [N2.out]⟩
          case measure => simp [intOf]; omega
        · have N2 : Hid (hiW zs (k + 1) = hiW zs k) := if_neg g2
          have g3 := beq_of_not g2
          clear g2
          go_wp2
          go_round
          case rel => exact ⟨k + 1, by omega, by omega, by go_num, by rw [N1.out], by rw [N2.out]⟩
          case measure => simp [intOf]; omega
      · have N1 : Hid (loW zs (k + 1) = loW zs k) := if_neg g1
        have g4 := beq_of_not g1
        clear g1
        by_cases g2 : FloatKind.f32.format.order (at0 zs k) (hiW zs k) = some .gt
        · have N2 : Hid (hiW zs (k + 1) = at0 zs k) := if_pos g2
          go_wp2
          go_round
          case rel => exact ⟨k + 1, by omega, by omega, by go_num, by rw [N1.out], by rw [N2.out]⟩
          case measure => simp [intOf]; omega
        · have N2 : Hid (hiW zs (k + 1) = hiW zs k) := if_neg g2
          have g3 := beq_of_not g2
          clear g2
          go_wp2
          go_round
          case rel => exact ⟨k + 1, by omega, by omega, by go_num, by rw [N1.out], by rw [N2.out]⟩
          case measure => simp [intOf]; omega
    · have HK : Hid (k = zs.length) := by show k = zs.length; omega
      go_wp2_with ((with_reducible refine upon_bin rfl ?_); intro r n wf er)
      go_ret
      exact fpost (by rw [er.out, HK.out]; rfl) wf

theorem max_any (A : Option Addr) (c : Nat) (zs : List Nat) (w : World) (Z : Nat) (hr : RowF w Z A zs) (hn : zs.length ≤ 1048576) (h0 : 0 < zs.length) (hf : finAll zs = true) :
    Calls Try.prog 183 #[.slice A zs.length c] w fun e w' => e = .returned (.float .f32 (mxW zs zs.length)) ∧ w = w' := by
  obtain ⟨b, off, rfl, hb, hcell⟩ := hr h0
  have hc0 : w.cell? ⟨b, off, none⟩ = some (.float .f32 (at0 zs 0)) := hcell 0 h0
  have HC := Lib.hid hcell
  have HE := Lib.hid (ends_at hf h0)
  have HF := Lib.hid hf
  have L1 : Hid (mxW zs 1 = at0 zs 0) := mx2_self _
  clear hr hcell hb hf
  go_enter Try.func183, Try.ntmps183
  go_wp2
  clear hc0
  go_loop [3, 4] (fun l i => ∃ k : Nat, k ≤ zs.length ∧ 1 ≤ k ∧ i = .int .i64 k ∧ l = .float .f32 (mxW zs k)) (fun _ i => zs.length - (intOf i).toNat)
  case atStart => exact ⟨1, by omega, Nat.le_refl _, rfl, by rw [L1.out]⟩
  case round =>
    obtain ⟨k, hk, hk1, rfl, rfl⟩ := hrel
    by_cases hlt : k < zs.length
    · have hc := HC.out k hlt
      have hmx := run_max (ord_fin (HE.out k hk).f1 (finAll_at HF.out hlt))
      go_wp2
      go_round
      case rel => exact ⟨k + 1, by omega, by omega, by go_num, rfl⟩
      case measure => simp [intOf]; omega
    · have HK : Hid (k = zs.length) := by show k = zs.length; omega
      go_wp2
      go_ret
      exact ⟨by rw [HK.out]; rfl, rfl⟩
theorem min_any (A : Option Addr) (c : Nat) (zs : List Nat) (w : World) (Z : Nat) (hr : RowF w Z A zs) (hn : zs.length ≤ 1048576) (h0 : 0 < zs.length) (hf : finAll zs = true) :
    Calls Try.prog 184 #[.slice A zs.length c] w fun e w' => e = .returned (.float .f32 (mnW zs zs.length)) ∧ w = w' := by
  obtain ⟨b, off, rfl, hb, hcell⟩ := hr h0
  have hc0 : w.cell? ⟨b, off, none⟩ = some (.float .f32 (at0 zs 0)) := hcell 0 h0
  have HC := Lib.hid hcell
  have HE := Lib.hid (ends_at hf h0)
  have HF := Lib.hid hf
  have L1 : Hid (mnW zs 1 = at0 zs 0) := mn2_self _
  clear hr hcell hb hf
  go_enter Try.func184, Try.ntmps184
  go_wp2
  clear hc0
  go_loop [3, 4] (fun l i => ∃ k : Nat, k ≤ zs.length ∧ 1 ≤ k ∧ i = .int .i64 k ∧ l = .float .f32 (mnW zs k)) (fun _ i => zs.length - (intOf i).toNat)
  case atStart => exact ⟨1, by omega, Nat.le_refl _, rfl, by rw [L1.out]⟩
  case round =>
    obtain ⟨k, hk, hk1, rfl, rfl⟩ := hrel
    by_cases hlt : k < zs.length
    · have hc := HC.out k hlt
      have hmx := run_min (ord_fin (HE.out k hk).f2 (finAll_at HF.out hlt))
      go_wp2
      go_round
      case rel => exact ⟨k + 1, by omega, by omega, by go_num, rfl⟩
      case measure => simp [intOf]; omega
    · have HK : Hid (k = zs.length) := by show k = zs.length; omega
      go_wp2
      go_ret
      exact ⟨by rw [HK.out]; rfl, rfl⟩
theorem implRange6 (A : Option Addr) (c : Nat) (zs : List Nat) (w : World) (Z : Nat) (hr : RowF w Z A zs) (hn : zs.length ≤ 1048576) (h0 : 0 < zs.length) (hf : finAll zs = true) :
    Calls Try.prog 156 #[.slice A zs.length c] w (FPost .f32 (rngC zs) w) := by
  have H1 := Lib.hid (max_any A c zs w Z hr hn h0 hf)
  have H2 := Lib.hid (min_any A c zs w Z hr hn h0 hf)
  have HS := Lib.hid (rng_same hf h0)
  clear hr hf
  go_enter Try.func156, Try.ntmps156
  go_wp2_with (first | (go_at_call 183; refine H1.out.mono ?_; rintro e w' ⟨rfl, rfl⟩) | (go_at_call 184; refine H2.out.mono ?_; rintro e w' ⟨rfl, rfl⟩) | ((with_reducible refine upon_bin rfl ?_); intro r n wf er))
  go_ret
  exact fpost (by rw [er.out, HS.out]) wf


end Go.Proofs.Ythhimielelpcoaa
