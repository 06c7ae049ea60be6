/-
  What is proved here: powers and logarithms of eighths, as walks. Conditions: as each theorem names.
-/
import Derived.Test.YtebijgjdeofalabPowB
import Derived.Test.YtebijgjdeofalabByt
namespace Go.Proofs.Ytebijgjdeofalab
open Flt Go.RowKit

theorem upon_wid_eq {P : Program} {o : Oper} {a : Act} {K : Act → World → Prop} {Q : Exit → Act → World → Prop} {s d : TypeId} {x y : Nat} {w : World} {f : Value → World → Result Next} (hy : floatToFloatBits .f32 x .f64 = some y) (hs : (P.underlying s).isSome = true) (hd : P.underlying d = some (.float .f64))
    (h : Oper.upon P o a K Q (f (.float .f64 y) w)) :
    Oper.upon P o a K Q ((Sem.run P (convert s d (.float .f32 x)) w).andThen f) := by
  rw [run_convert_float_float w s d .f32 .f64 x y hs hd hy]
  exact h

theorem ok_word {r p q : Nat} {a : Option Nat} (h : Hid (can .f64 r = a)) (ha : a = some p) (hp : floatToFloatBits .f64 p .f32 = some q) : okNar (can .f64 r) := by
  rw [h.out, ha]; intro v hv; cases hv; exact ⟨q, hp⟩

theorem bind_parts {α β : Type} {o : Option α} {f : α → Option β} {r : β} (h : o.bind f = some r) : ∃ x, o = some x ∧ f x = some r := by
  cases o with
  | none => cases h
  | some x => exact ⟨x, rfl, h⟩

theorem nar_parts {a : Option Nat} {r : Nat} (h : nar a = some r) : ∃ p, a = some p ∧ floatToFloatBits .f64 p .f32 = some r := bind_parts h

/-- what a function of numbers gives: a word, that is told -/
def WPost (v : Nat) (w : World) (e : Ending) (w' : World) : Prop := e = .returned (.float .f32 v) ∧ ∃ n, w' = w.drewN n
theorem wpost {v r n : Nat} {w : World} (h : can .f32 r = some v) : WPost v w (.returned (.float .f32 r)) (w.drewN n) := by
  obtain ⟨_, rfl⟩ := can_eq_some h
  exact ⟨rfl, n, rfl⟩

theorem sq_step (p : Option Nat) (j : Nat) (v : Nat) (h : can .f64 v = sqP p j) : fop .mul .f64 (can .f64 v) (can .f64 v) = sqP p (j + 1) := by
  show _ = (sqP p j).bind fun v => floatBits .mul .f64 v v
  rw [← h]
  unfold fop
  cases can .f64 v <;> rfl

set_option maxHeartbeats 1000000 in
theorem expAny (x y r : Nat) (h1 : FloatKind.f32.format.order x 1128792064 = some .lt) (h2 : FloatKind.f32.format.order x 3276275712 = some .gt) (hy : floatToFloatBits .f32 x .f64 = some y) (hr : expF x = some r) (w : World) :
    Calls Try.prog 16 #[.float .f32 x] w (WPost r w) := by
  have HY : Hid (wid (can .f32 x) = can .f64 y) := by
    show _ = _
    have hx : nanW .f32 x = false := by
      cases hn : nanW .f32 x with
      | false => rfl
      | true => rw [widen_nan hn] at hy; cases hy
    rw [can_num hx, can_num (conv_num (by decide) hy)]; exact hy
  unfold expF at hr
  obtain ⟨p, hp, hq⟩ := nar_parts hr
  have HP := Lib.hid hp
  have HQ := Lib.hid hq
  have Hy := Lib.hid hy
  clear hr hp hq hy
  go_enter Try.func16, Try.ntmps16
  go_wp2_with (first | ((with_reducible refine upon_wid_eq Hy.out ?_ ?_ ?_); rotate_left 2; rotate_left 1; kernel_rfl; kernel_rfl) | ((with_reducible refine upon_bin rfl ?_); intro _ _ _ _))
  rename_i t nt wt et K hK
  go_loopw [4, 5] (fun q k wr => ∃ j : Nat, j ≤ 12 ∧ k = .int .i64 ((12 : Int) - (j : Int)) ∧ ∃ qw nw, q = .float .f64 qw ∧ wr = w.drewN nw ∧ Hid (can .f64 qw = expP (can .f64 t) j)) (fun _ k _ => (1 + intOf k).toNat)
  case atStart => exact ⟨0, by omega, rfl, _, _, rfl, rfl, rfl⟩
  case round =>
    obtain ⟨j, hj, rfl, qw, nw, rfl, rfl, hE⟩ := hrel
    by_cases hlt : j < 12
    · have h5 : (1 : Int) ≤ (12 : Int) - (j : Int) := by omega
      have h6 : (12 : Int) - (j : Int) ≤ 12 := by omega
      have hk : Hid ((12 : Int) - (j : Int) = ((12 - j : Nat) : Int)) := by show (12 : Int) - (j : Int) = ((12 - j : Nat) : Int); omega
      go_wp2_with ((with_reducible refine upon_bin rfl ?_); intro _ _ _ _)
      rename_i c1 m1 v1 x1 c2 m2 v2 x2 c3 m3 v3 x3
      go_roundw
      case rel => exact ⟨j + 1, by omega, by rw [show (12 : Int) - (j : Int) - 1 = (12 : Int) - ((j + 1 : Nat) : Int) by omega], _, _, rfl, rfl, by show can .f64 c3 = _; rw [x3.out, x2.out, x1.out, hE.out, hk.out]; rfl⟩
      case measure => simp [intOf]; omega
    · obtain rfl : j = 12 := by omega
      rw [show (12 : Int) - ((12 : Nat) : Int) = 0 by omega]
      clear hlt hj
      go_wp2_with fail
      go_loopw [4, 26] (fun q k wr => ∃ j : Nat, j ≤ 8 ∧ k = .int .i64 j ∧ ∃ qw nw, q = .float .f64 qw ∧ wr = w.drewN nw ∧ Hid (can .f64 qw = sqP (expP (can .f64 t) 12) j)) (fun _ k _ => 8 - (intOf k).toNat)
      case atStart => exact ⟨0, by omega, rfl, _, _, rfl, rfl, hE⟩
      case round =>
        obtain ⟨j, hj, rfl, qw, nw, rfl, rfl, hS⟩ := hrel
        by_cases hlt : j < 8
        · go_wp2_with ((with_reducible refine upon_bin rfl ?_); intro _ _ _ _)
          rename_i c1 m1 v1 x1
          go_roundw
          case rel => exact ⟨j + 1, by omega, by go_num, _, _, rfl, rfl, by show can .f64 c1 = _; rw [x1.out]; exact sq_step _ _ _ hS.out⟩
          case measure => simp [intOf]; omega
        · obtain rfl : j = 8 := by omega
          have HW : Hid (can .f64 qw = some p) := by
            show _ = _
            rw [hS.out, et.out, ← HY.out]; exact HP.out
          clear hlt hj hS hE
          go_wp2_with (first | ((with_reducible refine upon_nar ?_ ?_ (ok_word HW rfl HQ.out) ?_); rotate_left 2; intro _ _ _ _; rotate_left 1; kernel_rfl; kernel_rfl) | go_in)
          rename_i c1 m1 v1 x1
          go_ret
          exact wpost (by rw [x1.out, HW.out]; exact HQ.out)

theorem expCall (k : Nat) (hk : k < 129) (w : World) : Calls Try.prog 16 #[.float .f32 (zT k)] w (WPost (eT k) w) := by
  obtain ⟨h1, h2, ⟨y, hy⟩, _, _⟩ := zw_at hk
  exact expAny _ y _ h1 h2 hy (e_at hk) w

theorem logAny (x y r : Nat) (hn : nanW .f32 x = false) (hf : finB .f32 x = true) (t : FloatKind.f32.format.order x 0 = some .gt) (hy : floatToFloatBits .f32 x .f64 = some y) (g : Rng y) (hr : logN x = some r) (w : World) : Calls Try.prog 18 #[.float .f32 x] w (WPost r w) := by
  have HN := Lib.hid hn
  have HF := Lib.hid hf
  unfold logN at hr
  rw [hy, Option.bind_some] at hr
  obtain ⟨p, hp, hq⟩ := nar_parts hr
  have HP := Lib.hid hp
  have HQ := Lib.hid hq
  have Hy := Lib.hid hy
  clear hn hf hy hr hp hq
  go_enter Try.func18, Try.ntmps18
  go_wp2_with (first | ((with_reducible refine upon_wid_eq Hy.out ?_ ?_ ?_); rotate_left 2; rotate_left 1; kernel_rfl; kernel_rfl) | (go_at_call 33; refine (isNaN_any _ _).mono ?_; rintro e w' ⟨rfl, n, rfl⟩; rw [HN.out]) | (go_at_call 35; refine (implFin _ _).mono ?_; rintro e w' ⟨rfl, n, rfl⟩; rw [HF.out]) | (go_at_call 36; refine (log_any _ g _).mono ?_; rintro e w' ⟨v, n, rfl, rfl, hc, hg⟩) | ((with_reducible refine upon_nar ?_ ?_ (ok_word (by assumption) HP.out HQ.out) ?_); rotate_left 2; intro _ _ _ _; rotate_left 1; kernel_rfl; kernel_rfl) | go_in)
  rename_i t n3 wt et
  go_ret
  exact wpost (by rw [et.out, hc.out, HP.out]; exact HQ.out)

theorem logCall (k : Nat) (hk : k < 65) (w : World) : Calls Try.prog 18 #[.float .f32 (eT (k + 32))] w (WPost (lT k) w) := by
  obtain ⟨h1, h2, h3, h4, h5⟩ := l_at hk
  exact logAny _ _ _ h2 h3 h4 (zw_at (k := k + 32) (by omega)).2.2.2.1 h5 h1 w

theorem gapCall (a b g : Nat) (h : gapW a b = some g) (w : World) :
    Calls Try.prog 17 #[.float .f64 a, .float .f64 b] w fun e w' => e = .returned (.float .f64 g) ∧ w = w' := by
  unfold gapW at h
  cases ho : (FloatKind.f64.format.order a b == some .lt)
  · rw [ho] at h
    have hrun : ∀ w, (binOp .sub 39 (.float .f64 a) (.float .f64 b)).run Try.prog w = .ok (.float .f64 g) w := fun w => run_float_arith w .sub 39 .f64 _ _ _ h
    clear h
    go_enter Try.func17, Try.ntmps17
    go_wp2
    go_ret
    exact ⟨rfl, rfl⟩
  · rw [ho] at h
    have hrun : ∀ w, (binOp .sub 39 (.float .f64 b) (.float .f64 a)).run Try.prog w = .ok (.float .f64 g) w := fun w => run_float_arith w .sub 39 .f64 _ _ _ h
    clear h
    go_enter Try.func17, Try.ntmps17
    go_wp2
    go_ret
    exact ⟨rfl, rfl⟩

end Go.Proofs.Ytebijgjdeofalab
