/-
  What is proved here: the law FnPowers as a walk. Conditions: the lists are ones that a machine can hold.
-/
import Derived.Test.YtebijgjdeofalabPowC
namespace Go.Proofs.Ytebijgjdeofalab
open Flt Go.RowKit

theorem run_widened {x y : Nat} (h : floatToFloatBits .f32 x .f64 = some y) : ∀ W, (convert 34 39 (.float .f32 x)).run Try.prog W = .ok (.float .f64 y) W :=
  fun W => run_convert_float_float W 34 39 .f32 .f64 x y (by kernel_rfl) (by kernel_rfl) h
theorem below_drewN (w : World) (n : Nat) : Below w.heap.size w (w.drewN n) := ⟨rfl, rfl, rfl, Nat.le_refl _, fun _ _ => rfl⟩

/-- an eighth, as the law makes it -/
theorem run_eighth {k : Nat} (hk : k < 65) (W : World) : (binOp .quo 34 (.float .f32 (floatOfInt .f32 ((k : Int) - 32))) (.float .f32 1090519040)).run Try.prog W = .ok (.float .f32 (zT (k + 32))) W := by
  have h := z_at (k := k + 32) (by omega)
  unfold eighth at h
  rw [show (((k + 32 : Nat) : Int) - 64) = (k : Int) - 32 by omega] at h
  exact run_float_arith W .quo 34 .f32 _ _ _ h

theorem zT64 : zT (32 + 32) = 0 := by decide
theorem eT64 : eT (32 + 32) = 1065353216 := by decide
theorem lT32 : lT 32 = 0 := by decide
theorem expOne (w : World) : Calls Try.prog 16 #[.float .f32 0] w (WPost 1065353216 w) := by
  have := expCall (32 + 32) (by decide) w
  rwa [zT64, eT64] at this
theorem logZero (w : World) : Calls Try.prog 18 #[.float .f32 1065353216] w (WPost 0 w) := by
  have := logCall 32 (by decide) w
  rwa [eT64, lT32] at this
theorem ones : FloatKind.f32.format.order 1065353216 1065353216 = some .eq ∧ FloatKind.f32.format.order 0 0 = some .eq := by decide +kernel

set_option maxHeartbeats 4000000 in
theorem lawPow (A : Option Addr) (lenA capA : Nat) (zsA : List Int) (B : Option Addr) (lenB capB : Nat) (zsB : List Int) {w : World} (ha : ListB w A lenA zsA) (hb : ListB w B lenB zsB) :
    Calls Try.prog 4 #[.slice A lenA capA, .slice B lenB capB] w fun e w' => e = .returned (.bool true) ∧ Below w.heap.size w w' := by
  obtain ⟨hsA, hrA, hallA, hmA⟩ := ha
  obtain ⟨hsB, hrB, hallB, hmB⟩ := hb
  subst hsA hsB
  unfold maxLen at hmA hmB
  have HL := Lib.hid (long_any A B zsA.length capA zsB.length capB (by omega) (by omega) w)
  cases hlong : (decide (1048576 < zsA.length) || decide (1048576 < zsB.length))
  rotate_left 1
  · rw [hlong] at HL
    clear hrA hrB hallA hallB hlong
    go_enter Try.func4, Try.ntmps4
    go_wp2_with (go_at_call 5; refine HL.out.mono ?_; rintro e w' ⟨rfl, rfl⟩)
    go_ret
    exact ⟨rfl, Below.refl _ _⟩
  rw [hlong] at HL
  rw [Bool.or_eq_false_iff] at hlong
  have hA := of_decide_eq_false hlong.1
  have hB := of_decide_eq_false hlong.2
  have HA := Lib.hid (b10At_any A capA zsA 0 65 w w.heap.size hrA hallA (by omega) (by omega) (by omega) (by omega))
  have HB := Lib.hid (b10At_any B capB zsB 0 65 w w.heap.size hrB hallB (by omega) (by omega) (by omega) (by omega))
  clear hrA hrB hallA hallB hlong hA hB
  go_enter Try.func4, Try.ntmps4
  go_wp2_with (go_at_call 5; refine HL.out.mono ?_; rintro e w' ⟨rfl, rfl⟩)
  refine HA.out.mono ?_
  rintro e w' ⟨i, hi, rfl, rfl⟩
  have hqi := run_eighth hi
  go_wp2_with fail
  refine HB.out.mono ?_
  rintro e w' ⟨j, hj, rfl, rfl⟩
  have hqj := run_eighth hj
  go_wp2_with fail
  clear hqi hqj
  refine (expCall (i + 32) (by omega) _).mono ?_
  rintro e w1 ⟨rfl, n1, rfl⟩
  go_wp2_with fail
  refine (expCall (j + 32) (by omega) _).mono ?_
  rintro e w2 ⟨rfl, n2, rfl⟩
  obtain ⟨hadd, m, h, g, hm, hh, hg, hlt⟩ := prod_at hi hj
  obtain ⟨u, v, g1, hu, hv, hg1, hlt1⟩ := back_at hi
  have hsum : ∀ W, (binOp .add 34 (.float .f32 (zT (i + 32))) (.float .f32 (zT (j + 32)))).run Try.prog W = .ok (.float .f32 (zT (i + j))) W := fun W => run_float_arith W .add 34 .f32 _ _ _ hadd
  have HS := Lib.hid (And.intro hm (And.intro hh (And.intro hg (And.intro hu (And.intro hv (And.intro hg1 hlt1))))))
  have HLT := Lib.hid hlt
  clear hadd hm hh hg hu hv hg1 hlt1 hlt
  go_wp2_with fail
  clear hsum
  refine (expCall (i + j) (by omega) _).mono ?_
  rintro e w3 ⟨rfl, n3, rfl⟩
  have wi := (zw_at (k := i + 32) (by omega)).2.2.2.1
  have wj := (zw_at (k := j + 32) (by omega)).2.2.2.1
  have wij := (zw_at (k := i + j) (by omega)).2.2.2.1
  have ep := (l_at hi).2.2.2.1
  obtain ⟨hm, hh, hg, hu, hv, hg1, hlt1⟩ := HS.out
  have hlt2 := HLT.out
  have q1 := run_widened hu
  have q2 := run_widened hv
  have q3 := run_widened wi
  have q4 := run_widened wj
  have q5 := run_widened wij
  have q6 : ∀ W, (binOp .mul 39 (.float .f64 (wT (i + 32))) (.float .f64 (wT (j + 32)))).run Try.prog W = .ok (.float .f64 m) W := fun W => run_float_arith W .mul 39 .f64 _ _ _ hm
  have q7 : ∀ W, (binOp .mul 39 (.float .f64 4562254508917369340) (.float .f64 (wT (i + j)))).run Try.prog W = .ok (.float .f64 h) W := fun W => run_float_arith W .mul 39 .f64 _ _ _ hh
  obtain ⟨o1, o2⟩ := ones
  have HG := Lib.hid hg
  have HG1 := Lib.hid hg1
  clear hm hh hg hu hv hg1 wi wj wij HS HLT
  go_wp2_with (first | (go_at_call 18; ((with_reducible refine (logCall i hi _).mono ?_); rintro e w4 ⟨rfl, n4, rfl⟩)) | (go_at_call 18; ((with_reducible refine (logZero _).mono ?_); rintro e w4 ⟨rfl, n6, rfl⟩)) | (go_at_call 16; ((with_reducible refine (expOne _).mono ?_); rintro e w4 ⟨rfl, n5, rfl⟩)) | (go_at_call 17; ((with_reducible refine (gapCall u v g1 HG1.out _).mono ?_); rintro e w' ⟨rfl, rfl⟩)) | (go_at_call 17; ((with_reducible refine (gapCall m (wT (i + j)) g HG.out _).mono ?_); rintro e w' ⟨rfl, rfl⟩)))
  go_ret
  exact ⟨rfl, below_drewN _ _⟩

end Go.Proofs.Ytebijgjdeofalab
