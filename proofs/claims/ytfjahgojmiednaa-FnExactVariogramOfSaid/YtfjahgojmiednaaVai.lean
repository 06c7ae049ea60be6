/-
  What is proved here: the sum of the squares of pairs, as the program tells it, as a walk. Conditions: at most 1048576 pairs.
-/
import Derived.Test.YtfjahgojmiednaaVap
import Derived.Test.YtfjahgojmiednaaGrp
namespace Go.Proofs.Ytfjahgojmiednaa
open Flt Go.RowKit
attribute [local go_sem] run_store_float
set_option linter.unusedVariables false

theorem sq_pair (a b : Int) (t : Bool) (f l : Nat) (w : World) :
    Calls Try.prog 42 #[.agg #[.int .i64 a, .int .i64 b, .bool t, .float .f32 f, .float .f32 l]] w fun e w' => ∃ g, e = .returned (.float .f32 g) ∧ Hid (can .f32 g = fop .mul .f32 (fop .sub .f32 (can .f32 l) (can .f32 f)) (fop .sub .f32 (can .f32 l) (can .f32 f))) ∧ WF .f32 g ∧ Hid (Below w.heap.size w w') := by
  have B0 : Hid (Below w.heap.size w (w.alloc (.cells #[.int .i64 a, .int .i64 b, .bool t, .float .f32 f, .float .f32 l] 62))) := (Below.refl _ _).alloc (Nat.le_refl _) _
  go_enter Try.func42, Try.ntmps42
  go_wp2_with ((with_reducible refine upon_bin rfl ?_); intro _ _ _ _)
  rename_i r1 m1 w1 er1 r2 m2 w2 er2
  go_ret
  exact ⟨r2, rfl, by show _ = _; rw [er2.out, er1.out], w2, belowN B0.out⟩

set_option maxHeartbeats 2000000 in
theorem sum_pairs (B W : Nat) (A : Option Addr) (c : Nat) (zs : List Nat) (L : List (Nat × Nat × Bool)) (w : World) (hr : RowP w B W zs L A) (hB : B ≤ w.heap.size) (hn : L.length ≤ 1048576) :
    Calls Try.prog 41 #[.slice A L.length c, .func (.func 42) #[] #[]] w fun e w' => ∃ g, e = .returned (.float .f32 g) ∧ Hid (can .f32 g = sqS zs (can .f32 0) (L.map fun p => (p.1, p.2.1))) ∧ WF .f32 g ∧ Hid (Below w.heap.size w w') := by
  have HR := Lib.hid hr
  clear hr
  go_enter Try.func41, Try.ntmps41
  go_wp2
  go_loopw [5, 10] (fun s i wr => ∃ k : Nat, k ≤ L.length ∧ i = .int .i64 k ∧ ∃ sw, s = .float .f32 sw ∧ WF .f32 sw ∧ Hid (can .f32 sw = sqS zs (can .f32 0) ((L.take k).map fun p => (p.1, p.2.1))) ∧ Hid (Below w.heap.size w wr)) (fun _ i _ => L.length - (intOf i).toNat)
  case atStart => exact ⟨0, Nat.zero_le _, rfl, _, rfl, ⟨by decide⟩, by show can .f32 0 = _; rw [List.take_zero]; rfl, Below.refl _ _⟩
  case round =>
    obtain ⟨k, hk, rfl, sw, rfl, hw, hs, hb⟩ := hrel
    by_cases hlt : k < L.length
    · have R := HR.out.below (hb.out.mono hB)
      obtain ⟨g, rfl, hg, hq⟩ := R (by omega)
      clear hq
      obtain ⟨_, d0, d1, d2, d3, d4⟩ := R.at hlt
      have hgr : g < wr.heap.size := Nat.lt_of_lt_of_le (Nat.lt_of_lt_of_le hg hB) hb.out.size
      have S : Hid ((L.take (k + 1)).map (fun p => (p.1, p.2.1)) = (L.take k).map (fun p => (p.1, p.2.1)) ++ [(L[k].1, L[k].2.1)]) := by
        show _ = _
        rw [List.take_succ_eq_append_getElem hlt, List.map_append]; rfl
      generalize L[k] = p at *
      clear R
      generalize ((p.1 % W : Nat) : Int) = q0 at *
      generalize ((p.1 / W : Nat) : Int) = q1 at *
      have hbA : Below wr.heap.size wr (wr.alloc (.cells #[.int .i64 q0, .int .i64 q1, .bool p.2.2, .float .f32 (at0 zs p.1), .float .f32 (at0 zs p.2.1)] 62)) := (Below.refl _ _).alloc (Nat.le_refl _) _
      have HBA := Lib.hid (hb.out.trans (hbA.mono hb.out.size))
      clear hbA
      go_wp2_with fail
      refine (sq_pair _ _ _ _ _ _).mono ?_
      rintro e w' ⟨g2, rfl, hg2, hw2, hb2⟩
      go_wp2_with ((with_reducible refine upon_bin rfl ?_); intro _ _ _ _)
      rename_i r1 m1 w1 er1
      have HBB := Lib.hid (belowN (n := m1) (HBA.out.trans (hb2.out.mono HBA.out.size)))
      go_roundw
      case rel => exact ⟨k + 1, by omega, by go_num, _, rfl, w1, by show can .f32 r1 = _; rw [er1.out, hs.out, S.out, sqS_snoc, hg2.out]; rfl, HBB⟩
      case measure => simp [intOf]; omega
    · have e : Hid (L.take k = L) := List.take_of_length_le (by omega)
      go_wp2
      go_ret
      exact ⟨sw, rfl, by show _ = _; rw [hs.out, e.out], hw, hb⟩

end Go.Proofs.Ytfjahgojmiednaa
