/-
  What is proved here: the law ReadMap, as a walk. Conditions: the library's variables hold what it lays.
-/
import Derived.Test.YtegbclfjcckglaaDoorRmp
import Derived.Test.YtegbclfjcckglaaDoorEqm
namespace Go.Proofs.YtegbclfjcckglaaDoor
open Flt Go.RowKit
attribute [local go_sem] run_store_complex

set_option maxHeartbeats 2000000 in
theorem lawRM (s : ByteArray) (hs : s.size ≤ maxLen) (w : World) (hv : VarsM w) :
    Calls Tryd.prog 3 #[.string s] w fun e w' => e = .returned (.bool true) ∧ Below w.heap.size w w' := by
  have HV := Lib.hid hv
  clear hv
  unfold maxLen at hs
  by_cases hbig : 1048576 < s.size
  · go_enter Tryd.func3, Tryd.ntmps3
    go_wp2
    go_ret
    exact ⟨rfl, Below.refl _ _⟩
  · have hn : s.size ≤ 1048576 := by omega
    have HS : Hid (∀ W, Calls Tryd.prog 13 #[.string s] W (RMP (rmB s) (rmV s) W)) := fun W => specRM s hn W
    have HI : Hid (∀ W, VarsM W → Calls Tryd.prog 14 #[.string s] W (RMP (rmB s) (rmV s) W)) := fun W h => implRM s hn W h
    unfold RMP at HS HI
    clear hbig
    generalize rmB s = bb at *
    generalize rmV s = vv at *
    obtain ⟨kk, p, q⟩ := vv
    go_enter Tryd.func3, Tryd.ntmps3
    go_wp2_with fail
    refine (HS.out _).mono ?_
    rintro e w1 ⟨rfl, B1⟩
    have B2 : Hid (Below w.heap.size w (w1.alloc (.cells #[.int .i64 kk, .complex .f32 p q] 24))) := B1.out.alloc B1.out.size _
    have z1 : w1.heap.size < (w1.alloc (.cells #[.int .i64 kk, .complex .f32 p q] 24)).heap.size := by simp
    have C1 : Hid (∀ w2, Below (w1.alloc (.cells #[.int .i64 kk, .complex .f32 p q] 24)).heap.size (w1.alloc (.cells #[.int .i64 kk, .complex .f32 p q] 24)) w2 → w2.cell? ⟨w1.heap.size, 0, none⟩ = some (.int .i64 kk) ∧ w2.cell? ⟨w1.heap.size, 1, none⟩ = some (.complex .f32 p q)) := fun w2 h => ⟨(varq h 0).1.trans rfl, (varq h 1).1.trans rfl⟩
    have Z1 := Lib.hid z1
    clear B1 z1
    go_wp2_with fail
    generalize w1.alloc (.cells #[.int .i64 kk, .complex .f32 p q] 24) = a1 at *
    generalize w1.heap.size = x1 at *
    refine (HI.out _ (HV.out.below B2.out)).mono ?_
    rintro e w2 ⟨rfl, b2⟩
    obtain ⟨c0, c1⟩ := C1.out w2 b2.out
    have B3 : Hid (Below w.heap.size w (w2.alloc (.cells #[.int .i64 kk, .complex .f32 p q] 24))) := (B2.out.trans (b2.out.mono B2.out.size)).alloc (Nat.le_trans B2.out.size b2.out.size) _
    have hx1 : x1 < w2.heap.size := Nat.lt_of_lt_of_le Z1.out b2.out.size
    clear B2 b2 C1 Z1
    go_wp2_with (go_at_call 15; refine (eqMap_is _ _ _ _).mono ?_; rintro e w3 ⟨rfl, b3⟩; have B4 := Lib.hid (B3.out.trans (b3.mono B3.out.size)); clear b3)
    go_ret
    exact ⟨rfl, B4.out⟩

end Go.Proofs.YtegbclfjcckglaaDoor
