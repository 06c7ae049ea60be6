/-
  What is proved here: the law Decimal as a walk, where the library's table of powers of ten is laid. Conditions: the integer is a 64-bit one; the table holds the powers of ten.
-/
import Derived.Test.YtegbclfjcckglaaDoorDec
import Derived.Test.YtegbclfjcckglaaDoorShelfA
import Derived.Lib.SmallJoins
namespace Go.Proofs.YtegbclfjcckglaaDoor
open Go.RowKit

/-- the table of powers of ten, as the library lays it -/
def Pow (w : World) : Prop := Lib.TabIs Tryd.prog w "internal/strconv.uint64pow10" .u64 Lib.pow10Tab

theorem gPow : Tryd.prog.globalNamed "internal/strconv.uint64pow10" = some 6 := by kernel_rfl
theorem Pow.below {w w' : World} (h : Pow w) (hb : Below w.heap.size w w') : Pow w' := Joins.var_stays gPow h hb (Nat.le_refl _)

theorem below_grow (w : World) (k : Nat) (os : Array Obj) : Below w.heap.size w (Go.Sort.grow (w.drewN k) os) :=
  ⟨rfl, rfl, rfl, by simp, fun i hi => by show (w.heap ++ os)[i]? = _; rw [Array.getElem?_append_left hi]⟩

theorem implDec (n : Int) (h0 : -9223372036854775808 ≤ n) (h1 : n ≤ 9223372036854775807) (w : World) (hp : Pow w) :
    Calls Tryd.prog 85 #[.int .i64 n] w fun e w' => e = .returned (.string ⟨(Lib.itoa n).toArray⟩) ∧ Below w.heap.size w w' := by
  have HP := Lib.hid hp
  clear hp
  go_enter Tryd.func85, Tryd.ntmps85
  go_wp2_with (go_at_call 121; refine (Go.Proofs.Tryd.strconv_FormatInt_10 n h0 h1 _ HP.out).mono ?_; rintro e w' ⟨rfl, k, os, rfl⟩)
  go_ret
  exact ⟨rfl, below_grow _ _ _⟩



end Go.Proofs.YtegbclfjcckglaaDoor
