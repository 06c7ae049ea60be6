/-
  What is proved here: what the listed variables, the library's errors among them, give a walk. Conditions: none.
-/
import Derived.Test.YtegbclfjcckglaaDoorRd
import Derived.Test.YtegbclfjcckglaaDoorLaid
namespace Go.Proofs.YtegbclfjcckglaaDoor
open Go.RowKit

theorem star : "*" ++ "errors.errorString" = "*errors.errorString" := by decide
/-- the one row of that name -/
theorem rowErr (u : TypeId) (h : Tryd.prog.typeName? 3 u = some "*errors.errorString") : u = 207 :=
  typeName_ptr_named (nm := "errors.errorString") (by rw [star]; kernel_rfl) (by kernel_rfl) (by decide) u (by rw [star]; exact h)
theorem tSyn : (Tryd.prog.globals[4]?).map (·.type) = some 100 := by kernel_rfl
theorem tRng : (Tryd.prog.globals[5]?).map (·.type) = some 100 := by kernel_rfl

theorem varsIs {W : World} {rest : List (String × DataW Unit)} (hp : Pow W) (h : laidMet Tryd.prog (("strconv.ErrRange", Rows.laid_strconv_ErrRange) :: ("strconv.ErrSyntax", Rows.laid_strconv_ErrSyntax) :: rest) W) : Vars W := by
  obtain ⟨a, s, h1, _⟩ := laid_sentinel h gRng tRng Tryd.underlying100 rowErr Tryd.underlying207 Tryd.underlying209 rfl rfl Tryd.underlying9 (by kernel_rfl) (by kernel_rfl)
  obtain ⟨b, t, h2, _⟩ := laid_sentinel h.tail gSyn tSyn Tryd.underlying100 rowErr Tryd.underlying207 Tryd.underlying209 rfl rfl Tryd.underlying9 (by kernel_rfl) (by kernel_rfl)
  exact ⟨hp, ⟨_, _, h2⟩, ⟨_, _, h1⟩⟩

end Go.Proofs.YtegbclfjcckglaaDoor
