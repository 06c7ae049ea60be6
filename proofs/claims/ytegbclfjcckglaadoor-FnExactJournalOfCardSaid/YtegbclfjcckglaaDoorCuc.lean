/-
  What is proved here: the first cut of a text at a byte, as the library makes it, told by all cuts. Conditions: none. Own text; no dump.
-/
import Derived.Test.YtegbclfjcckglaaDoorCud
import Derived.Lib.CutLaws
namespace Go.Proofs.YtegbclfjcckglaaDoor

theorem cutBd_cons (d : UInt8) (s : ByteArray) : ∃ p ps, cutBd d s = p :: ps := by
  obtain ⟨p, ps, h⟩ := cutD_cons d s.data.toList
  exact ⟨bytesD p, ps.map bytesD, by unfold cutBd; rw [h]; rfl⟩

/-- a text without the byte, or one that is cut at its first one -/
theorem cut_cases (d : UInt8) (s : ByteArray) :
    (plainD d s.data.toList ∧ cutBd d s = [s] ∧ Lib.cut s.data.toList [d] = (s.data.toList, [], false)) ∨
    ∃ x y : ByteArray, s.data.toList = x.data.toList ++ d :: y.data.toList ∧ plainD d x.data.toList ∧ cutBd d s = x :: cutBd d y ∧ Lib.cut s.data.toList [d] = (x.data.toList, y.data.toList, true) := by
  rcases index_sep d s.data.toList with ⟨h1, h2⟩ | ⟨p, r, h1, h2, h3⟩
  · left
    refine ⟨h2, ?_, ?_⟩
    · unfold cutBd; rw [cutD_end h2]; rfl
    · unfold Lib.cut; rw [if_neg (by rw [h1]; decide)]
  · right
    refine ⟨bytesD p, bytesD r, h1, h2, ?_, ?_⟩
    · unfold cutBd; rw [h1, cutD_hit h2]; rfl
    · unfold Lib.cut
      rw [if_pos (by rw [h3]; exact Int.natCast_nonneg _), h3, Int.toNat_natCast, h1, List.take_left]
      congr 2
      show List.drop (p.length + 1) (p ++ d :: r) = r
      rw [show p ++ d :: r = (p ++ [d]) ++ r by simp, List.drop_left' (by simp)]

theorem size_of_split {s x y : ByteArray} {d : UInt8} (h : s.data.toList = x.data.toList ++ d :: y.data.toList) : s.size = x.size + y.size + 1 := by
  have := congrArg List.length h
  rw [List.length_append, List.length_cons, size_list, size_list, size_list] at this
  omega

end Go.Proofs.YtegbclfjcckglaaDoor
