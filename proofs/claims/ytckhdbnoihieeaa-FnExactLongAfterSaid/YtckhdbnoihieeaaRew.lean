/-
  What is proved here: words that are rewritten by the program, as a walk. Conditions: a valid grammar and a word.
-/
import Derived.Test.YtckhdbnoihieeaaLuk
import Derived.Test.YtckhdbnoihieeaaBld
import Derived.Test.YtckhdbnoihieeaaShelfB
import Derived.Lib.OthersKept
namespace Go.Proofs.Ytckhdbnoihieeaa
open Go.RowKit Go.Maps


theorem lk_size {ss : List ByteArray} {b : Nat} (h : ∀ k, (txt ss k).size ≤ b) (c : Nat) : ∀ (n : Nat) (s : ByteArray), lk ss c n = some s → s.size ≤ b
  | 0, s, e => by cases e
  | n + 1, s, e => by
    unfold lk at e
    split at e
    · injection e with e; rw [← e]; exact h n
    · exact lk_size h c n s e

theorem wLet_small {n : Nat} (h : wLet n = true) : n < 128 := by
  by_cases g : n < 128
  · exact g
  · rw [wLet_high (by omega)] at h; exact Bool.noConfusion h
theorem wordB_at {t : ByteArray} {n k : Nat} (h : wordB t n = true) (hk : k < t.size) : (t[k]'hk).toNat < 128 := by
  unfold wordB at h
  simp at h
  exact wLet_small (h.2 ⟨k, hk⟩)


end Go.Proofs.Ytckhdbnoihieeaa
