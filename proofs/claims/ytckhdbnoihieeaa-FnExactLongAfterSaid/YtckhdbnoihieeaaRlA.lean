/-
  What is proved here: copies of one rule, and the texts that mark, as walks. Conditions: marks below 1048576.
-/
import Derived.Test.YtckhdbnoihieeaaChecked
import Derived.WalkKit
import Derived.WalkLawsBesides
import Derived.WalkSpells
import Derived.IntWalk
import Derived.Lib.Hide
import Derived.OwnWalk
import Derived.LoopTactic
import Derived.Laws.MakeOwn
import Derived.Laws.Entries
import Derived.Deep.Slices
import Derived.Outline
import Derived.Deep.RegionWith
import Derived.BigQuiet
import Derived.Deep.QuietTactic
import Derived.Laws.Concat
import Derived.Laws.BytesString
import Derived.Laws.IdiomStrings
namespace Go.Proofs.Ytckhdbnoihieeaa
open Go.RowKit

theorem toRule_is (a b : ByteArray) (w : World) :
    Calls Try.prog 99 #[.agg #[.string a, .string b]] w fun e w' => e = .returned (.agg #[.string a, .string b]) ∧ Below w.heap.size w w' := by
  go_enter Try.func99, Try.ntmps99
  go_wp2
  exact bodyPost_ret (v := .agg #[.string a, .string b]) (by simp [results, Try.results99, go_sem]) rfl ⟨rfl, (((Below.refl _ _).alloc (Nat.le_refl _) _).alloc (by simp) _).alloc (by simp; omega) _⟩

theorem eqRule_is (a b : ByteArray) (w : World) :
    Calls Try.prog 104 #[.agg #[.string a, .string b], .agg #[.string a, .string b]] w fun e w' => e = .returned (.bool true) ∧ Below w.heap.size w w' := by
  go_enter Try.func104, Try.ntmps104
  go_wp2
  go_ret
  exact ⟨rfl, ((Below.refl _ _).alloc (Nat.le_refl _) _).alloc (by simp) _⟩

/-- the last digit -/
def dgB (n : Nat) : UInt8 := UInt8.ofNat (48 + n % 10)

/-- the digits of a number, ahead of a text -/
def dg (n : Nat) (s : ByteArray) : ByteArray := if n = 0 then s else dg (n / 10) (⟨#[dgB n]⟩ ++ s)
termination_by n
decreasing_by omega

/-- the text that marks -/
def mtx (k : Nat) : ByteArray := ⟨#[109]⟩ ++ dg k ⟨#[]⟩

theorem dg_zero (s : ByteArray) : dg 0 s = s := by rw [dg, if_pos rfl]
theorem dg_step {n : Nat} (h : 0 < n) (s : ByteArray) : dg n s = dg (n / 10) (⟨[dgB n].toArray⟩ ++ s) := by rw [dg, if_neg (by omega)]

set_option maxRecDepth 1000000 in
theorem markText_is (k : Nat) (h0 : 0 < k) (h1 : k < 4194304) (w : World) :
    Calls Try.prog 105 #[.int .i64 k] w fun e w' => e = .returned (.string (mtx k)) ∧ Below w.heap.size w w' := by
  go_enter Try.func105, Try.ntmps105
  go_wp2
  go_loopw [0, 3] (fun q o wr => ∃ (n : Nat) (s : ByteArray), n ≤ k ∧ n + s.size ≤ k ∧ q = .int .i64 n ∧ o = .string s ∧ Hid (dg n s = dg k ⟨#[]⟩) ∧ Hid (Below w.heap.size w wr)) (fun q _ _ => (intOf q).toNat)
  case atStart => exact ⟨k, _, Nat.le_refl _, Nat.le_refl _, rfl, rfl, rfl, Below.refl _ _⟩
  case round =>
    obtain ⟨n, s, hn, hs, rfl, rfl, hD, hB⟩ := hrel
    by_cases hlt : 0 < n
    · have hstr := run_convert_bytes_back (P := Try.prog) (wr.alloc (.cells #[.int .u8 (48 + (n : Int) % 10)] 5)) _ _ _ ⟨wr.heap.size, 0, none⟩ 1 [dgB n] Try.underlying137 Try.underlying5 Try.underlying9 (fun j hj => by
        obtain rfl : j = 0 := by simpa using hj
        simp [World.cell?, World.alloc, -World.alloc_eq, Addr.add, dgB]
        omega)
      simp only [List.length_cons, List.length_nil, Nat.zero_add] at hstr
      have hsz : (ByteArray.mk [dgB n].toArray ++ s).size = 1 + s.size := by simp [ByteArray.size_append]; rfl
      have HN : Hid (n / 10 + (ByteArray.mk [dgB n].toArray ++ s).size ≤ k) := by show _ ≤ k; omega
      have hadd : ∀ W, (Op.stringOp .add ⟨[dgB n].toArray⟩ s).run Try.prog W = .ok (.string (⟨[dgB n].toArray⟩ ++ s)) W := fun W => run_string_add_sum W _ _ (by rw [← ByteArray.size_append]; omega)
      have HD : Hid (dg (n / 10) (⟨[dgB n].toArray⟩ ++ s) = dg k ⟨#[]⟩) := (dg_step hlt s).symm.trans hD.out
      have HB : Hid (Below w.heap.size w (wr.alloc (.cells #[.int .u8 (48 + (n : Int) % 10)] 5))) := hB.out.alloc hB.out.size _
      clear hsz hD hB
      go_wp2
      go_roundw
      case rel => exact ⟨n / 10, _, by omega, HN.out, by go_num, rfl, HD, HB⟩
      case measure => simp [intOf]; omega
    · have HN : Hid (n = 0) := by show n = 0; omega
      have hadd : ∀ W, (Op.stringOp .add ⟨#[109]⟩ s).run Try.prog W = .ok (.string (⟨#[109]⟩ ++ s)) W := fun W => run_string_add_sum W _ _ (by show 1 + s.size ≤ _; omega)
      go_wp2
      go_ret
      refine ⟨?_, hB.out⟩
      have := hD.out
      rw [HN.out, dg_zero] at this
      rw [this]
      rfl

end Go.Proofs.Ytckhdbnoihieeaa
