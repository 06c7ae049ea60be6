/-
  What is proved here: the law CheckOf as a walk. Conditions: the text is one that a machine can hold.
-/
import Derived.Test.YteojpmnnpinpeaaChecked
import Derived.WalkKit
import Derived.WalkLawsBesides
import Derived.WalkSpells
import Derived.LoopTactic
import Derived.Lib.Hide
import Derived.Lib.ConvBytes
import Derived.IntWalk
import Derived.Outline
namespace Go.Proofs.Yteojpmnnpinpeaa
open Go.RowKit

/-- the check number of some bytes -/
def chk (n : Int) (l : List UInt8) : Int := l.foldl (fun c b => (857 * c + (b.toNat : Int) + 149) % 65003) n

theorem chk_bd (n : Int) (l : List UInt8) (h : 0 ≤ n ∧ n < 65003) : 0 ≤ chk n l ∧ chk n l < 65003 := by
  induction l generalizing n with
  | nil => exact h
  | cons b l ih => exact ih ((857 * n + (b.toNat : Int) + 149) % 65003) (by omega)

theorem chk_snoc (n : Int) (l : List UInt8) (b : UInt8) : chk n (l ++ [b]) = (857 * chk n l + (b.toNat : Int) + 149) % 65003 := by
  unfold chk; rw [List.foldl_append]; rfl

theorem take_snocK (s : ByteArray) (k : Nat) (h : k < s.size) : s.data.toList.take (k + 1) = s.data.toList.take k ++ [s[k]'h] := by
  rw [List.take_succ_eq_append_getElem (by simpa using h)]; rfl

theorem chk_step (n : Int) (s : ByteArray) (k : Nat) (h : k < s.size) : chk n (s.data.toList.take (k + 1)) = (857 * chk n (s.data.toList.take k) + ((s[k]'h).toNat : Int) + 149) % 65003 := by
  rw [take_snocK s k h, chk_snoc]

theorem take_all (s : ByteArray) : s.data.toList.take s.size = s.data.toList := List.take_of_length_le (by simp)

theorem specCheck (n : Int) (s : ByteArray) (hn : 0 ≤ n ∧ n < 65003) (hs : s.size ≤ 1048576) (w : World) :
    Calls Try.prog 184 #[.int .i64 n, .string s] w fun e w' => e = .returned (.int .i64 (chk n s.data.toList)) ∧ w' = w := by
  have HN := Lib.hid hn
  clear hn
  go_enter Try.func184, Try.ntmps184
  go_wp2
  go_loop [0, 5] (fun c i => ∃ k : Nat, k ≤ s.size ∧ i = .int .i64 k ∧ c = .int .i64 (chk n (s.data.toList.take k))) (fun _ i => s.size - (intOf i).toNat)
  case atStart => exact ⟨0, Nat.zero_le _, rfl, rfl⟩
  case round =>
    obtain ⟨k, hk, rfl, rfl⟩ := hrel
    obtain ⟨b1, b2⟩ := chk_bd n (s.data.toList.take k) HN.out
    by_cases hlt : k < s.size
    · have S := Lib.hid (chk_step n s k hlt)
      have hb0 : (0 : Int) ≤ ((s[k]'hlt).toNat : Int) := by omega
      have hb1 : ((s[k]'hlt).toNat : Int) ≤ 255 := by have := (s[k]'hlt).toNat_lt; omega
      go_wp2
      go_round
      case rel => exact ⟨k + 1, by omega, by go_num, by rw [S.out]⟩
      case measure => simp [intOf]; omega
    · have e : Hid (s.data.toList.take k = s.data.toList) := by
        have : k = s.size := by omega
        subst this; exact take_all s
      go_wp2
      go_ret
      refine ⟨?_, rfl⟩
      show Ending.returned (Value.int .i64 (chk n (s.data.toList.take k))) = _
      rw [e.out]

theorem byte_at (s : ByteArray) (k : Nat) (h : k < s.size) : s.data.toList.getD k 0 = s[k]'h := by
  have h' : k < s.data.toList.length := by simpa using h
  unfold List.getD; rw [List.getElem?_eq_getElem h']; rfl

theorem below_bytes (w : World) (e : TypeId) (s : ByteArray) : Below w.heap.size w (Lib.bytesWorld w e s) :=
  ⟨rfl, rfl, rfl, by rw [Lib.bytesWorld_size]; omega, fun k hk => Lib.bytesWorld_at_old w e s k hk⟩

theorem implCheck (n : Int) (s : ByteArray) (hn : 0 ≤ n ∧ n < 65003) (hs : s.size ≤ 1048576) (w : World) :
    Calls Try.prog 188 #[.int .i64 n, .string s] w fun e w' => e = .returned (.tuple #[.int .i64 (chk n s.data.toList), .bool true]) ∧ Below w.heap.size w w' := by
  have hcv := fun w => Lib.run_convert_string_bytes (P := Try.prog) w 9 212 5 s Try.underlying9 Try.underlying212 Try.underlying5
  have HB := Lib.hid (below_bytes w 5 s)
  have hcell := fun j hj => Lib.bytesWorld_cell w 5 s j hj
  have HC := Lib.hid hcell
  clear hcell
  have HN := Lib.hid hn
  obtain ⟨n1, n2⟩ := hn
  go_enter Try.func188, Try.ntmps188
  go_wp2
  clear hcv
  generalize Lib.bytesWorld w 5 s = w1 at *
  generalize hB : w.heap.size = B at *
  have HE := Lib.hid hB
  clear hB
  go_loop [6, 8, 19] (fun c _ i => ∃ k : Nat, k ≤ s.size ∧ i = .int .i64 k ∧ c = .int .i64 (chk n (s.data.toList.take k))) (fun _ _ i => s.size - (intOf i).toNat)
  case atStart => exact ⟨0, Nat.zero_le _, rfl, rfl⟩
  case round =>
    obtain ⟨k, hk, rfl, rfl⟩ := hrel
    obtain ⟨b1, b2⟩ := chk_bd n (s.data.toList.take k) HN.out
    by_cases hlt : k < s.size
    · have S := Lib.hid (chk_step n s k hlt)
      have hb0 : (0 : Int) ≤ ((s[k]'hlt).toNat : Int) := by omega
      have hb1 : ((s[k]'hlt).toNat : Int) ≤ 255 := by have := (s[k]'hlt).toNat_lt; omega
      have hc := HC.out k hlt
      rw [byte_at s k hlt] at hc
      go_wp2
      go_round
      case rel => exact ⟨k + 1, by omega, by go_num, by rw [S.out]⟩
      case measure => simp [intOf]; omega
    · have e : Hid (s.data.toList.take k = s.data.toList) := by
        have : k = s.size := by omega
        subst this; exact take_all s
      go_wp2
      go_ret2
      refine ⟨?_, by rw [HE.out]; exact HB.out⟩
      show Ending.returned (Value.tuple #[Value.int .i64 (chk n (s.data.toList.take k)), .bool true]) = _
      rw [e.out]

theorem in_anyK (n lo hi : Int) (w : World) :
    Calls Try.prog 92 #[.int .i64 n, .int .i64 lo, .int .i64 hi] w fun e w' => e = .returned (.bool (decide (lo ≤ n) && decide (n ≤ hi))) ∧ w' = w := by
  by_cases h1 : lo ≤ n
  · by_cases h2 : n ≤ hi
    · go_enter Try.func92, Try.ntmps92
      go_wp2
      go_ret
      exact ⟨by simp [h1, h2], rfl⟩
    · have h3 : hi < n := by omega
      go_enter Try.func92, Try.ntmps92
      go_wp2
      go_ret
      exact ⟨by simp [h2], rfl⟩
  · have h3 : n < lo := by omega
    go_enter Try.func92, Try.ntmps92
    go_wp2
    go_ret
    exact ⟨by simp [show ¬ lo ≤ n by omega], rfl⟩



theorem implCheckOf_no (n : Int) (s : ByteArray) (hn : ¬ (0 ≤ n ∧ n < 65003)) (w : World) :
    Calls Try.prog 188 #[.int .i64 n, .string s] w fun e w' => e = .returned (.tuple #[.int .i64 0, .bool false]) ∧ w' = w := by
  by_cases h : n < 0
  · clear hn
    go_enter Try.func188, Try.ntmps188
    go_wp2
    go_ret2
    exact ⟨rfl, rfl⟩
  · have h1 : 0 ≤ n := by omega
    have h2 : 65003 ≤ n := by omega
    clear hn h
    go_enter Try.func188, Try.ntmps188
    go_wp2
    go_ret2
    exact ⟨rfl, rfl⟩


end Go.Proofs.Yteojpmnnpinpeaa
