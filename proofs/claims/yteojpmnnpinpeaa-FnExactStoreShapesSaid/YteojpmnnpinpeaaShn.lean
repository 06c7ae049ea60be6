/-
  What is proved here: names of both packages, as walks. Conditions: the text is one that a machine can hold.
-/
import Derived.Test.YteojpmnnpinpeaaChecked
import Derived.WalkKit
import Derived.WalkLawsBesides
import Derived.WalkSpells
import Derived.LoopTactic
import Derived.Laws.RangeString
import Derived.Laws.RangeAny
import Derived.Lib.Hide
import Derived.IntWalk
import Derived.Outline
namespace Go.Proofs.Yteojpmnnpinpeaa
open Go.RowKit

/-- small letters alone, before a place -/
def letters (s : ByteArray) (k : Nat) : Prop := ∀ (i : Nat) (h : i < s.size), i < k → 97 ≤ (s[i]'h).toNat ∧ (s[i]'h).toNat ≤ 122

theorem letters_succ {s : ByteArray} {k : Nat} (h : letters s k) (hk : k < s.size) (h1 : 97 ≤ (s[k]'hk).toNat) (h2 : (s[k]'hk).toNat ≤ 122) : letters s (k + 1) := by
  intro i hi hik
  rcases Nat.lt_or_eq_of_le (Nat.le_of_lt_succ hik) with hlt | rfl
  · exact h i hi hlt
  · exact ⟨h1, h2⟩

/-- a name -/
def nameB (s : ByteArray) : Bool := decide (1 ≤ s.size ∧ s.size ≤ 8) && decide (∀ i : Fin s.size, 97 ≤ (s[i.val]'i.isLt).toNat ∧ (s[i.val]'i.isLt).toNat ≤ 122)

theorem nameB_of {s : ByteArray} (h : letters s s.size) : nameB s = decide (1 ≤ s.size ∧ s.size ≤ 8) := by
  unfold nameB
  rw [decide_eq_true (p := ∀ i : Fin s.size, 97 ≤ (s[i.val]'i.isLt).toNat ∧ (s[i.val]'i.isLt).toNat ≤ 122) (fun i => h i.val i.isLt i.isLt), Bool.and_true]
theorem nameB_not {s : ByteArray} {k : Nat} (hk : k < s.size) (h : ¬ (97 ≤ (s[k]'hk).toNat ∧ (s[k]'hk).toNat ≤ 122)) : nameB s = false := by
  unfold nameB
  rw [decide_eq_false (p := ∀ i : Fin s.size, 97 ≤ (s[i.val]'i.isLt).toNat ∧ (s[i.val]'i.isLt).toNat ≤ 122) (fun g => h (g ⟨k, hk⟩)), Bool.and_false]

theorem specName (s : ByteArray) (hs : s.size ≤ 1048576) (w : World) :
    Calls Try.prog 182 #[.string s] w fun e w' => e = .returned (.bool (nameB s)) ∧ w' = w := by
  go_enter Try.func182, Try.ntmps182
  go_wp2
  go_loop [3] (fun i => ∃ k : Nat, k ≤ s.size ∧ i = .int .i64 k ∧ letters s k) (fun i => s.size - (intOf i).toNat)
  case atStart => exact ⟨0, Nat.zero_le _, rfl, fun i _ h => absurd h (Nat.not_lt_zero _)⟩
  case round =>
    obtain ⟨k, hk, rfl, hl⟩ := hrel
    have L := Lib.hid hl
    clear hl
    by_cases hlt : k < s.size
    · by_cases h1 : (s[k]'hlt).toNat < 97
      · have N := Lib.hid (nameB_not hlt (by omega))
        go_wp2
        go_ret
        exact ⟨by rw [N.out]; rfl, rfl⟩
      · by_cases h2 : 122 < (s[k]'hlt).toNat
        · have N := Lib.hid (nameB_not hlt (by omega))
          go_wp2
          go_ret
          exact ⟨by rw [N.out]; rfl, rfl⟩
        · have N := Lib.hid (letters_succ L.out hlt (by omega) (by omega))
          go_wp2
          go_round
          case rel => exact ⟨k + 1, by omega, by go_num, N.out⟩
          case measure => simp [intOf]; omega
    · have N := Lib.hid (nameB_of (show letters s s.size from (show k = s.size by omega) ▸ L.out))
      by_cases h1 : 1 ≤ s.size
      · by_cases h2 : s.size ≤ 8
        · go_wp2
          go_ret
          exact ⟨by rw [N.out]; simp [h1, h2]; omega, rfl⟩
        · go_wp2
          go_ret
          exact ⟨by rw [N.out]; simp [h2]; omega, rfl⟩
      · go_wp2
        go_ret
        exact ⟨by rw [N.out]; simp [h1], rfl⟩

theorem decode_hi (s : ByteArray) (pos : Nat) (h : pos < s.size) (ha : ¬ (s[pos]'h).toNat < 128) : (128 : Int) ≤ ((Utf8.decode s pos).1 : Int) ∧ ((Utf8.decode s pos).1 : Int) ≤ 2147483647 := by
  have h1 := (decode_high s pos h (by omega)).1
  have h2 := decode_le s pos
  omega

theorem implName (s : ByteArray) (hs : s.size ≤ 1048576) (w : World) :
    Calls Try.prog 243 #[.string s] w fun e w' => e = .returned (.bool (nameB s)) ∧ Below w.heap.size w w' := by
  by_cases h1 : s.size < 1
  · have N := Lib.hid (show nameB s = false by unfold nameB; rw [decide_eq_false (by omega), Bool.false_and])
    go_enter Try.func243, Try.ntmps243
    go_wp2
    go_ret
    exact ⟨by rw [N.out]; rfl, Below.refl _ _⟩
  · by_cases h2 : 8 < s.size
    · have N := Lib.hid (show nameB s = false by unfold nameB; rw [decide_eq_false (by omega), Bool.false_and])
      go_enter Try.func243, Try.ntmps243
      go_wp2
      go_ret
      exact ⟨by rw [N.out]; rfl, Below.refl _ _⟩
    · have h1' : 1 ≤ s.size := by omega
      have h2' : s.size ≤ 8 := by omega
      go_enter Try.func243, Try.ntmps243
      go_wp2
      go_loopw [] (fun w' => ∃ pos : Nat, pos ≤ s.size ∧ w' = w.iter s pos ∧ letters s pos) (fun w' => s.size - w'.iterPos w.heap.size)
      case atStart => exact ⟨0, Nat.zero_le _, rfl, fun i _ h => absurd h (Nat.not_lt_zero _)⟩
      case round =>
        obtain ⟨pos, hpos, rfl, hl⟩ := hrel
        have L := Lib.hid hl
        clear hl
        by_cases hlt : pos < s.size
        · by_cases ha : (s[pos]'hlt).toNat < 128
          · have hnx : ∀ ty, (Instr.next (.pointer (some ⟨w.heap.size, 0, none⟩)) true ty).run Try.prog (w.iter s pos) = _ := fun ty => run_next_ascii w s pos ty hlt ha
            by_cases g1 : (s[pos]'hlt).toNat < 97
            · have N := Lib.hid (nameB_not hlt (by omega))
              go_wp2
              go_ret
              exact ⟨by rw [N.out]; rfl, (Below.refl _ _).alloc (Nat.le_refl _) _⟩
            · by_cases g2 : 122 < (s[pos]'hlt).toNat
              · have N := Lib.hid (nameB_not hlt (by omega))
                go_wp2
                go_ret
                exact ⟨by rw [N.out]; rfl, (Below.refl _ _).alloc (Nat.le_refl _) _⟩
              · have N := Lib.hid (letters_succ L.out hlt (by omega) (by omega))
                go_wp2
                go_roundw
                case rel => exact ⟨pos + 1, by omega, rfl, N.out⟩
                case measure => simp; omega
          · have hnx : ∀ ty, (Instr.next (.pointer (some ⟨w.heap.size, 0, none⟩)) true ty).run Try.prog (w.iter s pos) = _ := fun ty => run_next_any w s pos ty hlt
            obtain ⟨d1, d2⟩ := decode_hi s pos hlt ha
            have N := Lib.hid (nameB_not hlt (by omega))
            go_wp2
            go_ret
            exact ⟨by rw [N.out]; rfl, (Below.refl _ _).alloc (Nat.le_refl _) _⟩
        · have hnx : ∀ ty, (Instr.next (.pointer (some ⟨w.heap.size, 0, none⟩)) true ty).run Try.prog (w.iter s pos) = _ := fun ty => run_next_end w s pos ty hlt
          have N := Lib.hid (nameB_of (show letters s s.size from (show pos = s.size by omega) ▸ L.out))
          go_wp2
          go_ret
          exact ⟨by rw [N.out]; simp; omega, (Below.refl _ _).alloc (Nat.le_refl _) _⟩

end Go.Proofs.Yteojpmnnpinpeaa
