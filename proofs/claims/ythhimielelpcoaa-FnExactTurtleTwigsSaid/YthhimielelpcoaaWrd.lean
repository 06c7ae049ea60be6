/-
  What is proved here: words, as walks, and the law IsWord. Conditions: the text is one that a machine can hold.
-/
import Derived.Test.YthhimielelpcoaaChecked
import Derived.WalkKit
import Derived.WalkLawsBesides
import Derived.WalkSpells
import Derived.LoopTactic
import Derived.Laws.RangeString
import Derived.Laws.RangeAny
import Derived.Lib.Hide
import Derived.IntWalk
import Derived.Outline
namespace Go.Proofs.Ythhimielelpcoaa
open Go.RowKit

/-- a letter of a word -/
def wLet (n : Nat) : Bool := (decide (65 ≤ n) && decide (n ≤ 90)) || decide (n = 43) || decide (n = 45) || decide (n = 91) || decide (n = 93)

/-- letters alone, before a place -/
def wTo (s : ByteArray) (k : Nat) : Prop := ∀ (i : Nat) (h : i < s.size), i < k → wLet (s[i]'h).toNat = true

theorem wTo_succ {s : ByteArray} {k : Nat} (h : wTo s k) (hk : k < s.size) (h1 : wLet (s[k]'hk).toNat = true) : wTo s (k + 1) := by
  intro i hi hik
  rcases Nat.lt_or_eq_of_le (Nat.le_of_lt_succ hik) with hlt | rfl
  · exact h i hi hlt
  · exact h1

/-- a word of at most n letters -/
def wordB (s : ByteArray) (n : Nat) : Bool := decide (s.size ≤ n) && decide (∀ i : Fin s.size, wLet (s[i.val]'i.isLt).toNat = true)

theorem wordB_of {s : ByteArray} {n : Nat} (hn : s.size ≤ n) (h : wTo s s.size) : wordB s n = true := by
  unfold wordB
  rw [decide_eq_true (p := ∀ i : Fin s.size, wLet (s[i.val]'i.isLt).toNat = true) (fun i => h i.val i.isLt i.isLt), Bool.and_true, decide_eq_true hn]
theorem wordB_not {s : ByteArray} {n k : Nat} (hk : k < s.size) (h : wLet (s[k]'hk).toNat = false) : wordB s n = false := by
  unfold wordB
  rw [decide_eq_false (p := ∀ i : Fin s.size, wLet (s[i.val]'i.isLt).toNat = true) (fun g => by have := g ⟨k, hk⟩; rw [h] at this; exact Bool.noConfusion this), Bool.and_false]
theorem wordB_long {s : ByteArray} {n : Nat} (hn : n < s.size) : wordB s n = false := by
  unfold wordB
  rw [decide_eq_false (by omega), Bool.false_and]

theorem specWord (s : ByteArray) (n : Nat) (hs : s.size ≤ 9223372036854775807) (hn : n ≤ 4000) (w : World) :
    Calls Try.prog 124 #[.string s, .int .i64 n] w fun e w' => e = .returned (.bool (wordB s n)) ∧ w = w' := by
  by_cases hb : n < s.size
  · have N := Lib.hid (wordB_long hb)
    by_cases h0 : 0 < s.size
    · go_enter Try.func124, Try.ntmps124
      go_wp2
      go_loop [5] (fun i => i = .int .i64 0) (fun _ => 0)
      case atStart => rfl
      case round =>
        subst hrel
        go_wp2
        go_ret
        exact ⟨by rw [N.out]; rfl, rfl⟩
    · omega
  · have hb' : s.size ≤ n := by omega
    go_enter Try.func124, Try.ntmps124
    go_wp2
    go_loop [5] (fun i => ∃ k : Nat, k ≤ s.size ∧ i = .int .i64 k ∧ wTo s k) (fun i => s.size - (intOf i).toNat)
    case atStart => exact ⟨0, Nat.zero_le _, rfl, fun i _ h => absurd h (Nat.not_lt_zero _)⟩
    case round =>
      obtain ⟨k, hk, rfl, hl⟩ := hrel
      have L := Lib.hid hl
      clear hl
      by_cases hlt : k < s.size
      · cases hw : wLet (s[k]'hlt).toNat
        · have N := Lib.hid (wordB_not (n := n) hlt hw)
          have g : ¬ (65 ≤ (s[k]'hlt).toNat ∧ (s[k]'hlt).toNat ≤ 90) ∧ (s[k]'hlt).toNat ≠ 43 ∧ (s[k]'hlt).toNat ≠ 45 ∧ (s[k]'hlt).toNat ≠ 91 ∧ (s[k]'hlt).toNat ≠ 93 := by
            simp [wLet] at hw; omega
          clear hw
          obtain ⟨g0, g1, g2, g3, g4⟩ := g
          have b1 : (((s[k]'hlt).toNat : Int) != 43) = true := bne_iff_ne.2 (by omega)
          have b2 : (((s[k]'hlt).toNat : Int) != 45) = true := bne_iff_ne.2 (by omega)
          have b3 : (((s[k]'hlt).toNat : Int) != 91) = true := bne_iff_ne.2 (by omega)
          have b4 : (((s[k]'hlt).toNat : Int) != 93) = true := bne_iff_ne.2 (by omega)
          by_cases g5 : (s[k]'hlt).toNat < 65
          · go_wp2
            go_ret
            exact ⟨by rw [N.out]; rfl, rfl⟩
          · have g6 : 90 < (s[k]'hlt).toNat := by omega
            go_wp2
            go_ret
            exact ⟨by rw [N.out]; rfl, rfl⟩
        · have N := Lib.hid (wTo_succ L.out hlt hw)
          have g : (65 ≤ (s[k]'hlt).toNat ∧ (s[k]'hlt).toNat ≤ 90) ∨ (s[k]'hlt).toNat = 43 ∨ (s[k]'hlt).toNat = 45 ∨ (s[k]'hlt).toNat = 91 ∨ (s[k]'hlt).toNat = 93 := by
            simp [wLet] at hw; omega
          clear hw
          rcases g with ⟨g1, g2⟩ | g | g | g | g
          · go_wp2
            go_round
            case rel => exact ⟨k + 1, by omega, by go_num, N.out⟩
            case measure => simp [intOf]; omega
          · have b43 : (((s[k]'hlt).toNat : Int) != 43) = false := by rw [g]; rfl
            have b45 : (((s[k]'hlt).toNat : Int) != 45) = true := by rw [g]; rfl
            have b91 : (((s[k]'hlt).toNat : Int) != 91) = true := by rw [g]; rfl
            have b93 : (((s[k]'hlt).toNat : Int) != 93) = true := by rw [g]; rfl
            have g1 : (s[k]'hlt).toNat < 65 := by omega
            clear g
            go_wp2
            go_round
            case rel => exact ⟨k + 1, by omega, by go_num, N.out⟩
            case measure => simp [intOf]; omega
          · have b45 : (((s[k]'hlt).toNat : Int) != 45) = false := by rw [g]; rfl
            have b43 : (((s[k]'hlt).toNat : Int) != 43) = true := by rw [g]; rfl
            have b91 : (((s[k]'hlt).toNat : Int) != 91) = true := by rw [g]; rfl
            have b93 : (((s[k]'hlt).toNat : Int) != 93) = true := by rw [g]; rfl
            have g1 : (s[k]'hlt).toNat < 65 := by omega
            clear g
            go_wp2
            go_round
            case rel => exact ⟨k + 1, by omega, by go_num, N.out⟩
            case measure => simp [intOf]; omega
          · have b91 : (((s[k]'hlt).toNat : Int) != 91) = false := by rw [g]; rfl
            have b43 : (((s[k]'hlt).toNat : Int) != 43) = true := by rw [g]; rfl
            have b45 : (((s[k]'hlt).toNat : Int) != 45) = true := by rw [g]; rfl
            have b93 : (((s[k]'hlt).toNat : Int) != 93) = true := by rw [g]; rfl
            have g1 : (s[k]'hlt).toNat > 90 := by omega
            clear g
            go_wp2
            go_round
            case rel => exact ⟨k + 1, by omega, by go_num, N.out⟩
            case measure => simp [intOf]; omega
          · have b93 : (((s[k]'hlt).toNat : Int) != 93) = false := by rw [g]; rfl
            have b43 : (((s[k]'hlt).toNat : Int) != 43) = true := by rw [g]; rfl
            have b45 : (((s[k]'hlt).toNat : Int) != 45) = true := by rw [g]; rfl
            have b91 : (((s[k]'hlt).toNat : Int) != 91) = true := by rw [g]; rfl
            have g1 : (s[k]'hlt).toNat > 90 := by omega
            clear g
            go_wp2
            go_round
            case rel => exact ⟨k + 1, by omega, by go_num, N.out⟩
            case measure => simp [intOf]; omega
      · have N := Lib.hid (wordB_of (n := n) hb' (show wTo s s.size from (show k = s.size by omega) ▸ L.out))
        go_wp2
        go_ret
        exact ⟨by rw [N.out]; simp <;> omega, rfl⟩

theorem decode_hi (s : ByteArray) (pos : Nat) (h : pos < s.size) (ha : ¬ (s[pos]'h).toNat < 128) : (128 : Int) ≤ ((Utf8.decode s pos).1 : Int) ∧ ((Utf8.decode s pos).1 : Int) ≤ 2147483647 := by
  have h1 := (decode_high s pos h (by omega)).1
  have h2 := decode_le s pos
  omega

/-- a capital -/
def capB (n : Nat) : Bool := decide (65 ≤ n) && decide (n ≤ 90)
theorem capB_yes {n : Nat} (h1 : 65 ≤ n) (h2 : n ≤ 90) : capB n = true := by unfold capB; rw [decide_eq_true h1, decide_eq_true h2]; rfl
theorem capB_no {n : Nat} (h : ¬ (65 ≤ n ∧ n ≤ 90)) : capB n = false := by simp [capB]; omega

theorem isCapital_is (n : Nat) (w : World) (hn : n ≤ 2147483647) :
    Calls Try.prog 136 #[.int .i32 n] w fun e w' => e = .returned (.bool (capB n)) ∧ w = w' := by
  by_cases h1 : 65 ≤ n
  · by_cases h2 : n ≤ 90
    · have N := Lib.hid (capB_yes h1 h2)
      go_enter Try.func136, Try.ntmps136
      go_wp2
      go_ret
      exact ⟨by rw [N.out]; simp; omega, rfl⟩
    · have N := Lib.hid (capB_no (n := n) (by omega))
      go_enter Try.func136, Try.ntmps136
      go_wp2
      go_ret
      exact ⟨by rw [N.out]; simp; omega, rfl⟩
  · have N := Lib.hid (capB_no (n := n) (by omega))
    go_enter Try.func136, Try.ntmps136
    go_wp2
    go_ret
    exact ⟨by rw [N.out]; rfl, rfl⟩

theorem wLet_cap {n : Nat} (h : n ≠ 43 ∧ n ≠ 45 ∧ n ≠ 91 ∧ n ≠ 93) : wLet n = capB n := by
  unfold wLet capB
  rw [decide_eq_false h.1, decide_eq_false h.2.1, decide_eq_false h.2.2.1, decide_eq_false h.2.2.2]
  simp

theorem isWordLetter_is (n : Nat) (w : World) (hn : n ≤ 2147483647) :
    Calls Try.prog 174 #[.int .i32 n] w fun e w' => e = .returned (.bool (wLet n)) ∧ w = w' := by
  by_cases h0 : n = 43 ∨ n = 45 ∨ n = 91 ∨ n = 93
  · rcases h0 with rfl | rfl | rfl | rfl
    all_goals
      go_enter Try.func174, Try.ntmps174
      go_wp2
      go_ret
      exact ⟨rfl, rfl⟩
  · have g1 : n ≠ 43 := by omega
    have g2 : n ≠ 45 := by omega
    have g3 : n ≠ 91 := by omega
    have g4 : n ≠ 93 := by omega
    have N := Lib.hid (wLet_cap ⟨g1, g2, g3, g4⟩)
    clear h0
    go_enter Try.func174, Try.ntmps174
    go_wp2_with (go_at_call 136; refine (isCapital_is n _ hn).mono ?_; rintro e w' ⟨rfl, rfl⟩)
    go_ret
    exact ⟨by rw [N.out]; rfl, rfl⟩

theorem wLet_high {n : Nat} (h : 128 ≤ n) : wLet n = false := by simp [wLet]; omega

theorem implWord (s : ByteArray) (n : Nat) (w : World) :
    Calls Try.prog 135 #[.string s, .int .i64 n] w fun e w' => e = .returned (.bool (wordB s n)) ∧ Below w.heap.size w w' := by
  by_cases hb : n < s.size
  · have N := Lib.hid (wordB_long hb)
    go_enter Try.func135, Try.ntmps135
    go_wp2
    go_ret
    exact ⟨by rw [N.out]; rfl, Below.refl _ _⟩
  · have hb' : s.size ≤ n := by omega
    go_enter Try.func135, Try.ntmps135
    go_wp2
    go_loopw [] (fun w' => ∃ pos : Nat, pos ≤ s.size ∧ w' = w.iter s pos ∧ wTo s pos) (fun w' => s.size - w'.iterPos w.heap.size)
    case atStart => exact ⟨0, Nat.zero_le _, rfl, fun i _ h => absurd h (Nat.not_lt_zero _)⟩
    case round =>
      obtain ⟨pos, hpos, rfl, hl⟩ := hrel
      have L := Lib.hid hl
      clear hl
      by_cases hlt : pos < s.size
      · by_cases ha : (s[pos]'hlt).toNat < 128
        · have hnx : ∀ ty, (Instr.next (.pointer (some ⟨w.heap.size, 0, none⟩)) true ty).run Try.prog (w.iter s pos) = _ := fun ty => run_next_ascii w s pos ty hlt ha
          have HC := fun W => isWordLetter_is (s[pos]'hlt).toNat W (by omega)
          cases hw : wLet (s[pos]'hlt).toNat
          · have N := Lib.hid (wordB_not (n := n) hlt hw)
            rw [hw] at HC
            have H := Lib.hid HC
            clear HC hw
            go_wp2_with (go_at_call 174; refine (H.out _).mono ?_; rintro e w' ⟨rfl, rfl⟩)
            go_ret
            exact ⟨by rw [N.out]; rfl, (Below.refl _ _).alloc (Nat.le_refl _) _⟩
          · have N := Lib.hid (wTo_succ L.out hlt hw)
            rw [hw] at HC
            have H := Lib.hid HC
            clear HC hw
            go_wp2_with (go_at_call 174; refine (H.out _).mono ?_; rintro e w' ⟨rfl, rfl⟩)
            go_roundw
            case rel => exact ⟨pos + 1, by omega, rfl, N.out⟩
            case measure => simp; omega
        · have hnx : ∀ ty, (Instr.next (.pointer (some ⟨w.heap.size, 0, none⟩)) true ty).run Try.prog (w.iter s pos) = _ := fun ty => run_next_any w s pos ty hlt
          obtain ⟨d1, d2⟩ := decode_hi s pos hlt ha
          have HC := fun W => isWordLetter_is (Utf8.decode s pos).1 W (by omega)
          rw [wLet_high (by omega)] at HC
          have H := Lib.hid HC
          have N := Lib.hid (wordB_not (n := n) hlt (wLet_high (by omega)))
          clear HC
          go_wp2_with (go_at_call 174; refine (H.out _).mono ?_; rintro e w' ⟨rfl, rfl⟩)
          go_ret
          exact ⟨by rw [N.out]; rfl, (Below.refl _ _).alloc (Nat.le_refl _) _⟩
      · have hnx : ∀ ty, (Instr.next (.pointer (some ⟨w.heap.size, 0, none⟩)) true ty).run Try.prog (w.iter s pos) = _ := fun ty => run_next_end w s pos ty hlt
        have N := Lib.hid (wordB_of (n := n) hb' (show wTo s s.size from (show pos = s.size by omega) ▸ L.out))
        go_wp2
        go_ret
        exact ⟨by rw [N.out]; rfl, (Below.refl _ _).alloc (Nat.le_refl _) _⟩

theorem specIsWord (s : ByteArray) (hs : s.size ≤ 9223372036854775807) (w : World) :
    Calls Try.prog 78 #[.string s] w fun e w' => e = .returned (.bool (wordB s 4000)) ∧ w = w' := by
  go_enter Try.func78, Try.ntmps78
  go_wp2_with (go_at_call 124; refine (specWord s 4000 hs (Nat.le_refl _) _).mono ?_; rintro e w' ⟨rfl, rfl⟩)
  go_ret
  exact ⟨rfl, rfl⟩
theorem implIsWord (s : ByteArray) (w : World) :
    Calls Try.prog 128 #[.string s] w fun e w' => e = .returned (.bool (wordB s 4000)) ∧ Below w.heap.size w w' := by
  go_enter Try.func128, Try.ntmps128
  go_wp2_with (go_at_call 135; refine (implWord s 4000 _).mono ?_; rintro e w' ⟨rfl, hb⟩)
  go_ret
  exact ⟨rfl, hb⟩


end Go.Proofs.Ythhimielelpcoaa
