/-
  What is proved here: Rewrite of both packages, as walks. Conditions: texts of at most 1048576 letters.
-/
import Derived.Test.YtckhdbnoihieeaaRoi
import Derived.Deep.RegionHeld3
namespace Go.Proofs.Ytckhdbnoihieeaa
open Go.RowKit

/-- within bounds -/
def winB (n lo hi : Int) : Bool := decide (lo ≤ n ∧ n ≤ hi)
theorem winB_yes {n lo hi : Int} (h : winB n lo hi = true) : lo ≤ n ∧ n ≤ hi := by simpa [winB] using h

theorem win_i (n lo hi : Int) (w : World) :
    Calls Try.prog 61 #[.int .i64 n, .int .i64 lo, .int .i64 hi] w fun e w' => e = .returned (.bool (winB n lo hi)) ∧ w = w' := by
  by_cases h1 : lo ≤ n
  · by_cases h2 : n ≤ hi
    · have N : Hid (winB n lo hi = true) := decide_eq_true ⟨h1, h2⟩
      go_enter Try.func61, Try.ntmps61
      go_wp2
      go_ret
      exact ⟨by rw [N.out]; rfl, rfl⟩
    · have N : Hid (winB n lo hi = false) := decide_eq_false fun h => h2 h.2
      go_enter Try.func61, Try.ntmps61
      go_wp2
      go_ret
      exact ⟨by rw [N.out]; rfl, rfl⟩
  · have N : Hid (winB n lo hi = false) := decide_eq_false fun h => h1 h.1
    go_enter Try.func61, Try.ntmps61
    go_wp2
    go_ret
    exact ⟨by rw [N.out]; rfl, rfl⟩

theorem win_s (n lo hi : Int) (w : World) :
    Calls Try.prog 58 #[.int .i64 n, .int .i64 lo, .int .i64 hi] w fun e w' => e = .returned (.bool (winB n lo hi)) ∧ w = w' := by
  by_cases h1 : lo ≤ n
  · by_cases h2 : n ≤ hi
    · have N : Hid (winB n lo hi = true) := decide_eq_true ⟨h1, h2⟩
      go_enter Try.func58, Try.ntmps58
      go_wp2
      go_ret
      exact ⟨by rw [N.out]; rfl, rfl⟩
    · have N : Hid (winB n lo hi = false) := decide_eq_false fun h => h2 h.2
      go_enter Try.func58, Try.ntmps58
      go_wp2
      go_ret
      exact ⟨by rw [N.out]; rfl, rfl⟩
  · have N : Hid (winB n lo hi = false) := decide_eq_false fun h => h1 h.1
    go_enter Try.func58, Try.ntmps58
    go_wp2
    go_ret
    exact ⟨by rw [N.out]; rfl, rfl⟩

/-- what the start becomes -/
def rwN (ss : List ByteArray) (n : Nat) (st : ByteArray) : Nat → Option ByteArray
  | 0 => some st
  | k + 1 => (rwN ss n st k).bind fun t => if onceB ss n t = true then some (onceT ss n t) else none
theorem rwN_none {ss : List ByteArray} {n : Nat} {st : ByteArray} {k : Nat} (h : rwN ss n st k = none) : ∀ m, k ≤ m → rwN ss n st m = none := by
  intro m hm
  obtain ⟨d, rfl⟩ : ∃ d, m = k + d := ⟨m - k, by omega⟩
  clear hm
  induction d with
  | zero => exact h
  | succ d ih =>
    show rwN ss n st (k + d + 1) = none
    unfold rwN
    rw [ih]; rfl
theorem rwN_yes {ss : List ByteArray} {n : Nat} {st t : ByteArray} {k : Nat} (h : rwN ss n st k = some t) (ho : onceB ss n t = true) : rwN ss n st (k + 1) = some (onceT ss n t) := by
  unfold rwN; rw [h]; show (if onceB ss n t = true then _ else _) = _; rw [if_pos ho]
theorem rwN_no {ss : List ByteArray} {n : Nat} {st t : ByteArray} {k : Nat} (h : rwN ss n st k = some t) (ho : onceB ss n t = false) : rwN ss n st (k + 1) = none := by
  unfold rwN; rw [h]; show (if onceB ss n t = true then _ else _) = _; rw [if_neg (by rw [ho]; exact Bool.false_ne_true)]

/-- Rewrite: whether, and what -/
def reB (st : ByteArray) (n : Nat) (ss : List ByteArray) (q : Int) : Bool := (validB st n ss && winB q 0 16) && (rwN ss n st q.toNat).isSome
def reT (st : ByteArray) (n : Nat) (ss : List ByteArray) (q : Int) : ByteArray := if (validB st n ss && winB q 0 16) = true then (rwN ss n st q.toNat).getD ⟨#[]⟩ else ⟨#[]⟩
theorem re_no {st : ByteArray} {n : Nat} {ss : List ByteArray} {q : Int} (h : (validB st n ss && winB q 0 16) = false) : reB st n ss q = false ∧ reT st n ss q = ⟨#[]⟩ := by
  unfold reB reT; rw [h]; exact ⟨rfl, rfl⟩
theorem re_none {st : ByteArray} {n : Nat} {ss : List ByteArray} {q : Int} (h : rwN ss n st q.toNat = none) : reB st n ss q = false ∧ reT st n ss q = ⟨#[]⟩ := by
  unfold reB reT; rw [h]
  exact ⟨Bool.and_false _, by split <;> rfl⟩
theorem re_some {st t : ByteArray} {n : Nat} {ss : List ByteArray} {q : Int} (h1 : validB st n ss = true) (h2 : winB q 0 16 = true) (h : rwN ss n st q.toNat = some t) : reB st n ss q = true ∧ reT st n ss q = t := by
  unfold reB reT; rw [h1, h2, h]; exact ⟨rfl, rfl⟩

/-- words stay words -/
theorem wordB_mem {t : ByteArray} {n : Nat} (h : wordB t n = true) : ∀ b ∈ t.data.toList, wLet b.toNat = true := by
  unfold wordB at h
  simp only [Bool.and_eq_true, decide_eq_true_eq] at h
  intro b hb
  obtain ⟨i, hi, rfl⟩ := List.getElem_of_mem hb
  exact h.2 ⟨i, by simpa using hi⟩
theorem wordB_mk {t : ByteArray} {n : Nat} (h1 : t.size ≤ n) (h2 : ∀ b ∈ t.data.toList, wLet b.toNat = true) : wordB t n = true := by
  unfold wordB
  rw [decide_eq_true h1, decide_eq_true (p := ∀ i : Fin t.size, wLet (t[i.val]'i.isLt).toNat = true) (fun i => h2 _ (by
    have hi : i.val < t.data.toList.length := by simp
    have : t[i.val]'i.isLt = t.data.toList[i.val]'hi := rfl
    rw [this]
    exact List.getElem_mem hi))]
  rfl
theorem okAt_text {ss : List ByteArray} {k : Nat} (h : okAt ss k = true) : wordB (txt ss k) 32 = true := by
  unfold okAt at h
  rw [Bool.and_eq_true] at h
  have h1 := h.1
  have hs := ruleB_one h1
  unfold ruleB at h1
  rw [dif_pos hs, Bool.and_eq_true] at h1
  exact h1.2
theorem txF_word {ss : List ByteArray} {n : Nat} {c : UInt8} (h : ∀ k, k < n → okAt ss k = true) (hc : wLet c.toNat = true) : ∀ f k, f + k ≤ n → ∀ b ∈ (txF ss c f k).data.toList, wLet b.toNat = true
  | 0, k, _ => by
    rw [txF]
    intro b hb
    simp [key1] at hb
    rw [hb]; exact hc
  | f + 1, k, hk => by
    rw [txF]
    split
    · exact wordB_mem (okAt_text (h k (by omega)))
    · exact txF_word h hc f (k + 1) (by omega)
theorem once_word {ss : List ByteArray} {n : Nat} {t : ByteArray} (h : ∀ k, k < n → okAt ss k = true) (ht : wordB t 4000 = true) (ho : onceB ss n t = true) : wordB (onceT ss n t) 4000 = true := by
  have hl : (rwTo ss n t t.size).length ≤ 4000 := by simpa [onceB] using ho
  rw [(once_yes hl).2]
  refine wordB_mk (by show (rwTo ss n t t.size).toArray.size ≤ 4000; simpa using hl) ?_
  intro b hb
  have hb' : b ∈ rwTo ss n t t.size := by simpa using hb
  unfold rwTo at hb'
  rw [List.mem_flatMap] at hb'
  obtain ⟨c, hc, hbc⟩ := hb'
  exact txF_word h (wordB_mem ht c (List.mem_of_mem_take hc)) n 0 (by omega) b hbc
theorem wordB_more {t : ByteArray} {n m : Nat} (h : wordB t n = true) (hm : n ≤ m) : wordB t m = true := wordB_mk (Nat.le_trans (wordB_size h) hm) (wordB_mem h)
theorem validB_word {st : ByteArray} {n : Nat} {ss : List ByteArray} (h : validB st n ss = true) : wordB st 32 = true := by
  unfold validB at h
  rw [Bool.and_eq_true] at h
  exact h.1


theorem keepW {W wa wb : World} {x : Nat} {st : ByteArray} {A : Option Addr} {n c : Nat} (hb : Below wa.heap.size wa wb) (h0 : wa.cell? ⟨x, 0, none⟩ = some (.string st)) (h1 : wa.cell? ⟨x, 1, none⟩ = some (.slice A n c)) (hB : Hid (Below W.heap.size W wa)) (hx : x < W.heap.size) :
    wb.cell? ⟨x, 0, none⟩ = some (.string st) ∧ wb.cell? ⟨x, 1, none⟩ = some (.slice A n c) := by
  have := Nat.lt_of_lt_of_le hx hB.out.size
  exact ⟨by rw [hb.cell (p := ⟨x, 0, none⟩) this]; exact h0, by rw [hb.cell (p := ⟨x, 1, none⟩) this]; exact h1⟩


end Go.Proofs.Ytckhdbnoihieeaa
