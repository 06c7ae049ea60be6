/-
  What is proved here: what letters become, and words that are rewritten by the model, as walks. Conditions: texts of at most 1048576 letters.
-/
import Derived.Test.YtckhdbnoihieeaaVli
import Derived.Laws.Concat
namespace Go.Proofs.Ytckhdbnoihieeaa
open Go.RowKit

/-- a word of one letter -/
def key1 (c : UInt8) : ByteArray := ⟨#[c]⟩
/-- what a letter becomes by the rules from a place on -/
def txF (ss : List ByteArray) (c : UInt8) : Nat → Nat → ByteArray
  | 0, _ => key1 c
  | f + 1, k => if ltr ss k = key1 c then txt ss k else txF ss c f (k + 1)
def tx (ss : List ByteArray) (n : Nat) (c : UInt8) : ByteArray := txF ss c n 0

theorem txF_hit {ss : List ByteArray} {c : UInt8} {n k : Nat} (h : k < n) (e : ltr ss k = key1 c) : txF ss c (n - k) k = txt ss k := by
  obtain ⟨f, hf⟩ : ∃ f, n - k = f + 1 := ⟨n - k - 1, by omega⟩
  rw [hf, txF, if_pos e]
theorem txF_miss {ss : List ByteArray} {c : UInt8} {n k : Nat} (h : k < n) (e : ltr ss k ≠ key1 c) : txF ss c (n - k) k = txF ss c (n - (k + 1)) (k + 1) := by
  obtain ⟨f, hf⟩ : ∃ f, n - k = f + 1 := ⟨n - k - 1, by omega⟩
  rw [hf, txF, if_neg e, show n - (k + 1) = f by omega]
theorem txF_end {ss : List ByteArray} {c : UInt8} {n k : Nat} (h : ¬ k < n) : txF ss c (n - k) k = key1 c := by
  rw [show n - k = 0 by omega, txF]
theorem txF_size {ss : List ByteArray} {c : UInt8} {b : Nat} (hb : 1 ≤ b) (h : ∀ k, (txt ss k).size ≤ b) : ∀ f k, (txF ss c f k).size ≤ b
  | 0, k => by rw [txF]; exact hb
  | f + 1, k => by
    rw [txF]
    split
    · exact h k
    · exact txF_size hb h f (k + 1)

theorem specText (x n cc : Nat) (A : Option Addr) (st : ByteArray) (ss : List ByteArray) (c : UInt8) (w : World) (V : VarG w x st A n cc) (hr : RowU w w.heap.size A ss) (hn : ss.length = 2 * n) (hN : n ≤ 1048576) :
    Calls Try.prog 98 #[.pointer (some ⟨x, 0, none⟩), .string (key1 c)] w fun e w' => e = .returned (.string (tx ss n c)) ∧ w = w' := by
  obtain ⟨_, c0, c1⟩ := V
  have HR := Lib.hid hr
  have HN := Lib.hid hn
  clear hr hn
  go_enter Try.func98, Try.ntmps98
  go_wp2_with fail
  go_loop [5] (fun i => ∃ k : Nat, k ≤ n ∧ i = .int .i64 k ∧ Hid (txF ss c (n - k) k = tx ss n c)) (fun i => n - (intOf i).toNat)
  case atStart => exact ⟨0, Nat.zero_le _, rfl, rfl⟩
  case round =>
    obtain ⟨k, hk, rfl, hT⟩ := hrel
    by_cases hlt : k < n
    · obtain ⟨b, off, rfl, hb, hc, hd⟩ := HR.out.pair HN.out hlt
      have hc2 : w.cell? ⟨b, off + k * 2, none⟩ = some (.string (ltr ss k)) := hc
      have hd2 : w.cell? ⟨b, off + k * 2 + 1, none⟩ = some (.string (txt ss k)) := hd
      clear hc hd
      by_cases e : ltr ss k = key1 c
      · have N : Hid (tx ss n c = txt ss k) := hT.out.symm.trans (txF_hit hlt e)
        rw [e] at hc2
        clear e hT
        go_wp2_with fail
        go_ret
        exact ⟨by rw [N.out]; rfl, rfl⟩
      · have N : Hid (txF ss c (n - (k + 1)) (k + 1) = tx ss n c) := (txF_miss hlt e).symm.trans hT.out
        have b1 := text_ne e
        clear e hT
        go_wp2_with fail
        go_round
        case rel => exact ⟨k + 1, by omega, by go_num, N⟩
        case measure => simp [intOf]; omega
    · have N : Hid (tx ss n c = key1 c) := hT.out.symm.trans (txF_end hlt)
      go_wp2_with fail
      go_ret
      exact ⟨by rw [N.out]; rfl, rfl⟩

/-- the first letters of a word, rewritten -/
def rwTo (ss : List ByteArray) (n : Nat) (t : ByteArray) (k : Nat) : List UInt8 := (t.data.toList.take k).flatMap fun c => (tx ss n c).data.toList
theorem rwTo_succ (ss : List ByteArray) (n : Nat) (t : ByteArray) (k : Nat) (h : k < t.size) : rwTo ss n t (k + 1) = rwTo ss n t k ++ (tx ss n (t[k]'h)).data.toList := by
  have h' : k < t.data.toList.length := by simpa using h
  unfold rwTo
  rw [List.take_succ_eq_append_getElem h', List.flatMap_append]
  simp
  rfl
theorem rwTo_mono (ss : List ByteArray) (n : Nat) (t : ByteArray) (k m : Nat) (h : k ≤ m) : (rwTo ss n t k).length ≤ (rwTo ss n t m).length := by
  unfold rwTo
  obtain ⟨d, rfl⟩ : ∃ d, m = k + d := ⟨m - k, by omega⟩
  rw [List.take_add, List.flatMap_append, List.length_append]
  omega

/-- a word that is rewritten: whether there is one, and which -/
def onceB (ss : List ByteArray) (n : Nat) (t : ByteArray) : Bool := decide ((rwTo ss n t t.size).length ≤ 4000)
def onceT (ss : List ByteArray) (n : Nat) (t : ByteArray) : ByteArray := if (rwTo ss n t t.size).length ≤ 4000 then ⟨(rwTo ss n t t.size).toArray⟩ else ⟨#[]⟩
theorem once_no {ss : List ByteArray} {n : Nat} {t : ByteArray} {k : Nat} (hk : k ≤ t.size) (h : 4000 < (rwTo ss n t k).length) : onceB ss n t = false ∧ onceT ss n t = ⟨#[]⟩ := by
  have := rwTo_mono ss n t k t.size hk
  exact ⟨decide_eq_false (by omega), if_neg (by omega)⟩
theorem once_yes {ss : List ByteArray} {n : Nat} {t : ByteArray} (h : (rwTo ss n t t.size).length ≤ 4000) : onceB ss n t = true ∧ onceT ss n t = ⟨(rwTo ss n t t.size).toArray⟩ := ⟨decide_eq_true h, if_pos h⟩

theorem extract_one (t : ByteArray) (k : Nat) (h : k < t.size) : t.extract k (k + 1) = key1 (t[k]'h) := by
  apply ByteArray.ext
  rw [ByteArray.data_extract]
  have h' : k < t.data.size := h
  apply Array.ext
  · simp [key1]; omega
  · intro i h1 h2
    have : i = 0 := by simp [key1] at h2; omega
    subst this
    simp [key1]
    rfl


end Go.Proofs.Ytckhdbnoihieeaa
