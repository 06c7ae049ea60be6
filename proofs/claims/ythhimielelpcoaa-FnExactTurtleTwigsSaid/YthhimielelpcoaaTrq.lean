/-
  What is proved here: a turtle's line as functions of its word; whether points are finite (the model's), as a walk. Conditions: at most 256 points.
-/
import Derived.Test.YthhimielelpcoaaTrp
import Derived.Test.YthhimielelpcoaaRci
import Derived.Test.YthhimielelpcoaaMas
import Derived.Test.YthhimielelpcoaaWrd
namespace Go.Proofs.Ythhimielelpcoaa
open Flt Go.RowKit
set_option linter.unusedVariables false
set_option linter.unusedSimpArgs false

def canT (q : Nat × Nat) : Option Nat × Option Nat := (can .f32 q.1, can .f32 q.2)
/-- a letter of a text -/
def ltr (s : ByteArray) (j : Nat) : Nat := if h : j < s.size then (s[j]'h).toNat else 0
theorem ltr_at {s : ByteArray} {j : Nat} (h : j < s.size) : (s[j]'h).toNat = ltr s j := by unfold ltr; rw [dif_pos h]
theorem ltr_lt (s : ByteArray) (j : Nat) : ltr s j < 256 := by
  unfold ltr
  split
  · exact UInt8.toNat_lt _
  · omega
abbrev OC := Option Nat × Option Nat
/-- the turn, the place, the line behind so many letters -/
def tuA (PF : Option Nat → OC) (s : ByteArray) (T S : Option Nat) : Nat → Option Nat × OC × List OC
  | 0 => (some 0, (some 0, some 0), [(some 0, some 0)])
  | j + 1 => (trnO (ltr s j) (tuA PF s T S j).1 T, (if movB (ltr s j) = true then ((fwd (PF (trnO (ltr s j) (tuA PF s T S j).1 T)).1 (tuA PF s T S j).2.1.1 S, fwd (PF (trnO (ltr s j) (tuA PF s T S j).1 T)).2 (tuA PF s T S j).2.1.2 S), (tuA PF s T S j).2.2 ++ [(fwd (PF (trnO (ltr s j) (tuA PF s T S j).1 T)).1 (tuA PF s T S j).2.1.1 S, fwd (PF (trnO (ltr s j) (tuA PF s T S j).1 T)).2 (tuA PF s T S j).2.1.2 S)]) else ((tuA PF s T S j).2.1, (tuA PF s T S j).2.2)))
/-- no brackets before a place -/
def nobB (s : ByteArray) (k : Nat) : Bool := (List.range k).all fun i => !brkB (ltr s i)
theorem nobB_at {s : ByteArray} {k j : Nat} (h : nobB s k = true) (hj : j < k) : brkB (ltr s j) = false := by
  have := List.all_eq_true.1 h j (List.mem_range.2 hj)
  simpa using this
theorem nobB_succ {s : ByteArray} {k : Nat} (h : nobB s k = true) (hb : brkB (ltr s k) = false) : nobB s (k + 1) = true := by
  unfold nobB at *
  rw [List.range_succ, List.all_append, h]
  simp [hb]
theorem nobB_no {s : ByteArray} {k j : Nat} (hj : j < k) (hb : brkB (ltr s j) = true) : nobB s k = false := by
  cases h : nobB s k with
  | false => rfl
  | true => rw [nobB_at h hj] at hb; cases hb
theorem tuA_len {PF : Option Nat → OC} {s : ByteArray} {T S : Option Nat} {j : Nat} : ∀ d, (tuA PF s T S j).2.2.length ≤ (tuA PF s T S (j + d)).2.2.length
  | 0 => Nat.le_refl _
  | d + 1 => by
    refine Nat.le_trans (tuA_len d) ?_
    show _ ≤ (tuA PF s T S ((j + d) + 1)).2.2.length
    conv => rhs; unfold tuA
    split
    · show _ ≤ (_ ++ [_]).length
      rw [List.length_append]; omega
    · exact Nat.le_refl _
/-- the line is one -/
def tlOk (PF : Option Nat → OC) (s : ByteArray) (T S : Option Nat) : Bool :=
  wordB s 4000 && finO T && finO S && nobB s s.size && decide ((tuA PF s T S s.size).2.2.length ≤ 256) && (tuA PF s T S s.size).2.2.all fun p => finO p.1 && finO p.2
/-- its points -/
def tlW (PF : Option Nat → OC) (s : ByteArray) (T S : Option Nat) : List (Nat × Nat) := if tlOk PF s T S = true then (tuA PF s T S s.size).2.2.map fun p => (p.1.getD 0, p.2.getD 0) else []
theorem told_fin : ∀ {L : List (Nat × Nat)} {M : List OC}, L.map canT = M → (L.all cfT = M.all fun p => finO p.1 && finO p.2)
  | [], _, h => by rw [← h]; rfl
  | q :: L, _, h => by
    rw [← h, List.map_cons, List.all_cons, List.all_cons, told_fin (L := L) rfl]
    show (_ && _) = ((finO (can .f32 q.1) && finO (can .f32 q.2)) && _)
    rw [finO_can, finO_can]; rfl
theorem told_word : ∀ {L : List (Nat × Nat)} {M : List OC}, L.map canT = M → L.all cfT = true → L = M.map fun p => (p.1.getD 0, p.2.getD 0)
  | [], _, h, _ => by rw [← h]; rfl
  | q :: L, _, h, hf => by
    rw [List.all_cons, Bool.and_eq_true] at hf
    rw [← h, List.map_cons, List.map_cons, ← told_word (L := L) rfl hf.2]
    congr 1
    have h1 := hf.1
    unfold cfT at h1
    rw [Bool.and_eq_true] at h1
    have e1 : can .f32 q.1 = some q.1 := can_num (nanW_of_le (Nat.le_of_lt (of_decide_eq_true h1.1)))
    have e2 : can .f32 q.2 = some q.2 := can_num (nanW_of_le (Nat.le_of_lt (of_decide_eq_true h1.2)))
    show q = ((canT q).1.getD 0, (canT q).2.getD 0)
    unfold canT
    rw [e1, e2]; rfl

theorem specPts (A : Option Addr) (c Z : Nat) (L : List (Nat × Nat)) (w : World) (hr : RowC w Z A L) (hn : L.length ≤ 256) :
    Calls Try.prog 83 #[.slice A L.length c] w fun e w' => e = .returned (.bool (L.all cfT)) ∧ ∃ n, w' = w.drewN n := by
  have HR := Lib.hid hr
  clear hr
  go_enter Try.func83, Try.ntmps83
  go_wp2
  go_loopw [3] (fun i wr => ∃ k : Nat, k ≤ L.length ∧ i = .int .i64 k ∧ Hid (∀ j, j < k → cfT (atC L j) = true) ∧ ∃ n, wr = w.drewN n) (fun i _ => L.length - (intOf i).toNat)
  case atStart => exact ⟨0, Nat.zero_le _, rfl, fun j h => absurd h (Nat.not_lt_zero _), 0, rfl⟩
  case round =>
    obtain ⟨k, hk, rfl, hJ, n, rfl⟩ := hrel
    have hn2 : (L.length : Int) ≤ 256 := by omega
    by_cases hlt : k < L.length
    · obtain ⟨b, off, rfl, hb, hcell⟩ := HR.out (by omega)
      have hc := hcell k hlt
      unfold cV at hc
      have HX := Lib.hid (fun W => specFinT (atC L k) W)
      clear hcell
      cases hf : cfT (atC L k)
      · have N : Hid (L.all cfT = false) := by
          show _ = _
          rw [Bool.eq_false_iff]
          intro g
          have := List.all_eq_true.1 g _ (List.getElem_mem hlt)
          rw [← atC_is hlt, hf] at this; cases this
        rw [hf] at HX
        clear hf hJ
        go_wp2_with (go_at_call 127; refine (HX.out _).mono ?_; rintro e w' ⟨rfl, n2, rfl⟩)
        go_ret
        exact ⟨by rw [N.out]; rfl, _, rfl⟩
      · have HJ : Hid (∀ j, j < k + 1 → cfT (atC L j) = true) := fun j hj => by
          by_cases e : j = k
          · rw [e]; exact hf
          · exact hJ.out j (by omega)
        rw [hf] at HX
        clear hf hJ
        go_wp2_with (go_at_call 127; refine (HX.out _).mono ?_; rintro e w' ⟨rfl, n2, rfl⟩)
        go_roundw
        case rel => exact ⟨k + 1, by omega, by go_num, HJ, _, by first | rfl | rw [World.drewN_drewN]⟩
        case measure => simp [intOf]; omega
    · have N : Hid (L.all cfT = true) := List.all_eq_true.2 fun q hq => by
        obtain ⟨j, hj, rfl⟩ := List.getElem_of_mem hq
        rw [← atC_is hj]
        exact hJ.out j (by omega)
      go_wp2
      go_ret
      exact ⟨by rw [N.out]; rfl, _, rfl⟩
end Go.Proofs.Ythhimielelpcoaa
