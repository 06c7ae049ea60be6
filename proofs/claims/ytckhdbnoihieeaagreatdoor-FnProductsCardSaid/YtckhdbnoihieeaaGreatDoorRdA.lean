/-
  What is proved here: what the decimal texts of integers are read as: a text is that of at most one integer, and the library's reading finds it. Conditions: as each theorem names. Own text; no dump.
-/
import Derived.Test.YtckhdbnoihieeaaGreatDoorDec
import Derived.Lib.ParseIntB
namespace Go.Proofs.YtckhdbnoihieeaaGreatDoor

/-- the number that digits spell -/
def valD (acc : Nat) (l : List UInt8) : Nat := l.foldl (fun a c => a * 10 + (c.toNat - 48)) acc
def isD (c : UInt8) : Bool := decide (48 ≤ c.toNat ∧ c.toNat ≤ 57)

theorem digB_nat (m : Nat) : (digB m).toNat = 48 + m % 10 := by
  have := digB_val m
  omega
theorem isD_digB (m : Nat) : isD (digB m) = true := by
  unfold isD; rw [digB_nat]; exact decide_eq_true (by omega)

theorem valD_snoc (acc : Nat) (l : List UInt8) (c : UInt8) : valD acc (l ++ [c]) = valD acc l * 10 + (c.toNat - 48) := by unfold valD; rw [List.foldl_append, List.foldl_cons, List.foldl_nil]
theorem valD_cons (acc : Nat) (l : List UInt8) (c : UInt8) : valD acc (c :: l) = valD (acc * 10 + (c.toNat - 48)) l := by unfold valD; rw [List.foldl_cons]
theorem valD_ge (acc : Nat) (l : List UInt8) : acc ≤ valD acc l := by
  induction l generalizing acc with
  | nil => exact Nat.le_refl _
  | cons c l ih => rw [valD_cons]; exact Nat.le_trans (by omega) (ih _)

theorem dd_all (u : Nat) : (Lib.decDigits u).all isD = true := by
  induction u using Nat.strongRecOn with
  | _ u ih =>
    by_cases h : u < 10
    · rw [dd_small h]; simp [isD_digB]
    · rw [dd_big h, List.all_append, ih (u / 10) (by omega)]; simp [isD_digB]
theorem dd_val (u : Nat) : valD 0 (Lib.decDigits u) = u := by
  induction u using Nat.strongRecOn with
  | _ u ih =>
    by_cases h : u < 10
    · rw [dd_small h]
      show 0 * 10 + ((digB u).toNat - 48) = u
      rw [digB_nat]; omega
    · rw [dd_big h, valD_snoc, ih (u / 10) (by omega), digB_nat]; omega

theorem parse_digits (M acc : Nat) (l : List UInt8) (hl : l.all isD = true) (hv : valD acc l ≤ 1844674407370955161) (hM : 1844674407370955161 ≤ M) : Lib.parseUintM M acc l = .ok (valD acc l) := by
  induction l generalizing acc with
  | nil => rfl
  | cons c l ih =>
    rw [List.all_cons, Bool.and_eq_true] at hl
    have hc := of_decide_eq_true hl.1
    rw [valD_cons] at hv ⊢
    have hg := valD_ge (acc * 10 + (c.toNat - 48)) l
    unfold Lib.parseUintM
    rw [if_pos hc, if_neg (by omega), if_neg (by omega)]
    exact ih _ hl.2 hv

/-- the greatest value -/
def okV (n : Int) : Prop := -1000000000000000 ≤ n ∧ n ≤ 1000000000000000
instance (n : Int) : Decidable (okV n) := by unfold okV; infer_instance

theorem dd_head (u : Nat) : ∃ c r, Lib.decDigits u = c :: r ∧ isD c = true := by
  have h := dd_all u
  have h0 := dd_pos u
  cases hl : Lib.decDigits u with
  | nil => rw [hl] at h0; exact absurd h0 (Nat.lt_irrefl 0)
  | cons c r => rw [hl, List.all_cons, Bool.and_eq_true] at h; exact ⟨c, r, rfl, h.1⟩

theorem parse_itoa {n : Int} (h : okV n) : Lib.parseIntB 64 (Lib.itoa n) = .ok n := by
  obtain ⟨h0, h1⟩ := h
  by_cases hn : n < 0
  · obtain ⟨u, rfl⟩ : ∃ u : Nat, n = -(u : Int) := ⟨n.natAbs, by omega⟩
    rw [Lib.itoa_neg u (by omega)]
    obtain ⟨c, r, hd, _⟩ := dd_head u
    have hp := parse_digits (2 ^ 64 - 1) 0 (Lib.decDigits u) (dd_all u) (by rw [dd_val]; omega) (by decide)
    rw [dd_val] at hp
    have e : Lib.parseUintB 64 (Lib.decDigits u) = .ok u := by unfold Lib.parseUintB; rw [if_neg (by rw [hd]; simp), hp]
    unfold Lib.parseIntB
    simp only [show (45 : UInt8).toNat = 45 from rfl, or_true, if_true, e]
    rw [if_neg (by simp), if_neg (by simp; omega)]
  · obtain ⟨u, rfl⟩ : ∃ u : Nat, n = u := ⟨n.toNat, by omega⟩
    rw [Lib.itoa_nonneg]
    obtain ⟨c, r, hd, hc⟩ := dd_head u
    have hc := of_decide_eq_true hc
    have hp := parse_digits (2 ^ 64 - 1) 0 (Lib.decDigits u) (dd_all u) (by rw [dd_val]; omega) (by decide)
    rw [dd_val] at hp
    have e : Lib.parseUintB 64 (c :: r) = .ok u := by unfold Lib.parseUintB; rw [if_neg (by simp), ← hd, hp]
    rw [hd]
    unfold Lib.parseIntB
    simp only [show ¬ (c.toNat = 43 ∨ c.toNat = 45) by omega, if_false, e]
    have hne : ¬ c.toNat = 45 := by omega
    rw [if_neg (by simp [hne]; omega), if_neg (by simp [hne]), if_neg hne]

/-- what the model counts together: digits alone -/
def sval (l : List UInt8) : Nat := l.foldl (fun a c => if isD c = true then 10 * a + (c.toNat - 48) else a) 0
def sgn (l : List UInt8) : Int := if l.head? = some 45 then -(sval l : Int) else sval l

theorem sval_digits (l : List UInt8) (h : l.all isD = true) (acc : Nat) : l.foldl (fun a c => if isD c = true then 10 * a + (c.toNat - 48) else a) acc = valD acc l := by
  induction l generalizing acc with
  | nil => rfl
  | cons c l ih =>
    rw [List.all_cons, Bool.and_eq_true] at h
    rw [List.foldl_cons, if_pos h.1, ih h.2, valD_cons, Nat.mul_comm]

theorem sgn_itoa (n : Int) : sgn (Lib.itoa n) = n := by
  by_cases hn : n < 0
  · obtain ⟨u, rfl⟩ : ∃ u : Nat, n = -(u : Int) := ⟨n.natAbs, by omega⟩
    rw [Lib.itoa_neg u (by omega)]
    unfold sgn
    rw [List.head?_cons, if_pos rfl]
    have : sval (45 :: Lib.decDigits u) = u := by
      unfold sval
      rw [List.foldl_cons, if_neg (by decide), sval_digits _ (dd_all u), dd_val]
    rw [this]
  · obtain ⟨u, rfl⟩ : ∃ u : Nat, n = u := ⟨n.toNat, by omega⟩
    rw [Lib.itoa_nonneg]
    obtain ⟨c, r, hd, hc⟩ := dd_head u
    have hc := of_decide_eq_true hc
    unfold sgn
    have : sval (Lib.decDigits u) = u := by unfold sval; rw [sval_digits _ (dd_all u), dd_val]
    rw [this, hd, List.head?_cons, if_neg (by intro h; injection h with h; subst h; revert hc; decide)]

/-- the integer with a text -/
def decR (l : List UInt8) : Option Int := if okV (sgn l) ∧ Lib.itoa (sgn l) = l then some (sgn l) else none

theorem decR_of {n : Int} {l : List UInt8} (h : okV n) (e : Lib.itoa n = l) : decR l = some n := by
  subst e
  unfold decR
  rw [sgn_itoa, if_pos ⟨h, rfl⟩]
theorem decR_some {n : Int} {l : List UInt8} (h : decR l = some n) : okV n ∧ Lib.itoa n = l := by
  unfold decR at h
  split at h
  · rename_i g; obtain rfl := Option.some.inj h; exact g
  · cases h
theorem decR_none {l : List UInt8} (h : ∀ n, okV n → Lib.itoa n = l → False) : decR l = none := by
  cases e : decR l with
  | none => rfl
  | some n => obtain ⟨h1, h2⟩ := decR_some e; exact (h n h1 h2).elim

/-- the library's reading tells it -/
theorem decR_parse {v : Int} {l : List UInt8} (h : Lib.parseIntB 64 l = .ok v) : decR l = if okV v ∧ Lib.itoa v = l then some v else none := by
  split
  · rename_i g; exact decR_of g.1 g.2
  · rename_i g
    refine decR_none fun n h1 h2 => g ?_
    have := parse_itoa h1
    rw [h2, h] at this
    injection this with this
    subst this
    exact ⟨h1, h2⟩
theorem decR_bad {l : List UInt8} (h : ∀ v, Lib.parseIntB 64 l ≠ .ok v) : decR l = none :=
  decR_none fun n h1 h2 => h n (by rw [← h2]; exact parse_itoa h1)

theorem nDigits_le : ∀ (k u : Nat), u < 10 ^ (k + 1) → Lib.nDigits u ≤ k + 1
  | 0, u, h => by rw [Lib.nDigits_small (by simpa using h)]; exact Nat.le_refl _
  | k + 1, u, h => by
    by_cases h10 : u < 10
    · rw [Lib.nDigits_small h10]; omega
    · rw [Nat.pow_succ] at h
      rw [Lib.nDigits_big h10]
      have := nDigits_le k (u / 10) (by omega)
      omega

/-- such texts are short -/
theorem itoa_short {n : Int} (h : okV n) : 1 ≤ (Lib.itoa n).length ∧ (Lib.itoa n).length ≤ 17 := by
  have key : ∀ u : Nat, u ≤ 1000000000000000 → (Lib.decDigits u).length ≤ 16 := fun u hu => by
    rw [Lib.decDigits_length]
    exact nDigits_le 15 u (by rw [show (10 : Nat) ^ (15 + 1) = 10000000000000000 from rfl]; omega)
  obtain ⟨h0, h1⟩ := h
  by_cases hn : n < 0
  · obtain ⟨u, rfl⟩ : ∃ u : Nat, n = -(u : Int) := ⟨n.natAbs, by omega⟩
    rw [Lib.itoa_neg u (by omega)]
    have := key u (by omega)
    simp; omega
  · obtain ⟨u, rfl⟩ : ∃ u : Nat, n = u := ⟨n.toNat, by omega⟩
    rw [Lib.itoa_nonneg]
    have := key u (by omega)
    have := dd_pos u
    omega

end Go.Proofs.YtckhdbnoihieeaaGreatDoor
