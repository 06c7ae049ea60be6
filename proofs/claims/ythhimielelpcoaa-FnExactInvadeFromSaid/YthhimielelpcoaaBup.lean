/-
  What is proved here: when the cells of a field burn, as both packages tell it: the rounds of the program, told by a function, and the list of the model, which tells the same times. Conditions: none but those that each theorem names. Own text.
-/
import Derived.Test.YthhimielelpcoaaGpn
import Derived.Test.YthhimielelpcoaaSdk
import Derived.Test.YthhimielelpcoaaFcn
namespace Go.Proofs.Ythhimielelpcoaa
open Go.RowKit
set_option linter.unusedVariables false

theorem kepL_pos (p : Nat → Bool) (L : List Int) (j : Nat) : 0 < (kepL p L j).length ↔ ∃ t, t < j ∧ fulD p L t = true := by
  induction j with
  | zero => exact ⟨fun h => absurd h (by simp [kepL]), fun ⟨t, h, _⟩ => absurd h (Nat.not_lt_zero _)⟩
  | succ j ih =>
    cases h : fulD p L j with
    | true =>
      rw [kepL_yes h, List.length_append]
      exact ⟨fun _ => ⟨j, Nat.lt_succ_self _, h⟩, fun _ => by simp⟩
    | false =>
      rw [kepL_no h, ih]
      refine ⟨fun ⟨t, h1, h2⟩ => ⟨t, by omega, h2⟩, fun ⟨t, h1, h2⟩ => ⟨t, ?_, h2⟩⟩
      by_cases e : t = j
      · subst e; rw [h] at h2; exact absurd h2 (by decide)
      · omega
theorem fulS_pos (p : Nat → Bool) (x y i : Int) : 0 < fulS p x y i ↔ ∃ s ∈ sidL x y i, p s.toNat = true := by
  unfold fulS
  rw [kepL_pos]
  constructor
  · rintro ⟨t, h1, h2⟩
    refine ⟨atI (sidL x y i) t, ?_, h2⟩
    show (sidL x y i).getD t 0 ∈ _
    rw [List.getD_eq_getElem?_getD, List.getElem?_eq_getElem h1]
    exact List.getElem_mem h1
  · rintro ⟨s, h1, h2⟩
    obtain ⟨t, ht, e⟩ := List.getElem_of_mem h1
    refine ⟨t, ht, ?_⟩
    show p (atI (sidL x y i) t).toNat = true
    rw [show atI (sidL x y i) t = s by show (sidL x y i).getD t 0 = s; rw [List.getD_eq_getElem?_getD, List.getElem?_eq_getElem ht]; exact e]
    exact h2

/-- burnt after so many rounds -/
def bT (P : Nat → Bool) (x y : Int) : Nat → Nat → Bool
  | 0 => fun _ => false
  | t + 1 => fun i => bT P x y t i || (P i && (decide ((i : Int) < x) || decide (0 < fulS (bT P x y t) x y i)))
/-- the times after so many rounds -/
def tT (P : Nat → Bool) (x y : Int) : Nat → Nat → Int
  | 0 => fun _ => -1
  | t + 1 => fun i => if bT P x y t i = true then tT P x y t i else if bT P x y (t + 1) i = true then (t : Int) else -1

section
variable {P : Nat → Bool} {x y : Int}
theorem bT_up {t i : Nat} (h : bT P x y t i = true) : bT P x y (t + 1) i = true := by
  show (bT P x y t i || _) = true
  rw [h]; rfl
theorem bT_le {t m i : Nat} (hm : t ≤ m) (h : bT P x y t i = true) : bT P x y m i = true := by
  induction m with
  | zero => rw [show t = 0 by omega] at h; exact h
  | succ m ih =>
    by_cases e : t = m + 1
    · rw [← e]; exact h
    · exact bT_up (ih (by omega))
theorem bT_P {t i : Nat} (h : bT P x y t i = true) : P i = true := by
  induction t with
  | zero => exact absurd h (by simp [bT])
  | succ t ih =>
    have h2 : (bT P x y t i || (P i && (decide ((i : Int) < x) || decide (0 < fulS (bT P x y t) x y i)))) = true := h
    rw [Bool.or_eq_true, Bool.and_eq_true] at h2
    exact h2.elim ih fun h => h.1
theorem bT_new {t i : Nat} (h : bT P x y t i = false) (h2 : bT P x y (t + 1) i = true) : P i = true ∧ ((i : Int) < x ∨ ∃ s ∈ sidL x y i, bT P x y t s.toNat = true) := by
  have h3 : (bT P x y t i || (P i && (decide ((i : Int) < x) || decide (0 < fulS (bT P x y t) x y i)))) = true := h2
  rw [h, Bool.false_or, Bool.and_eq_true, Bool.or_eq_true, decide_eq_true_eq, decide_eq_true_eq, fulS_pos] at h3
  exact h3
theorem bT_mk {t i : Nat} (hP : P i = true) (h : (i : Int) < x ∨ ∃ s ∈ sidL x y i, bT P x y t s.toNat = true) : bT P x y (t + 1) i = true := by
  show (bT P x y t i || (P i && (decide ((i : Int) < x) || decide (0 < fulS (bT P x y t) x y i)))) = true
  rw [Bool.or_eq_true, Bool.and_eq_true, Bool.or_eq_true, decide_eq_true_eq, decide_eq_true_eq, fulS_pos]
  exact .inr ⟨hP, h⟩
theorem tT_none {t i : Nat} (h : bT P x y t i = false) : tT P x y t i = -1 := by
  cases t with
  | zero => rfl
  | succ t =>
    show (if _ then _ else if _ then _ else _) = _
    have h0 : bT P x y t i = false := by
      cases e : bT P x y t i with
      | false => rfl
      | true => rw [bT_up e] at h; exact absurd h (by decide)
    rw [h0, h, if_neg (by decide), if_neg (by decide)]
theorem tT_some {t i : Nat} (h : bT P x y t i = true) : ∃ s, s < t ∧ tT P x y t i = s ∧ bT P x y s i = false ∧ bT P x y (s + 1) i = true := by
  induction t with
  | zero => exact absurd h (by simp [bT])
  | succ t ih =>
    have e : tT P x y (t + 1) i = if bT P x y t i = true then tT P x y t i else if bT P x y (t + 1) i = true then (t : Int) else -1 := rfl
    cases h0 : bT P x y t i with
    | true =>
      obtain ⟨s, h1, h2, h3, h4⟩ := ih h0
      exact ⟨s, by omega, by rw [e, if_pos h0, h2], h3, h4⟩
    | false => exact ⟨t, Nat.lt_succ_self _, by rw [e, h0, if_neg (by decide), if_pos h], h0, h⟩
theorem tT_at {t s i : Nat} (h0 : bT P x y s i = false) (h1 : bT P x y (s + 1) i = true) (hs : s < t) : tT P x y t i = s := by
  obtain ⟨r, hr, e, g0, g1⟩ := tT_some (bT_le (by omega : s + 1 ≤ t) h1)
  have : r = s := by
    rcases Nat.lt_trichotomy r s with h | h | h
    · rw [bT_le (by omega : r + 1 ≤ s) g1] at h0; exact absurd h0 (by decide)
    · exact h
    · rw [bT_le (by omega : s + 1 ≤ r) h1] at g0; exact absurd g0 (by decide)
  rw [e, this]

/-- the rounds end -/
theorem bT_fix {t : Nat} (h : ∀ i, bT P x y (t + 1) i = bT P x y t i) : ∀ m, t ≤ m → ∀ i, bT P x y m i = bT P x y t i := by
  intro m
  induction m with
  | zero => intro hm i; rw [show t = 0 by omega]
  | succ m ih =>
    intro hm i
    by_cases e : t = m + 1
    · rw [e]
    · have e2 : bT P x y m = bT P x y t := funext fun i => ih (by omega) i
      show (bT P x y m i || (P i && (decide ((i : Int) < x) || decide (0 < fulS (bT P x y m) x y i)))) = _
      rw [e2]
      exact h i
theorem tT_fix {t : Nat} (h : ∀ i, bT P x y (t + 1) i = bT P x y t i) {m : Nat} (hm : t ≤ m) (i : Nat) : tT P x y m i = tT P x y t i := by
  cases e : bT P x y t i with
  | false => rw [tT_none e, tT_none (by rw [bT_fix h m hm]; exact e)]
  | true =>
    obtain ⟨s, hs, e1, g0, g1⟩ := tT_some e
    rw [e1, tT_at g0 g1 (by omega)]
theorem fulN_mono {q r : Nat → Bool} {k : Nat} (h : ∀ i, q i = true → r i = true) : fulN q k ≤ fulN r k := by
  induction k with
  | zero => exact Nat.le_refl _
  | succ k ih =>
    cases e : q k with
    | true => rw [fulN_yes e, fulN_yes (h k e)]; omega
    | false =>
      rw [fulN_no e]
      cases e2 : r k with
      | true => rw [fulN_yes e2]; omega
      | false => rw [fulN_no e2]; exact ih
theorem fulN_more {q r : Nat → Bool} {k j : Nat} (h : ∀ i, q i = true → r i = true) (hj : j < k) (h0 : q j = false) (h1 : r j = true) : fulN q k + 1 ≤ fulN r k := by
  induction k with
  | zero => exact absurd hj (Nat.not_lt_zero _)
  | succ k ih =>
    by_cases e : j = k
    · subst e
      rw [fulN_no h0, fulN_yes h1]
      have := fulN_mono (k := j) h
      omega
    · have h2 := ih (by omega)
      cases e2 : q k with
      | true => rw [fulN_yes e2, fulN_yes (h k e2)]; omega
      | false =>
        rw [fulN_no e2]
        cases e3 : r k with
        | true => rw [fulN_yes e3]; omega
        | false => rw [fulN_no e3]; exact h2
/-- one more round burns one more cell, or nothing more burns -/
theorem bT_more {n t : Nat} (hP : ∀ i, P i = true → i < n) (h : ¬ ∀ i, i < n → bT P x y (t + 1) i = bT P x y t i) : fulN (bT P x y t) n + 1 ≤ fulN (bT P x y (t + 1)) n := by
  obtain ⟨j, hj⟩ := Classical.not_forall.1 h
  obtain ⟨hj1, hj2⟩ := Classical.not_imp.1 hj
  have e0 : bT P x y t j = false := by
    cases e : bT P x y t j with
    | false => rfl
    | true => exact absurd (by rw [e, bT_up e]) hj2
  have e1 : bT P x y (t + 1) j = true := by
    cases e : bT P x y (t + 1) j with
    | true => rfl
    | false => exact absurd (by rw [e, e0]) hj2
  exact fulN_more (fun i h => bT_up h) hj1 e0 e1
theorem bT_same {n t : Nat} (hP : ∀ i, P i = true → i < n) (h : ∀ i, i < n → bT P x y (t + 1) i = bT P x y t i) (i : Nat) : bT P x y (t + 1) i = bT P x y t i := by
  by_cases hi : i < n
  · exact h i hi
  · have f : ∀ m, bT P x y m i = false := fun m => by
      cases e : bT P x y m i with
      | false => rfl
      | true => exact absurd (hP i (bT_P e)) hi
    rw [f, f]
theorem bT_ends {n : Nat} (hP : ∀ i, P i = true → i < n) : ∃ t, t ≤ n ∧ ∀ i, bT P x y (t + 1) i = bT P x y t i := by
  apply Classical.byContradiction
  intro h
  have key : ∀ t, t ≤ n + 1 → t ≤ fulN (bT P x y t) n := by
    intro t
    induction t with
    | zero => intro _; exact Nat.zero_le _
    | succ t ih =>
      intro ht
      have h1 := ih (by omega)
      have h2 : ¬ ∀ i, i < n → bT P x y (t + 1) i = bT P x y t i := fun g => h ⟨t, by omega, bT_same hP g⟩
      have := bT_more hP h2
      omega
  have h1 := key (n + 1) (Nat.le_refl _)
  have h2 := fulN_le (bT P x y (n + 1)) n
  omega

/-- the times -/
def dT (P : Nat → Bool) (x y : Int) (n : Nat) : Nat → Int := tT P x y (n + 1)

/-- what the times are -/
structure Dist (P : Nat → Bool) (x y : Int) (n : Nat) (D : Nat → Int) : Prop where
  low : ∀ i, -1 ≤ D i
  high : ∀ i, D i ≤ n
  full : ∀ i, 0 ≤ D i → P i = true
  top : ∀ i, D i = 0 ↔ P i = true ∧ (i : Int) < x
  pred : ∀ i (s : Nat), D i = (s : Int) + 1 → ∃ j ∈ sidL x y i, D j.toNat = s
  next : ∀ i j, P i = true → j ∈ sidL x y i → 0 ≤ D j.toNat → 0 ≤ D i ∧ D i ≤ D j.toNat + 1
theorem dT_end {n t : Nat} (ht : t ≤ n + 1) (h : ∀ i, bT P x y (t + 1) i = bT P x y t i) (i : Nat) : tT P x y t i = dT P x y n i := (tT_fix h ht i).symm
theorem dT_dist {n : Nat} (hP : ∀ i, P i = true → i < n) : Dist P x y n (dT P x y n) := by
  obtain ⟨T, hT, hF⟩ := bT_ends (x := x) (y := y) hP
  have fix : ∀ m i, bT P x y m i = true → bT P x y (n + 1) i = true := fun m i h => by
    by_cases hm : m ≤ n + 1
    · exact bT_le hm h
    · rw [bT_fix hF (n + 1) (by omega), ← bT_fix hF m (by omega)]; exact h
  have at_ : ∀ {s i : Nat}, bT P x y s i = false → bT P x y (s + 1) i = true → dT P x y n i = s := fun {s i} h0 h1 => by
    by_cases hs : s < n + 1
    · exact tT_at h0 h1 hs
    · rw [bT_fix hF s (by omega), ← bT_fix hF (s + 1) (by omega), h1] at h0; exact absurd h0 (by decide)
  have so : ∀ {i : Nat}, 0 ≤ dT P x y n i → ∃ s : Nat, dT P x y n i = s ∧ bT P x y s i = false ∧ bT P x y (s + 1) i = true := fun {i} h => by
    cases e : bT P x y (n + 1) i with
    | false =>
      have : dT P x y n i = -1 := tT_none e
      omega
    | true =>
      obtain ⟨s, _, h2, h3, h4⟩ := tT_some e
      exact ⟨s, h2, h3, h4⟩
  have zero : ∀ i, bT P x y 0 i = false := fun _ => rfl
  refine ⟨fun i => ?_, fun i => ?_, fun i h => ?_, fun i => ⟨fun h => ?_, fun ⟨h1, h2⟩ => ?_⟩, fun i s h => ?_, fun i j hp hj h => ?_⟩
  · cases e : bT P x y (n + 1) i with
    | false => exact Int.le_of_eq (tT_none (t := n + 1) e).symm
    | true =>
      obtain ⟨s, _, h2, _⟩ := tT_some e
      show -1 ≤ tT P x y (n + 1) i
      omega
  · cases e : bT P x y (n + 1) i with
    | false =>
      have : dT P x y n i = -1 := tT_none e
      omega
    | true =>
      obtain ⟨s, h1, h2, _⟩ := tT_some e
      show tT P x y (n + 1) i ≤ n
      omega
  · obtain ⟨s, _, _, h4⟩ := so h
    exact bT_P h4
  · obtain ⟨s, h2, h3, h4⟩ := so (i := i) (by omega)
    obtain rfl : s = 0 := by omega
    obtain ⟨g1, g2⟩ := bT_new h3 h4
    refine ⟨g1, g2.elim id fun ⟨j, _, hb⟩ => ?_⟩
    rw [zero] at hb; exact absurd hb (by decide)
  · exact at_ (zero i) (bT_mk h1 (.inl h2))
  · obtain ⟨r, h2, h3, h4⟩ := so (i := i) (by omega)
    obtain rfl : r = s + 1 := by omega
    obtain ⟨g1, g2⟩ := bT_new h3 h4
    rcases g2 with g2 | ⟨j, hj, hb⟩
    · rw [bT_le (by omega : 1 ≤ s + 1) (bT_mk g1 (.inl g2) : bT P x y (0 + 1) i = true)] at h3; exact absurd h3 (by decide)
    · refine ⟨j, hj, ?_⟩
      have hn : bT P x y s j.toNat = false := by
        cases e : bT P x y s j.toNat with
        | false => rfl
        | true => rw [bT_mk g1 (.inr ⟨j, hj, e⟩)] at h3; exact absurd h3 (by decide)
      exact at_ hn hb
  · obtain ⟨s, h2, h3, h4⟩ := so h
    have h5 : bT P x y (s + 2) i = true := bT_mk hp (.inr ⟨j, hj, h4⟩)
    obtain ⟨r, _, k2, k3, k4⟩ := tT_some (fix _ _ h5)
    have k2' : dT P x y n i = r := k2
    have : r < s + 2 := by
      apply Classical.byContradiction
      intro hc
      rw [bT_le (by omega : s + 2 ≤ r) h5] at k3
      exact absurd k3 (by decide)
    omega
end

/-- what the model's list is when so many of its cells have been looked at -/
def seqM (q : Int → Bool) (nb : Int → List Int) (L0 : List Int) : Nat → List Int
  | 0 => L0
  | k + 1 => if k < (seqM q nb L0 k).length then visG q (seqM q nb L0 k) (nb ((seqM q nb L0 k).getD k 0)) else seqM q nb L0 k
theorem seqM_yes {q : Int → Bool} {nb : Int → List Int} {L0 : List Int} {k : Nat} (h : k < (seqM q nb L0 k).length) : seqM q nb L0 (k + 1) = visG q (seqM q nb L0 k) (nb ((seqM q nb L0 k).getD k 0)) := by
  show (if _ then _ else _) = _
  rw [if_pos h]

theorem fulL_mem {q : Nat → Bool} {k : Nat} {a : Int} : a ∈ fulL q k ↔ ∃ i : Nat, a = i ∧ i < k ∧ q i = true := by
  induction k with
  | zero => exact ⟨fun h => absurd h (List.not_mem_nil), fun ⟨i, _, h, _⟩ => absurd h (Nat.not_lt_zero _)⟩
  | succ k ih =>
    cases e : q k with
    | true =>
      rw [fulL_yes e, List.mem_append, List.mem_singleton, ih]
      constructor
      · rintro (⟨i, h1, h2, h3⟩ | h)
        · exact ⟨i, h1, by omega, h3⟩
        · exact ⟨k, h, by omega, e⟩
      · rintro ⟨i, h1, h2, h3⟩
        by_cases ei : i = k
        · exact .inr (by rw [h1, ei])
        · exact .inl ⟨i, h1, by omega, h3⟩
    | false =>
      rw [fulL_no e, ih]
      constructor
      · rintro ⟨i, h1, h2, h3⟩
        exact ⟨i, h1, by omega, h3⟩
      · rintro ⟨i, h1, h2, h3⟩
        by_cases ei : i = k
        · rw [ei, e] at h3; exact absurd h3 (by decide)
        · exact ⟨i, h1, by omega, h3⟩
theorem fulL_nodup (q : Nat → Bool) (k : Nat) : (fulL q k).Nodup := by
  induction k with
  | zero => exact List.nodup_nil
  | succ k ih =>
    cases e : q k with
    | true =>
      rw [fulL_yes e, List.nodup_append]
      refine ⟨ih, (by simp : [(k : Int)].Nodup), fun a ha b hb he => ?_⟩
      rw [List.mem_singleton] at hb
      obtain ⟨i, h1, h2, _⟩ := fulL_mem.1 ha
      omega
    | false => rw [fulL_no e]; exact ih

/-- the model's list, while it is gone through -/
structure InvM (P : Nat → Bool) (x y : Int) (n : Nat) (D : Nat → Int) (k : Nat) (L : List Int) : Prop where
  inn : ∀ b ∈ L, 0 ≤ b ∧ b < n ∧ 0 ≤ D b.toNat
  nodup : L.Nodup
  sorted : ∀ a b, a ≤ b → b < L.length → D (L.getD a 0).toNat ≤ D (L.getD b 0).toNat
  near : ∀ a b, a < L.length → b < L.length → k ≤ b → D (L.getD a 0).toNat ≤ D (L.getD b 0).toNat + 1
  done : ∀ m, m < k → m < L.length → ∀ s ∈ sidL x y (L.getD m 0), P s.toNat = true → s ∈ L
  tops : ∀ i : Nat, P i = true → (i : Int) < x → (i : Int) ∈ L

section
variable {P : Nat → Bool} {x y : Int} {n : Nat} {D : Nat → Int}
/-- all cells that burn no later than others that have been looked at are in the list -/
theorem InvM.all {k : Nat} {L : List Int} (H : InvM P x y n D k L) (hD : Dist P x y n D) (hx : 1 ≤ x) (hn : (n : Int) = x * y) (hP : ∀ i, P i = true → i < n) {tau : Int} (hk : ∀ m, m < L.length → D (L.getD m 0).toNat < tau → m < k) :
    ∀ (t i : Nat), D i = (t : Int) → (t : Int) ≤ tau → (i : Int) ∈ L := by
  intro t
  induction t with
  | zero =>
    intro i h1 h2
    obtain ⟨g1, g2⟩ := (hD.top i).1 h1
    exact H.tops i g1 g2
  | succ t ih =>
    intro i h1 h2
    obtain ⟨j, hj, e⟩ := hD.pred i t (by rw [h1]; rfl)
    have hPi := hD.full i (by omega)
    have hi := hP i hPi
    have hj2 := sidL_mem hx (by omega : (0 : Int) ≤ i) (by omega) j hj
    have hm := ih j.toNat e (by omega)
    rw [Int.toNat_of_nonneg hj2.1] at hm
    obtain ⟨m, hm1, hm2⟩ := mem_getD hm
    have hsy := sidL_sym hx (by omega : (0 : Int) ≤ i) (by omega) j hj
    exact H.done m (hk m hm1 (by rw [hm2, e]; omega)) hm1 i (by rw [hm2]; exact hsy) (by rw [Int.toNat_natCast]; exact hPi)

/-- a side that is not in the list yet burns one later -/
theorem InvM.side {k : Nat} {L : List Int} (H : InvM P x y n D k L) (hD : Dist P x y n D) (hx : 1 ≤ x) (hn : (n : Int) = x * y) (hP : ∀ i, P i = true → i < n) (hk : k < L.length) {b : Int} (hb : b ∈ sidL x y (L.getD k 0)) (hPb : P b.toNat = true) (hL : b ∉ L) : D b.toNat = D (L.getD k 0).toNat + 1 := by
  have hc := H.inn _ (getD_mem hk)
  have hb2 := sidL_mem hx hc.1 (by omega) b hb
  have hsy := sidL_sym hx hc.1 (by omega) b hb
  have h1 := hD.next b.toNat (L.getD k 0) hPb (by rw [Int.toNat_of_nonneg hb2.1]; exact hsy) hc.2.2
  apply Classical.byContradiction
  intro hne
  apply hL
  have := H.all hD hx hn hP (tau := D (L.getD k 0).toNat) (fun m hm hlt => by
    apply Classical.byContradiction
    intro hge
    have := H.sorted k m (by omega) hm
    omega) (D b.toNat).toNat b.toNat (by omega) (by omega)
  rwa [Int.toNat_of_nonneg hb2.1] at this

theorem InvM.next {k : Nat} {L : List Int} (H : InvM P x y n D k L) (hD : Dist P x y n D) (hx : 1 ≤ x) (hn : (n : Int) = x * y) (hP : ∀ i, P i = true → i < n) (hk : k < L.length) : InvM P x y n D (k + 1) (visG (fun b => P b.toNat) L (sidL x y (L.getD k 0))) := by
  obtain ⟨e, he⟩ := vis_pre (fun b => P b.toNat) (sidL x y (L.getD k 0)) L
  have hc := H.inn _ (getD_mem hk)
  have nd : (L ++ e).Nodup := by rw [← he]; exact vis_nodup H.nodup
  have me : ∀ b ∈ e, D b.toNat = D (L.getD k 0).toNat + 1 ∧ 0 ≤ b ∧ b < n := fun b hb => by
    have hb1 : b ∈ visG (fun b => P b.toNat) L (sidL x y (L.getD k 0)) := by rw [he]; exact List.mem_append_right _ hb
    have hb0 : b ∉ L := fun h => by
      rw [List.nodup_append] at nd
      exact nd.2.2 b h b hb rfl
    rcases vis_mem.1 hb1 with h | ⟨h1, h2⟩
    · exact absurd h hb0
    · have hb2 := sidL_mem hx hc.1 (by omega) b h1
      exact ⟨H.side hD hx hn hP hk h1 h2 hb0, hb2.1, by omega⟩
  rw [he]
  have gl : ∀ a, a < L.length → (L ++ e).getD a 0 = L.getD a 0 := fun a h => getD_pre h
  have gr : ∀ a, ¬ a < L.length → a < (L ++ e).length → D ((L ++ e).getD a 0).toNat = D (L.getD k 0).toNat + 1 := fun a h1 h2 => by
    have : (L ++ e).getD a 0 ∈ e := by
      rw [List.getD_eq_getElem?_getD, List.getElem?_append_right (by omega)]
      rw [List.length_append] at h2
      rw [List.getElem?_eq_getElem (by omega)]
      exact List.getElem_mem _
    exact (me _ this).1
  refine ⟨fun b hb => ?_, nd, fun a b hab hb => ?_, fun a b ha hb hkb => ?_, fun m hm hml s hs hPs => ?_, fun i h1 h2 => List.mem_append_left _ (H.tops i h1 h2)⟩
  · rcases List.mem_append.1 hb with h | h
    · exact H.inn b h
    · have := me b h
      exact ⟨this.2.1, this.2.2, by omega⟩
  · by_cases h1 : b < L.length
    · rw [gl a (by omega), gl b h1]; exact H.sorted a b hab h1
    · rw [gr b h1 hb]
      by_cases h2 : a < L.length
      · rw [gl a h2]; exact H.near a k h2 hk (Nat.le_refl _)
      · rw [gr a h2 (by omega)]; exact Int.le_refl _
  · have hbl : D (L.getD k 0).toNat ≤ D ((L ++ e).getD b 0).toNat := by
      by_cases h1 : b < L.length
      · rw [gl b h1]; exact H.sorted k b (by omega) h1
      · rw [gr b h1 hb]; omega
    by_cases h2 : a < L.length
    · rw [gl a h2]
      have := H.near a k h2 hk (Nat.le_refl _)
      omega
    · rw [gr a h2 ha]; omega
  · by_cases h1 : m < k
    · rw [gl m (by omega)] at hs
      exact List.mem_append_left _ (H.done m h1 (by omega) s hs hPs)
    · obtain rfl : m = k := by omega
      rw [gl m hk] at hs
      rw [← he]
      exact vis_mem.2 (.inr ⟨hs, hPs⟩)

/-- the model's list begins with the cells above -/
def topL (P : Nat → Bool) (x : Int) (n : Nat) : List Int := fulL (fun i => decide ((i : Int) < x) && P i) n
theorem InvM.start (hD : Dist P x y n D) (hP : ∀ i, P i = true → i < n) : InvM P x y n D 0 (topL P x n) := by
  have mem : ∀ b ∈ topL P x n, 0 ≤ b ∧ b < n ∧ D b.toNat = 0 := fun b hb => by
    obtain ⟨i, rfl, h2, h3⟩ := fulL_mem.1 hb
    rw [Bool.and_eq_true, decide_eq_true_eq] at h3
    exact ⟨by omega, by omega, by rw [Int.toNat_natCast]; exact (hD.top i).2 ⟨h3.2, h3.1⟩⟩
  have z : ∀ a, a < (topL P x n).length → D ((topL P x n).getD a 0).toNat = 0 := fun a h => (mem _ (getD_mem h)).2.2
  refine ⟨fun b hb => ?_, fulL_nodup _ _, fun a b h1 h2 => ?_, fun a b h1 h2 _ => ?_, fun m h => absurd h (Nat.not_lt_zero _), fun i h1 h2 => fulL_mem.2 ⟨i, rfl, hP i h1, by rw [h1, Bool.and_true]; exact decide_eq_true h2⟩⟩
  · have := mem b hb; exact ⟨this.1, this.2.1, by omega⟩
  · rw [z a (by omega), z b h2]; exact Int.le_refl _
  · rw [z a h1, z b h2]; omega
theorem seqM_inv (hD : Dist P x y n D) (hx : 1 ≤ x) (hn : (n : Int) = x * y) (hP : ∀ i, P i = true → i < n) : ∀ k, k ≤ (seqM (fun b => P b.toNat) (sidL x y) (topL P x n) k).length → InvM P x y n D k (seqM (fun b => P b.toNat) (sidL x y) (topL P x n) k) := by
  intro k
  induction k with
  | zero => intro _; exact InvM.start hD hP
  | succ k ih =>
    intro hk
    by_cases h : k < (seqM (fun b => P b.toNat) (sidL x y) (topL P x n) k).length
    · rw [seqM_yes h]
      exact (ih (by omega)).next hD hx hn hP h
    · rw [show seqM (fun b => P b.toNat) (sidL x y) (topL P x n) (k + 1) = seqM (fun b => P b.toNat) (sidL x y) (topL P x n) k by show (if _ then _ else _) = _; rw [if_neg h]] at hk
      omega

/-- the model's times while its list grows -/
def oM (D : Nat → Int) (L : List Int) : Nat → Int := fun i => if L.contains (i : Int) = true then D i else -1
theorem oM_in {L : List Int} {i : Nat} (h : (i : Int) ∈ L) : oM D L i = D i := by unfold oM; rw [if_pos (List.contains_iff_mem.2 h)]
theorem oM_out {L : List Int} {i : Nat} (h : (i : Int) ∉ L) : oM D L i = -1 := by
  unfold oM
  rw [if_neg (fun g => h (List.contains_iff_mem.1 g))]
theorem oM_end {k : Nat} {L : List Int} (H : InvM P x y n D k L) (hD : Dist P x y n D) (hx : 1 ≤ x) (hn : (n : Int) = x * y) (hP : ∀ i, P i = true → i < n) (hk : ¬ k < L.length) (i : Nat) : oM D L i = D i := by
  by_cases h : (i : Int) ∈ L
  · exact oM_in h
  · rw [oM_out h]
    apply Classical.byContradiction
    intro hne
    have h1 := hD.low i
    exact h (H.all hD hx hn hP (tau := D i) (fun m hm _ => by omega) (D i).toNat i (by omega) (by omega))

theorem oM_put {L : List Int} {s : Nat} {v : Int} (h : D s = v) : ∀ j, put (iv (oM D L)) s (.int .i64 v) j = iv (oM D (L ++ [(s : Int)])) j := fun j => by
  unfold put iv
  by_cases e : j = s
  · subst e
    rw [if_pos rfl, oM_in (List.mem_append_right _ (List.mem_singleton.2 rfl)), h]
  · rw [if_neg e]
    by_cases hj : (j : Int) ∈ L
    · rw [oM_in hj, oM_in (List.mem_append_left _ hj)]
    · rw [oM_out hj, oM_out fun g => by
        rcases List.mem_append.1 g with g | g
        · exact hj g
        · rw [List.mem_singleton] at g; omega]

/-- the greatest of the first ones -/
def maxD (D : Nat → Int) : Nat → Int
  | 0 => -1
  | k + 1 => if maxD D k < D k then D k else maxD D k
theorem maxD_le {k i : Nat} (h : i < k) : D i ≤ maxD D k := by
  induction k with
  | zero => exact absurd h (Nat.not_lt_zero _)
  | succ k ih =>
    show _ ≤ if maxD D k < D k then D k else maxD D k
    by_cases e : i = k
    · subst e; split <;> omega
    · have := ih (by omega)
      split <;> omega
theorem maxD_at (k : Nat) : maxD D k = -1 ∨ ∃ i, i < k ∧ maxD D k = D i := by
  induction k with
  | zero => exact .inl rfl
  | succ k ih =>
    show (if maxD D k < D k then D k else maxD D k) = -1 ∨ _
    by_cases h : maxD D k < D k
    · exact .inr ⟨k, by omega, by show (if maxD D k < D k then D k else maxD D k) = _; rw [if_pos h]⟩
    · rw [if_neg h]
      rcases ih with e | ⟨i, h1, h2⟩
      · exact .inl e
      · exact .inr ⟨i, by omega, by show (if maxD D k < D k then D k else maxD D k) = _; rw [if_neg h]; exact h2⟩
/-- the last time of the model is the greatest -/
def lastM (D : Nat → Int) (L : List Int) : Nat → Int
  | 0 => -1
  | k + 1 => D (L.getD k 0).toNat
theorem lastM_max {k : Nat} {L : List Int} (H : InvM P x y n D k L) (hD : Dist P x y n D) (hx : 1 ≤ x) (hn : (n : Int) = x * y) (hP : ∀ i, P i = true → i < n) (hk : k = L.length) : lastM D L k = maxD D n := by
  have out : ∀ i : Nat, 0 ≤ D i → (i : Int) ∈ L := fun i h => H.all hD hx hn hP (tau := D i) (fun m hm _ => by omega) (D i).toNat i (by omega) (by omega)
  cases k with
  | zero =>
    show -1 = _
    rcases maxD_at (D := D) n with e | ⟨i, h1, h2⟩
    · exact e.symm
    · have h3 := hD.low i
      by_cases h0 : 0 ≤ D i
      · have := out i h0
        rw [List.length_eq_zero_iff.1 hk.symm] at this
        exact absurd this (List.not_mem_nil)
      · omega
  | succ k =>
    show D (L.getD k 0).toNat = _
    have hl := H.inn _ (getD_mem (by omega : k < L.length))
    have h1 : D (L.getD k 0).toNat ≤ maxD D n := maxD_le (by omega)
    rcases maxD_at (D := D) n with e | ⟨i, h2, h3⟩
    · omega
    · by_cases h0 : 0 ≤ D i
      · obtain ⟨j, hj1, hj2⟩ := mem_getD (out i h0)
        have := H.sorted j k (by omega) (by omega)
        rw [hj2, Int.toNat_natCast] at this
        omega
      · omega
end

/-- the full cells, none beyond the field -/
def pB (p : Nat → Bool) (n : Nat) : Nat → Bool := fun i => decide (i < n) && p i
theorem pB_lt (p : Nat → Bool) (n : Nat) : ∀ i, pB p n i = true → i < n := fun i h => by
  unfold pB at h
  rw [Bool.and_eq_true, decide_eq_true_eq] at h
  exact h.1
theorem pB_in {p : Nat → Bool} {n i : Nat} (h : i < n) : pB p n i = p i := by unfold pB; rw [decide_eq_true h, Bool.true_and]
/-- the times of a field -/
def burnT (p : Nat → Bool) (x y : Int) (n : Nat) : Nat → Int := dT (pB p n) x y n

end Go.Proofs.Ythhimielelpcoaa
