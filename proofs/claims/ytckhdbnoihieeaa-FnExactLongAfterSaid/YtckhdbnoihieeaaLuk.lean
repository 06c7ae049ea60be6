/-
  What is proved here: what the map of texts answers at a letter. Conditions: a valid grammar. No walk.
-/
import Derived.Test.YtckhdbnoihieeaaTxs
namespace Go.Proofs.Ytckhdbnoihieeaa
open Go.RowKit Go.Maps

/-- the last rule of a letter -/
def lk (ss : List ByteArray) (c : Nat) : Nat → Option ByteArray
  | 0 => none
  | k + 1 => if lcode (ltr ss k) = c then some (txt ss k) else lk ss c k

theorem isMap_Dt (ss : List ByteArray) : ∀ k, IsMap (Dt ss k)
  | 0 => isMap_empty
  | k + 1 => (isMap_Dt ss k).put _ _

theorem has_Dt (ss : List ByteArray) (c : Nat) : ∀ k, Maps.has (Dt ss k) (.int .i32 c) = (lk ss c k).isSome
  | 0 => rfl
  | k + 1 => by
    unfold Dt lk
    by_cases e : lcode (ltr ss k) = c
    · rw [e, if_pos rfl, has_put_same (isMap_Dt ss k) (k := .int .i32 c) trivial]; rfl
    · rw [if_neg e, has_put_other (by intro h; injection h with _ h; exact e (by omega)), has_Dt ss c k]

theorem at_Dt (ss : List ByteArray) (c : Nat) (z : DataW Unit) : ∀ k, (Dt ss k).atKey (.int .i32 c) z = match lk ss c k with | some s => .lit (.string s.data.toList) | none => z
  | 0 => rfl
  | k + 1 => by
    unfold Dt lk
    by_cases e : lcode (ltr ss k) = c
    · rw [e, if_pos rfl, atKey_put_same (isMap_Dt ss k) (k := .int .i32 c) trivial]
    · rw [if_neg e, atKey_put_other (by intro h; injection h with _ h; exact e (by omega)), at_Dt ss c z k]

/-- letters of one byte each, in order -/
def Asc (ss : List ByteArray) (n : Nat) : Prop := (∀ k, k < n → (ltr ss k).size = 1) ∧ ∀ j k, j < k → k < n → lcode (ltr ss j) < lcode (ltr ss k)

theorem one_list {a : ByteArray} (h : a.size = 1) : a.toList = [a.data.getD 0 0] := by
  rw [ByteArray.toList_eq]
  have hl : a.data.toList.length = 1 := by simpa using h
  match hm : a.data.toList, hl with
  | [x], _ =>
    have : a.data = #[x] := Array.toList_inj.1 (by rw [hm])
    rw [this]; rfl

theorem one_key {a : ByteArray} (h : a.size = 1) (c : UInt8) : a = key1 c ↔ lcode a = c.toNat := by
  have h1 := one_list h
  constructor
  · intro e; rw [e]; rfl
  · intro e
    have e2 : a.data.getD 0 0 = c := UInt8.toNat_inj.1 e
    rw [e2, ByteArray.toList_eq] at h1
    exact ByteArray.ext (Array.toList_inj.1 h1)

theorem less_one {a b : ByteArray} (ha : a.size = 1) (hb : b.size = 1) (h : leS a b = false) : lcode b < lcode a := by
  unfold leS at h
  rw [one_list ha, one_list hb] at h
  unfold lcode
  generalize a.data.getD 0 0 = x at *
  generalize b.data.getD 0 0 = y at *
  simp [Op.bytesLess] at h
  have h1 := h.1
  have h2 : x ≠ y := h.2
  have h3 : ¬ x.toNat < y.toNat := fun g => by
    have : ¬ x < y := by first | exact h1.1 | exact h1 | (simpa using h1)
    exact this (UInt8.lt_iff_toNat_lt.2 g)
  have h4 : x.toNat ≠ y.toNat := fun g => h2 (UInt8.toNat_inj.1 g)
  omega

theorem asc_of {ss : List ByteArray} {n : Nat} (h : ∀ k, k < n → okAt ss k = true) : Asc ss n := by
  have h1 : ∀ k, k < n → (ltr ss k).size = 1 := fun k hk => by
    have := h k hk
    unfold okAt at this
    rw [Bool.and_eq_true] at this
    exact ruleB_one this.1
  refine ⟨h1, ?_⟩
  have step : ∀ k, k + 1 < n → lcode (ltr ss k) < lcode (ltr ss (k + 1)) := fun k hk => by
    have := h (k + 1) hk
    unfold okAt at this
    rw [Bool.and_eq_true] at this
    have h2 := this.2
    rw [decide_eq_false (by omega), Bool.false_or] at h2
    exact less_one (h1 _ hk) (h1 _ (by omega)) (by simpa using h2)
  intro j k hjk hk
  obtain ⟨d, rfl⟩ : ∃ d, k = j + 1 + d := ⟨k - j - 1, by omega⟩
  clear hjk
  induction d with
  | zero => exact step j hk
  | succ d ih =>
    have a := ih (by omega)
    have b := step (j + 1 + d) (by omega)
    rw [show j + 1 + (d + 1) = j + 1 + d + 1 by omega]
    omega

theorem lk_none {ss : List ByteArray} {c : Nat} : ∀ n, (∀ k, k < n → lcode (ltr ss k) ≠ c) → lk ss c n = none
  | 0, _ => rfl
  | n + 1, h => by
    unfold lk
    rw [if_neg (h n (by omega)), lk_none n fun k hk => h k (by omega)]
theorem lk_some {ss : List ByteArray} {c k : Nat} (he : lcode (ltr ss k) = c) : ∀ n, k < n → (∀ j, k < j → j < n → lcode (ltr ss j) ≠ c) → lk ss c n = some (txt ss k)
  | 0, h, _ => absurd h (Nat.not_lt_zero _)
  | n + 1, h, hj => by
    unfold lk
    by_cases e : k = n
    · subst e; rw [if_pos he]
    · rw [if_neg (hj n (by omega) (by omega)), lk_some he n (by omega) fun j a b => hj j a (by omega)]
theorem txF_none {ss : List ByteArray} {c : UInt8} {n : Nat} (h : ∀ k, k < n → ltr ss k ≠ key1 c) : ∀ k, k ≤ n → txF ss c (n - k) k = key1 c := by
  intro k hk
  obtain ⟨d, hd⟩ : ∃ d, n - k = d := ⟨_, rfl⟩
  induction d generalizing k with
  | zero => rw [hd, txF]
  | succ d ih => rw [txF_miss (by omega) (h k (by omega))]; exact ih (k + 1) (by omega) (by omega)
theorem txF_some {ss : List ByteArray} {c : UInt8} {n m : Nat} (hm : m < n) (he : ltr ss m = key1 c) (h : ∀ k, k < m → ltr ss k ≠ key1 c) : ∀ k, k ≤ m → txF ss c (n - k) k = txt ss m := by
  intro k hk
  obtain ⟨d, hd⟩ : ∃ d, m - k = d := ⟨_, rfl⟩
  induction d generalizing k with
  | zero =>
    obtain rfl : k = m := by omega
    exact txF_hit hm he
  | succ d ih => rw [txF_miss (by omega) (h k (by omega))]; exact ih (k + 1) (by omega) (by omega)

/-- both look up the same -/
theorem lk_tx {ss : List ByteArray} {n : Nat} (h : Asc ss n) (c : UInt8) : tx ss n c = (lk ss c.toNat n).getD (key1 c) := by
  by_cases hx : ∃ k, k < n ∧ lcode (ltr ss k) = c.toNat
  · obtain ⟨k, hk, he⟩ := hx
    rw [lk_some he n hk fun j a b e => by have := h.2 k j a b; omega]
    show txF ss c n 0 = txt ss k
    have := txF_some (c := c) hk ((one_key (h.1 k hk) c).2 he) (fun j hj e => by
      have e2 := (one_key (h.1 j (by omega)) c).1 e
      have := h.2 j k hj hk
      omega) 0 (Nat.zero_le _)
    rwa [Nat.sub_zero] at this
  · have hn : ∀ k, k < n → lcode (ltr ss k) ≠ c.toNat := fun k hk e => hx ⟨k, hk, e⟩
    rw [lk_none n hn]
    show txF ss c n 0 = key1 c
    have := txF_none (c := c) (fun k hk e => hn k hk ((one_key (h.1 k hk) c).1 e)) 0 (Nat.zero_le _)
    rwa [Nat.sub_zero] at this

end Go.Proofs.Ytckhdbnoihieeaa
