/-
  What is proved here: the program's counts behind a turn are the model's. Conditions: a valid grammar. No walk.
-/
import Derived.Test.YtckhdbnoihieeaaLtE
import Derived.Test.YtckhdbnoihieeaaLtC
namespace Go.Proofs.Ytckhdbnoihieeaa
open Go.RowKit

def sumN (f : Nat → Int) : Nat → Int
  | 0 => 0
  | k + 1 => sumN f k + f k
theorem sumN_eq {f g : Nat → Int} : ∀ {k : Nat}, (∀ i, i < k → f i = g i) → sumN f k = sumN g k
  | 0, _ => rfl
  | k + 1, h => by
    show sumN f k + f k = sumN g k + g k
    rw [sumN_eq (fun i hi => h i (by omega)), h k (by omega)]
theorem sumN_one {f g : Nat → Int} {i0 : Nat} : ∀ {k : Nat}, i0 < k → (∀ i, i < k → i ≠ i0 → f i = g i) → sumN g k = sumN f k - f i0 + g i0
  | 0, h, _ => absurd h (Nat.not_lt_zero _)
  | k + 1, h, hh => by
    show sumN g k + g k = sumN f k + f k - f i0 + g i0
    by_cases e : i0 = k
    · subst e
      rw [sumN_eq (f := g) (g := f) fun i hi => (hh i (by omega) (by omega)).symm]
      omega
    · rw [sumN_one (k := k) (by omega) fun i hi hne => hh i (by omega) hne, hh k (by omega) (fun h => e h.symm)]
      omega
theorem nxP_sum (now : Nat → Int) (b : Nat → Nat → Int) (j : Nat) : ∀ k, nxP now b k j = (if j = 26 then now 26 else 0) + sumN (fun i => now i * b i j) k
  | 0 => by show (if j = 26 then now 26 else 0) = _ + 0; omega
  | k + 1 => by
    show nxP now b k j + now k * b k j = _ + (sumN _ k + now k * b k j)
    rw [nxP_sum now b j k]; omega
/-- what the first rules' texts add -/
def adS (ss : List ByteArray) (F : Nat → Int) (j : Nat) : Nat → Int := sumN fun k => F (ixR ss k) * ltC (txt ss k).data.toList j
theorem adF_sum (ss : List ByteArray) (n : Nat) (F : Nat → Int) (j : Nat) : ∀ k, adF ss n F k j = delF ss F n j + adS ss F j k
  | 0 => by show delF ss F n j = _ + 0; omega
  | k + 1 => by
    show adF ss n F k j + F (ixR ss k) * ltC (txt ss k).data.toList j = delF ss F n j + (sumN _ k + F (ixR ss k) * ltC (txt ss k).data.toList j)
    rw [adF_sum ss n F j k]
    unfold adS
    omega
/-- a letter as the first rules leave it -/
def byM (ss : List ByteArray) (m i j : Nat) : Int := ltC ((lk ss (65 + i) m).getD (key1 (capU i))).data.toList j
theorem ltC_one (i j : Nat) (hi : i < 26) (hj : j < 27) : ltC (key1 (capU i)).data.toList j = if i = j then 1 else 0 := by
  have e : ltI (capU i) = i := by
    unfold ltI capU
    have : (UInt8.ofNat (65 + i)).toNat = 65 + i := by rw [UInt8.toNat_ofNat']; omega
    rw [this, if_pos (by omega)]
    omega
  show (([capU i].filter fun b => ltI b = j).length : Int) = _
  by_cases h : i = j
  · subst h; simp [e]
  · simp [e, h]
theorem lkF_none {ss : List ByteArray} {c : Nat} : ∀ {m : Nat}, (∀ k, k < m → lcode (ltr ss k) ≠ c) → lk ss c m = none
  | 0, _ => rfl
  | m + 1, h => by
    show (if lcode (ltr ss m) = c then _ else lk ss c m) = none
    rw [if_neg (h m (by omega)), lkF_none fun k hk => h k (by omega)]
theorem delF_same {ss : List ByteArray} {F : Nat → Int} {j : Nat} : ∀ {m : Nat}, (∀ k, k < m → keyN j ≠ lcode (ltr ss k)) → delF ss F m j = F j
  | 0, _ => rfl
  | m + 1, h => by
    show (if keyN j = lcode (ltr ss m) then 0 else delF ss F m j) = F j
    rw [if_neg (h m (by omega)), delF_same fun k hk => h k (by omega)]
theorem both_sums {ss : List ByteArray} {n : Nat} {F : Nat → Int} {j : Nat} (hok : ∀ k, k < n → okAt ss k = true) (hj : j < 27) : ∀ m, m ≤ n →
    (if j = 26 then F 26 else 0) + sumN (fun i => F i * byM ss m i j) 26 = delF ss F m j + adS ss F j m
  | 0, _ => by
    show _ = F j + 0
    have e : sumN (fun i => F i * byM ss 0 i j) 26 = sumN (fun i => if i = j then F j else 0) 26 := sumN_eq fun i hi => by
      show F i * ltC (key1 (capU i)).data.toList j = _
      rw [ltC_one i j hi hj]
      by_cases h : i = j
      · subst h; rw [if_pos rfl, if_pos rfl, Int.mul_one]
      · rw [if_neg h, if_neg h, Int.mul_zero]
    rw [e]
    have z : ∀ k, sumN (fun _ => (0 : Int)) k = 0 := fun k => by
      induction k with
      | zero => rfl
      | succ k ih => show sumN _ k + 0 = 0; rw [ih]; rfl
    by_cases h : j = 26
    · subst h
      rw [if_pos rfl, sumN_eq (g := fun _ => 0) fun i hi => if_neg (by omega), z]
    · rw [if_neg h, sumN_one (f := fun _ => 0) (g := fun i => if i = j then F j else 0) (i0 := j) (by omega) (fun i hi hne => (if_neg hne).symm), z]
      show 0 + (0 - 0 + (if j = j then F j else 0)) = F j + 0
      rw [if_pos rfl]; omega
  | m + 1, hm => by
    have ih := both_sums (F := F) hok hj m (by omega)
    have hk := keyN_ix (hok m (by omega))
    have hc := okAt_cap (hok m (by omega))
    have hasc := (asc_of hok).2
    have hne : ∀ k, k < m → lcode (ltr ss k) ≠ lcode (ltr ss m) := fun k hkm => Nat.ne_of_lt (hasc k m hkm (by omega))
    have hix : 65 + ixR ss m = lcode (ltr ss m) := by unfold ixR; omega
    have e1 := sumN_one (f := fun i => F i * byM ss m i j) (g := fun i => F i * byM ss (m + 1) i j) (i0 := ixR ss m) (k := 26) hk.1 (fun i hi hne2 => by
      show F i * ltC ((lk ss (65 + i) m).getD (key1 (capU i))).data.toList j = F i * ltC ((if lcode (ltr ss m) = 65 + i then some (txt ss m) else lk ss (65 + i) m).getD (key1 (capU i))).data.toList j
      rw [if_neg (by omega)])
    have e2 : byM ss (m + 1) (ixR ss m) j = ltC (txt ss m).data.toList j := by
      show ltC ((if lcode (ltr ss m) = 65 + ixR ss m then some (txt ss m) else _).getD _).data.toList j = _
      rw [if_pos hix.symm]; rfl
    have e3 : byM ss m (ixR ss m) j = if ixR ss m = j then 1 else 0 := by
      show ltC ((lk ss (65 + ixR ss m) m).getD (key1 (capU (ixR ss m)))).data.toList j = _
      rw [lkF_none fun k hkm => by rw [hix]; exact hne k hkm]
      exact ltC_one _ _ hk.1 hj
    have e4 : adS ss F j (m + 1) = adS ss F j m + F (ixR ss m) * ltC (txt ss m).data.toList j := rfl
    generalize (if j = 26 then F 26 else 0) = T at ih ⊢
    generalize hA : sumN (fun i => F i * byM ss m i j) 26 = A at ih e1
    generalize hB : sumN (fun i => F i * byM ss (m + 1) i j) 26 = B at e1 ⊢
    rw [e2, e3] at e1
    rw [e4]
    generalize hD : F (ixR ss m) * ltC (txt ss m).data.toList j = D at e1 ⊢
    by_cases h : ixR ss m = j
    · have hd : delF ss F (m + 1) j = 0 := if_pos (by rw [← h]; exact hk.2.symm ▸ rfl)
      have h1 : (if ixR ss m = j then (1 : Int) else 0) = 1 := if_pos h
      have hs : delF ss F m j = F j := delF_same fun k hkm => by rw [← h, hk.2]; exact fun e => hne k hkm e.symm
      rw [h1, Int.mul_one, h] at e1
      rw [hs] at ih
      rw [hd]
      omega
    · have hd : delF ss F (m + 1) j = delF ss F m j := if_neg fun e => h (keyN_inj (by omega) hj (hk.2.trans e.symm))
      have h1 : (if ixR ss m = j then (1 : Int) else 0) = 0 := if_neg h
      rw [h1, Int.mul_zero] at e1
      rw [hd]
      omega
/-- one turn is the same in both -/
theorem turn_same {ss : List ByteArray} {n : Nat} {F : Nat → Int} {j : Nat} (hok : ∀ k, k < n → okAt ss k = true) (hj : j < 27) : adF ss n F n j = stepF ss n F j := by
  rw [adF_sum, ← both_sums hok hj n (Nat.le_refl _)]
  unfold stepF
  rw [nxP_sum]
  congr 1
  refine sumN_eq fun i hi => ?_
  show F i * ltC ((lk ss (65 + i) n).getD (key1 (capU i))).data.toList j = F i * ltC (tx ss n (capU i)).data.toList j
  rw [lk_tx (asc_of hok)]
  have : (capU i).toNat = 65 + i := by unfold capU; rw [UInt8.toNat_ofNat']; omega
  rw [this]

end Go.Proofs.Ytckhdbnoihieeaa
