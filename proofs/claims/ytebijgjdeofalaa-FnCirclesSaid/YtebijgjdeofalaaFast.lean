/-
  What is proved here: floating-point operations of the model at finite words, reckoned with few operations on natural numbers, so that the kernel can reckon many of them. Conditions: none but those that each reckoning tests itself. Own text; no dump.
-/
import Derived.Test.YtebijgjdeofalaaFlt
namespace Go.Proofs.Ytebijgjdeofalaa
namespace Flt
open Ieee

def fB : FloatKind → Nat | .f32 => 8388608 | .f64 => 4503599627370496
def fS : FloatKind → Nat | .f32 => 2147483648 | .f64 => 9223372036854775808
def fI : FloatKind → Nat | .f32 => 2139095040 | .f64 => 9218868437227405312
def fF : FloatKind → Nat | .f32 => 23 | .f64 => 52
def fL : FloatKind → Nat | .f32 => 149 | .f64 => 1074
theorem fB_eq (k : FloatKind) : k.format.binade = fB k := by cases k <;> decide
theorem fS_eq (k : FloatKind) : k.format.signWeight = fS k := by cases k <;> decide
theorem fI_eq (k : FloatKind) : k.format.infRung = fI k := by cases k <;> decide
theorem fF_eq (k : FloatKind) : k.format.fractionBits = fF k := by cases k <;> decide
theorem fL_eq (k : FloatKind) : k.format.leastPlace = -(fL k : Int) := by cases k <;> decide

def mgK (k : FloatKind) (x : Nat) : Nat := bif Nat.blt (x % fS k) (fB k) then x % fS k else fB k + x % fS k % fB k
def ofK (k : FloatKind) (x : Nat) : Nat := x % fS k / fB k - 1
def sgK (k : FloatKind) (x : Nat) : Bool := x / fS k % 2 == 1
def finK (k : FloatKind) (x : Nat) : Bool := Nat.blt (x % fS k) (fI k)
def wordK (k : FloatKind) (s : Bool) (r : Nat) : Nat := bif s then fS k + r else r

theorem blt_iff {a b : Nat} : Nat.blt a b = true ↔ a < b := by unfold Nat.blt; rw [Nat.ble_eq]; exact Iff.rfl
theorem blt_not {a b : Nat} : Nat.blt a b = false ↔ ¬ a < b := by rw [← blt_iff]; cases Nat.blt a b <;> simp

theorem read_K {k : FloatKind} {x : Nat} (h : finK k x = true) : k.format.read x = .number (sgK k x) (mgK k x) (-(fL k : Int) + ofK k x) := by
  have h1 := blt_iff.1 h
  unfold Format.read sgK mgK ofK
  dsimp only
  rw [fS_eq, fB_eq, fI_eq, fL_eq]
  have hB : 0 < fB k := by cases k <;> decide
  by_cases hb : x % fS k < fB k
  · rw [if_pos hb, blt_iff.2 hb]
    have : x % fS k / fB k = 0 := Nat.div_eq_of_lt hb
    rw [this]
    simp
  · rw [if_neg hb, if_pos h1, blt_not.2 hb]
    rfl

/-- to the nearest whole number -/
def cutK (n d : Nat) : Nat := n / (1 <<< d) + (decide (1 <<< d < 2 * (n % (1 <<< d))) || (1 <<< d == 2 * (n % (1 <<< d)) && n / (1 <<< d) % 2 == 1)).toNat
def nearK (k : FloatKind) (m o : Nat) : Nat :=
  bif Nat.beq m 0 then 0 else
  let L := o + m.log2 - fF k
  Nat.min (L * fB k + cutK (m <<< (o - L)) (L - o)) (fI k)

theorem word_K (k : FloatKind) (s : Bool) (r : Nat) : k.format.word s r = wordK k s r := by
  unfold Format.word wordK
  rw [fS_eq]
  cases s <;> rfl

theorem nearest_K (k : FloatKind) (s : Bool) (m o : Nat) : k.format.nearest s m (-(fL k : Int) + o) = wordK k s (nearK k m o) := by
  unfold Format.nearest nearK
  by_cases h0 : m = 0
  · subst h0
    rw [if_pos rfl, word_K]; rfl
  · have hb : Nat.beq m 0 = false := by rw [Bool.eq_false_iff]; intro h; exact h0 (Nat.eq_of_beq_eq_true h)
    rw [if_neg h0, hb, fL_eq, fF_eq, fB_eq, fI_eq, word_K]
    dsimp only [cond]
    generalize hL : o + m.log2 - fF k = L
    have e : max (-(fL k : Int) + (o : Int) + (m.log2 : Int) - (fF k : Int)) (-(fL k : Int)) = -(fL k : Int) + (L : Int) := by omega
    rw [e]
    have e1 : (-(fL k : Int) + (o : Int) - (-(fL k : Int) + (L : Int))).toNat = o - L := by omega
    have e2 : (-(fL k : Int) + (L : Int) - (-(fL k : Int) + (o : Int))).toNat = L - o := by omega
    have e3 : (-(fL k : Int) + (L : Int) - (-(fL k : Int))).toNat = L := by omega
    rw [e1, e2, e3]
    have e4 : min (L - o) ((m <<< (o - L)).log2 + 2) = L - o := by
      by_cases hlo : L ≤ o
      · rw [show L - o = 0 by omega]; exact Nat.zero_min _
      · rw [show o - L = 0 by omega, Nat.shiftLeft_zero]
        apply Nat.min_eq_left
        omega
    have e5 : Toward.even.cut s (m <<< (o - L)) (L - o) = cutK (m <<< (o - L)) (L - o) := by
      unfold Toward.cut cutK
      dsimp only
      rw [e4]
    rw [e5]

def mulK (k : FloatKind) (x y : Nat) : Option Nat :=
  bif finK k x && finK k y && (Nat.beq (mgK k x * mgK k y) 0 || Nat.ble (fL k) (ofK k x + ofK k y)) then some (wordK k (sgK k x ^^ sgK k y) (nearK k (mgK k x * mgK k y) (ofK k x + ofK k y - fL k))) else none
theorem nearest_K0 (k : FloatKind) (s : Bool) {m : Nat} (o : Nat) (p : Int) (h : Nat.beq m 0 = true) : k.format.nearest s m p = wordK k s (nearK k m o) := by
  have h0 := Nat.eq_of_beq_eq_true h
  subst h0
  unfold Format.nearest nearK
  rw [if_pos rfl, word_K]; rfl
theorem mul_K {k : FloatKind} {x y r : Nat} (h : mulK k x y = some r) : floatBits .mul k x y = some r := by
  unfold mulK at h
  cases hc : (finK k x && finK k y && (Nat.beq (mgK k x * mgK k y) 0 || Nat.ble (fL k) (ofK k x + ofK k y))) with
  | false => rw [hc] at h; cases h
  | true =>
    rw [hc] at h
    rw [Bool.and_eq_true, Bool.and_eq_true, Bool.or_eq_true] at hc
    obtain ⟨⟨h1, h2⟩, h3⟩ := hc
    show ((k.format.read x).product (k.format.read y)).map k.format.write = some r
    rw [read_K h1, read_K h2]
    show some (k.format.nearest (sgK k x ^^ sgK k y) (mgK k x * mgK k y) (-(fL k : Int) + (ofK k x : Int) + (-(fL k : Int) + (ofK k y : Int)))) = some r
    rcases h3 with h3 | h3
    · rw [nearest_K0 k _ (ofK k x + ofK k y - fL k) _ h3]
      exact h
    have h3 := Nat.le_of_ble_eq_true h3
    rw [show (-(fL k : Int) + (ofK k x : Int) + (-(fL k : Int) + (ofK k y : Int))) = -(fL k : Int) + ((ofK k x + ofK k y - fL k : Nat) : Int) by omega, nearest_K]
    exact h

theorem signed_nat (s : Bool) (m u : Nat) : signed s m u = if s then -((m <<< u : Nat) : Int) else ((m <<< u : Nat) : Int) := rfl

/-- a sum; the second one with its sign turned, if told so -/
def sumK (k : FloatKind) (s t : Bool) (a b o : Nat) : Nat :=
  bif s == t then wordK k s (nearK k (a + b) o) else bif Nat.beq a b then 0 else bif Nat.blt b a then wordK k s (nearK k (a - b) o) else wordK k t (nearK k (b - a) o)
def addK (k : FloatKind) (turn : Bool) (x y : Nat) : Option Nat :=
  bif finK k x && finK k y then
    let o := Nat.min (ofK k x) (ofK k y)
    some (sumK k (sgK k x) (turn ^^ sgK k y) (mgK k x <<< (ofK k x - o)) (mgK k y <<< (ofK k y - o)) o)
  else none

theorem sum_K (k : FloatKind) (s t : Bool) (m n p q : Nat) :
    (Datum.sum (.number s m (-(fL k : Int) + p)) (.number t n (-(fL k : Int) + q))).map k.format.write = some (sumK k s t (m <<< (p - Nat.min p q)) (n <<< (q - Nat.min p q)) (Nat.min p q)) := by
  have e0 : min (-(fL k : Int) + (p : Int)) (-(fL k : Int) + (q : Int)) = -(fL k : Int) + ((Nat.min p q : Nat) : Int) := by
    have : Nat.min p q = min p q := rfl
    rw [this]
    omega
  have e1 : (-(fL k : Int) + (p : Int) - (-(fL k : Int) + ((Nat.min p q : Nat) : Int))).toNat = p - Nat.min p q := by omega
  have e2 : (-(fL k : Int) + (q : Int) - (-(fL k : Int) + ((Nat.min p q : Nat) : Int))).toNat = q - Nat.min p q := by omega
  unfold Datum.sum
  dsimp only
  rw [e0, e1, e2]
  generalize p - Nat.min p q = i
  generalize q - Nat.min p q = j
  generalize Nat.min p q = o
  show some (k.format.nearest _ _ _) = _
  rw [nearest_K]
  congr 1
  unfold sumK
  generalize ha : m <<< i = a
  generalize hb : n <<< j = b
  rw [signed_nat, signed_nat, ha, hb]
  have z0 : nearK k 0 o = 0 := rfl
  cases s <;> cases t
  · have : ((false == false) : Bool) = true := rfl
    simp only [Bool.false_eq_true, if_false, this, cond]
    rw [show ((a : Int) + (b : Int)).natAbs = a + b by omega]
    by_cases h : (a : Int) + (b : Int) = 0
    · rw [if_pos h]; rfl
    · rw [if_neg h, decide_eq_false (by omega)]
  · have : ((false == true) : Bool) = false := rfl
    simp only [Bool.false_eq_true, if_false, if_true, this, cond]
    by_cases h : a = b
    · subst h
      have hb2 : Nat.beq a a = true := Nat.beq_refl a
      rw [hb2, if_pos (by omega), show ((a : Int) + -(a : Int)).natAbs = 0 by omega, z0]
      rfl
    · have hb2 : Nat.beq a b = false := by rw [Bool.eq_false_iff]; intro hh; exact h (Nat.eq_of_beq_eq_true hh)
      rw [hb2, if_neg (by omega)]
      by_cases hlt : b < a
      · rw [blt_iff.2 hlt, decide_eq_false (by omega), show ((a : Int) + -(b : Int)).natAbs = a - b by omega]
      · rw [blt_not.2 hlt, decide_eq_true (by omega), show ((a : Int) + -(b : Int)).natAbs = b - a by omega]
  · have : ((true == false) : Bool) = false := rfl
    simp only [Bool.false_eq_true, if_false, if_true, this, cond]
    by_cases h : a = b
    · subst h
      have hb2 : Nat.beq a a = true := Nat.beq_refl a
      rw [hb2, if_pos (by omega), show (-(a : Int) + (a : Int)).natAbs = 0 by omega, z0]
      rfl
    · have hb2 : Nat.beq a b = false := by rw [Bool.eq_false_iff]; intro hh; exact h (Nat.eq_of_beq_eq_true hh)
      rw [hb2, if_neg (by omega)]
      by_cases hlt : b < a
      · rw [blt_iff.2 hlt, decide_eq_true (by omega), show (-(a : Int) + (b : Int)).natAbs = a - b by omega]
      · rw [blt_not.2 hlt, decide_eq_false (by omega), show (-(a : Int) + (b : Int)).natAbs = b - a by omega]
  · have : ((true == true) : Bool) = true := rfl
    simp only [if_true, this, cond]
    rw [show (-(a : Int) + -(b : Int)).natAbs = a + b by omega]
    by_cases h : -(a : Int) + -(b : Int) = 0
    · rw [if_pos h]; rfl
    · rw [if_neg h, decide_eq_true (by omega)]

theorem add_K {k : FloatKind} {x y r : Nat} (h : addK k false x y = some r) : floatBits .add k x y = some r := by
  unfold addK at h
  cases hc : (finK k x && finK k y) with
  | false => rw [hc] at h; cases h
  | true =>
    rw [hc] at h
    rw [Bool.and_eq_true] at hc
    show ((k.format.read x).sum (k.format.read y)).map k.format.write = some r
    rw [read_K hc.1, read_K hc.2, sum_K]
    rw [show (false ^^ sgK k y) = sgK k y by simp] at h
    exact h
theorem sub_K {k : FloatKind} {x y r : Nat} (h : addK k true x y = some r) : floatBits .sub k x y = some r := by
  unfold addK at h
  cases hc : (finK k x && finK k y) with
  | false => rw [hc] at h; cases h
  | true =>
    rw [hc] at h
    rw [Bool.and_eq_true] at hc
    show ((k.format.read x).sum (k.format.read y).opposite).map k.format.write = some r
    rw [read_K hc.1, read_K hc.2]
    show (Datum.sum (.number _ _ _) (.number (!sgK k y) (mgK k y) (-(fL k : Int) + ofK k y))).map k.format.write = some r
    rw [sum_K]
    rw [show (true ^^ sgK k y) = !sgK k y by simp] at h
    exact h

def quoK (k : FloatKind) (x y : Nat) : Option Nat :=
  let more := fF k + 2 + (mgK k y).log2 - (mgK k x).log2
  bif finK k x && finK k y && !Nat.beq (mgK k y) 0 && (Nat.beq (mgK k x) 0 || Nat.ble (ofK k y + more + 1) (ofK k x + fL k)) then
    let d := mgK k x <<< more
    some (wordK k (sgK k x ^^ sgK k y) (nearK k (2 * (d / mgK k y) + (d % mgK k y != 0).toNat) (ofK k x + fL k - (ofK k y + more + 1))))
  else none
theorem quo_K {k : FloatKind} {x y r : Nat} (h : quoK k x y = some r) : floatBits .quo k x y = some r := by
  unfold quoK at h
  dsimp only at h
  generalize hm : fF k + 2 + (mgK k y).log2 - (mgK k x).log2 = more at *
  cases hc : (finK k x && finK k y && !Nat.beq (mgK k y) 0 && (Nat.beq (mgK k x) 0 || Nat.ble (ofK k y + more + 1) (ofK k x + fL k))) with
  | false => rw [hc] at h; cases h
  | true =>
    rw [hc] at h
    rw [Bool.and_eq_true, Bool.and_eq_true, Bool.and_eq_true, Bool.or_eq_true] at hc
    obtain ⟨⟨⟨h1, h2⟩, h3⟩, h4⟩ := hc
    have h5 : ¬ mgK k y = 0 := by
      intro e
      rw [e] at h3
      cases h3
    show ((k.format.read x).quotient (k.format.fractionBits + 2) (k.format.read y)).map k.format.write = some r
    rw [read_K h1, read_K h2]
    unfold Datum.quotient
    dsimp only
    rw [if_neg h5, fF_eq, hm]
    show some (k.format.nearest _ _ _) = some r
    rcases h4 with h4 | h4
    · have h6 := Nat.eq_of_beq_eq_true h4
      have h7 : Nat.beq (2 * (mgK k x <<< more / mgK k y) + (mgK k x <<< more % mgK k y != 0).toNat) 0 = true := by
        rw [h6, Nat.zero_shiftLeft, Nat.zero_div, Nat.zero_mod]; rfl
      rw [nearest_K0 k _ (ofK k x + fL k - (ofK k y + more + 1)) _ h7]
      exact h
    have h4 := Nat.le_of_ble_eq_true h4
    rw [show (-(fL k : Int) + (ofK k x : Int) - (-(fL k : Int) + (ofK k y : Int)) - (more : Int) - 1) = -(fL k : Int) + ((ofK k x + fL k - (ofK k y + more + 1) : Nat) : Int) by omega, nearest_K]
    exact h

def ofIntK (k : FloatKind) (n : Int) : Nat := wordK k (decide (n < 0)) (nearK k n.natAbs (fL k))
theorem ofInt_K (k : FloatKind) (n : Int) : floatOfInt k n = ofIntK k n := by
  have h := nearest_K k (decide (n < 0)) n.natAbs (fL k)
  rw [show -(fL k : Int) + (fL k : Int) = 0 by omega] at h
  exact h

/-- widened -/
def widK (x : Nat) : Option Nat := bif finK .f32 x then some (wordK .f64 (sgK .f32 x) (nearK .f64 (mgK .f32 x) (ofK .f32 x + 925))) else none
theorem isInf_lt {k : FloatKind} {s : Bool} {r : Nat} (h : r < fI k) : (k.format.read (wordK k s r)).isInfinity = false := by
  have hIS : fI k < fS k := by cases k <;> decide
  have hf : finK k (wordK k s r) = true := by
    unfold finK wordK
    apply blt_iff.2
    cases s
    · show r % fS k < fI k; rw [Nat.mod_eq_of_lt (by omega)]; exact h
    · show (fS k + r) % fS k < fI k; rw [Nat.add_mod_left, Nat.mod_eq_of_lt (by omega)]; exact h
  rw [read_K hf]; rfl
theorem near_small (k : FloatKind) (m o : Nat) : nearK k m o ≤ fI k := by
  unfold nearK
  cases Nat.beq m 0
  · exact Nat.min_le_right _ _
  · exact Nat.zero_le _
theorem conv_K {k j : FloatKind} {x o : Nat} (hkj : ¬ k = j) (h : finK k x = true) (ho : -(fL k : Int) + ofK k x = -(fL j : Int) + o) (hlt : nearK j (mgK k x) o < fI j) :
    floatToFloatBits k x j = some (wordK j (sgK k x) (nearK j (mgK k x) o)) := by
  unfold floatToFloatBits
  rw [if_neg hkj]
  have hd : k.decode x = .number (sgK k x) (mgK k x) (-(fL k : Int) + ofK k x) := read_K h
  rw [hd]
  dsimp only
  have he : j.encode (.number (sgK k x) (mgK k x) (-(fL k : Int) + ofK k x)) = wordK j (sgK k x) (nearK j (mgK k x) o) := by
    show j.format.nearest _ _ _ = _
    rw [ho, nearest_K]
  rw [he]
  have hi : (j.decode (wordK j (sgK k x) (nearK j (mgK k x) o))).isInfinity = false := isInf_lt hlt
  rw [hi]
  rfl
theorem fI_lt (k : FloatKind) : fI k < fS k := by cases k <;> decide
theorem word_fin {k : FloatKind} {s : Bool} {q : Nat} (hq : q ≤ fI k) (h : finK k (wordK k s q) = true) : q < fI k := by
  have hIS := fI_lt k
  have h2 := blt_iff.1 h
  cases s
  · rw [show wordK k false q = q from rfl, Nat.mod_eq_of_lt (by omega)] at h2
    exact h2
  · rw [show wordK k true q = fS k + q from rfl, Nat.add_mod_left, Nat.mod_eq_of_lt (by omega)] at h2
    exact h2
theorem off_wid (a : Nat) : -(fL .f32 : Int) + (a : Int) = -(fL .f64 : Int) + ((a + 925 : Nat) : Int) := by
  have h1 : fL .f32 = 149 := rfl
  have h2 : fL .f64 = 1074 := rfl
  rw [h1, h2]
  omega
theorem off_nar {a : Nat} (h : 925 ≤ a) : -(fL .f64 : Int) + (a : Int) = -(fL .f32 : Int) + ((a - 925 : Nat) : Int) := by
  have h1 : fL .f32 = 149 := rfl
  have h2 : fL .f64 = 1074 := rfl
  rw [h1, h2]
  omega
theorem wid_K {x r : Nat} (h : widK x = some r) (hr : finK .f64 r = true) : floatToFloatBits .f32 x .f64 = some r := by
  unfold widK at h
  cases hc : finK .f32 x with
  | false => rw [hc] at h; cases h
  | true =>
    rw [hc] at h
    injection h with h
    rw [← h] at hr ⊢
    exact conv_K (by decide) hc (off_wid _) (word_fin (near_small _ _ _) hr)

/-- narrowed -/
def narK (x : Nat) : Option Nat :=
  bif finK .f64 x then
    bif Nat.beq (mgK .f64 x) 0 then some (wordK .f32 (sgK .f64 x) 0)
    else bif Nat.ble 925 (ofK .f64 x) then
      let r := nearK .f32 (mgK .f64 x) (ofK .f64 x - 925)
      bif Nat.blt r (fI .f32) then some (wordK .f32 (sgK .f64 x) r) else none
    else none
  else none
theorem nar_K {x r : Nat} (h : narK x = some r) : floatToFloatBits .f64 x .f32 = some r := by
  unfold narK at h
  cases hc : finK .f64 x with
  | false => rw [hc] at h; cases h
  | true =>
    rw [hc] at h
    cases hz : Nat.beq (mgK .f64 x) 0 with
    | true =>
      rw [hz] at h
      have h0 := Nat.eq_of_beq_eq_true hz
      have hd : FloatKind.f64.decode x = .number (sgK .f64 x) (mgK .f64 x) (-(fL .f64 : Int) + ofK .f64 x) := read_K hc
      unfold floatToFloatBits
      rw [if_neg (by decide), hd]
      dsimp only
      have he : FloatKind.f32.encode (.number (sgK .f64 x) (mgK .f64 x) (-(fL .f64 : Int) + ofK .f64 x)) = wordK .f32 (sgK .f64 x) 0 := by
        show FloatKind.f32.format.nearest _ _ _ = _
        unfold Format.nearest
        rw [if_pos h0, word_K]
      rw [he]
      have hi : (FloatKind.f32.decode (wordK .f32 (sgK .f64 x) 0)).isInfinity = false := isInf_lt (by decide)
      rw [hi]
      exact h
    | false =>
      rw [hz] at h
      cases ho : Nat.ble 925 (ofK .f64 x) with
      | false => rw [ho] at h; cases h
      | true =>
        rw [ho] at h
        have ho := Nat.le_of_ble_eq_true ho
        cases hl : Nat.blt (nearK .f32 (mgK .f64 x) (ofK .f64 x - 925)) (fI .f32) with
        | false => dsimp only [cond] at h; rw [hl] at h; cases h
        | true =>
          dsimp only [cond] at h
          rw [hl] at h
          injection h with h
          rw [← h]
          exact conv_K (by decide) hc (off_nar ho) (blt_iff.1 hl)

/-- how two finite words stand to each other -/
def ordS (s t : Bool) (a b : Nat) : Ordering :=
  bif s then (bif t then compare b a else (bif Nat.beq a 0 && Nat.beq b 0 then .eq else .lt)) else (bif t then (bif Nat.beq a 0 && Nat.beq b 0 then .eq else .gt) else compare a b)
def ordK (k : FloatKind) (x y : Nat) : Ordering :=
  let o := Nat.min (ofK k x) (ofK k y)
  ordS (sgK k x) (sgK k y) (mgK k x <<< (ofK k x - o)) (mgK k y <<< (ofK k y - o))
theorem cmp_int (a b : Nat) : compare (a : Int) (b : Int) = compare a b := by
  simp only [compare, compareOfLessAndEq]
  by_cases h : a < b
  · rw [if_pos h, if_pos (by omega)]
  · rw [if_neg h, if_neg (by omega)]
    by_cases h2 : a = b
    · rw [if_pos h2, if_pos (by omega)]
    · rw [if_neg h2, if_neg (by omega)]
theorem cmp_neg (a b : Nat) : compare (-(a : Int)) (-(b : Int)) = compare b a := by
  simp only [compare, compareOfLessAndEq]
  repeat' split
  all_goals first | rfl | omega
theorem ordS_eq (s t : Bool) (a b : Nat) : compare (if s then -(a : Int) else (a : Int)) (if t then -(b : Int) else (b : Int)) = ordS s t a b := by
  have z : ∀ c : Nat, Nat.beq c 0 = decide (c = 0) := fun c => by
    by_cases h : c = 0
    · subst h; rfl
    · rw [decide_eq_false h, Bool.eq_false_iff]; intro hh; exact h (Nat.eq_of_beq_eq_true hh)
  cases s <;> cases t
  · exact cmp_int a b
  · unfold ordS
    simp only [Bool.false_eq_true, if_false, if_true, cond, z]
    by_cases ha : a = 0
    · by_cases hb : b = 0
      · subst ha hb; decide
      · rw [decide_eq_true ha, decide_eq_false hb]
        simp only [compare, compareOfLessAndEq]
        rw [if_neg (by omega), if_neg (by omega)]; rfl
    · rw [decide_eq_false ha]
      simp only [compare, compareOfLessAndEq]
      rw [if_neg (by omega), if_neg (by omega)]; rfl
  · unfold ordS
    simp only [Bool.false_eq_true, if_false, if_true, cond, z]
    by_cases ha : a = 0
    · by_cases hb : b = 0
      · subst ha hb; decide
      · rw [decide_eq_true ha, decide_eq_false hb]
        simp only [compare, compareOfLessAndEq]
        rw [if_pos (by omega)]; rfl
    · rw [decide_eq_false ha]
      simp only [compare, compareOfLessAndEq]
      rw [if_pos (by omega)]; rfl
  · exact cmp_neg a b
theorem ord_K {k : FloatKind} {x y : Nat} (h : (finK k x && finK k y) = true) : k.format.order x y = some (ordK k x y) := by
  rw [Bool.and_eq_true] at h
  show (k.format.read x).order (k.format.read y) = _
  rw [read_K h.1, read_K h.2]
  have e0 : min (-(fL k : Int) + (ofK k x : Int)) (-(fL k : Int) + (ofK k y : Int)) = -(fL k : Int) + ((Nat.min (ofK k x) (ofK k y) : Nat) : Int) := by
    have : Nat.min (ofK k x) (ofK k y) = min (ofK k x) (ofK k y) := rfl
    rw [this]
    omega
  unfold Datum.order ordK
  dsimp only
  rw [e0]
  rw [show (-(fL k : Int) + (ofK k x : Int) - (-(fL k : Int) + ((Nat.min (ofK k x) (ofK k y) : Nat) : Int))).toNat = ofK k x - Nat.min (ofK k x) (ofK k y) by omega]
  rw [show (-(fL k : Int) + (ofK k y : Int) - (-(fL k : Int) + ((Nat.min (ofK k x) (ofK k y) : Nat) : Int))).toNat = ofK k y - Nat.min (ofK k x) (ofK k y) by omega]
  rw [signed_nat, signed_nat, ordS_eq]

/-- a number that was reckoned is none that is no number -/
theorem can_fin {k : FloatKind} {x : Nat} (h : finK k x = true) : can k x = some x := can_num (nanW_of_le (by rw [fS_eq, fI_eq]; exact Nat.le_of_lt (blt_iff.1 h)))

end Flt
end Go.Proofs.Ytebijgjdeofalaa
