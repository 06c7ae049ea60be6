/-
  What is proved here: the reckoning of XFast, in the kernel's own words, so that it needs fewer steps. Conditions: none. Own text; no dump.
-/
import Derived.Test.YtebijgjdeofalaaFast
namespace Go.Proofs.Ytebijgjdeofalaa
namespace Flt

def iteN (c : Bool) (a b : Nat) : Nat := @Bool.casesOn (fun _ => Nat) c b a
theorem iteN_eq (c : Bool) (a b : Nat) : iteN c a b = bif c then a else b := by cases c <;> rfl
def iteO (c : Bool) (a b : Option Nat) : Option Nat := @Bool.casesOn (fun _ => Option Nat) c b a
theorem iteO_eq (c : Bool) (a b : Option Nat) : iteO c a b = bif c then a else b := by cases c <;> rfl
def andB (a b : Bool) : Bool := @Bool.casesOn (fun _ => Bool) a false b
theorem andB_eq (a b : Bool) : andB a b = (a && b) := by cases a <;> rfl
def orB (a b : Bool) : Bool := @Bool.casesOn (fun _ => Bool) a b true
theorem orB_eq (a b : Bool) : orB a b = (a || b) := by cases a <;> rfl

def mgF (k : FloatKind) (x : Nat) : Nat := iteN (Nat.ble (Nat.succ (Nat.mod x (fS k))) (fB k)) (Nat.mod x (fS k)) (Nat.add (fB k) (Nat.mod (Nat.mod x (fS k)) (fB k)))
theorem mgF_eq (k : FloatKind) (x : Nat) : mgF k x = mgK k x := by unfold mgF mgK Nat.blt; rw [iteN_eq]; rfl
def ofF (k : FloatKind) (x : Nat) : Nat := Nat.sub (Nat.div (Nat.mod x (fS k)) (fB k)) 1
theorem ofF_eq (k : FloatKind) (x : Nat) : ofF k x = ofK k x := rfl
def sgF (k : FloatKind) (x : Nat) : Bool := Nat.beq (Nat.mod (Nat.div x (fS k)) 2) 1
theorem beq_nat (a b : Nat) : Nat.beq a b = (a == b) := by
  by_cases h : a = b
  · subst h; rw [Nat.beq_refl]; simp
  · have : (a == b) = false := by simpa using h
    rw [this, Bool.eq_false_iff]; intro hh; exact h (Nat.eq_of_beq_eq_true hh)
theorem sgF_eq (k : FloatKind) (x : Nat) : sgF k x = sgK k x := by unfold sgF sgK; rw [beq_nat]; rfl
def finF (k : FloatKind) (x : Nat) : Bool := Nat.ble (Nat.succ (Nat.mod x (fS k))) (fI k)
theorem finF_eq (k : FloatKind) (x : Nat) : finF k x = finK k x := rfl
def wordF (k : FloatKind) (s : Bool) (r : Nat) : Nat := iteN s (Nat.add (fS k) r) r
theorem wordF_eq (k : FloatKind) (s : Bool) (r : Nat) : wordF k s r = wordK k s r := by unfold wordF wordK; rw [iteN_eq]; rfl

/-! the number of digits, by halves: the kernel has no word for it -/
theorem log2_cut {m w : Nat} (h : 2 ^ w ≤ m) : m.log2 = w + (Nat.shiftRight m w).log2 := by
  have hp : 0 < 2 ^ w := Nat.two_pow_pos w
  have hm : m ≠ 0 := by omega
  have e : Nat.shiftRight m w = m / 2 ^ w := Nat.shiftRight_eq_div_pow m w
  rw [e]
  have hq : m / 2 ^ w ≠ 0 := by
    have := Nat.div_pos h hp
    omega
  obtain ⟨h1, h2⟩ := (Nat.log2_eq_iff hq).1 rfl
  refine (Nat.log2_eq_iff hm).2 ⟨?_, ?_⟩
  · rw [Nat.add_comm, Nat.pow_add]; exact (Nat.le_div_iff_mul_le hp).1 h1
  · rw [Nat.add_assoc, Nat.add_comm, Nat.pow_add]; exact (Nat.div_lt_iff_lt_mul hp).1 h2
theorem step_cut {m w B : Nat} {f : Nat → Nat} (hB : B = 2 ^ w) (hf : ∀ n, n < B → f n = n.log2) (hm : m < B * B) : iteN (Nat.ble B m) (Nat.add w (f (Nat.shiftRight m w))) (f m) = m.log2 := by
  rw [iteN_eq]
  by_cases h : B ≤ m
  · rw [Nat.ble_eq_true_of_le h]
    show w + f (Nat.shiftRight m w) = _
    rw [log2_cut (m := m) (w := w) (by omega), hf]
    have e : Nat.shiftRight m w = m / 2 ^ w := Nat.shiftRight_eq_div_pow m w
    rw [e, ← hB]
    exact Nat.div_lt_of_lt_mul hm
  · have : Nat.ble B m = false := by rw [Bool.eq_false_iff]; intro hh; exact h (Nat.le_of_ble_eq_true hh)
    rw [this]
    exact hf m (by omega)
def lg1 (m : Nat) : Nat := iteN (Nat.ble 2 m) 1 0
def lg2 (m : Nat) : Nat := iteN (Nat.ble 4 m) (Nat.add 2 (lg1 (Nat.shiftRight m 2))) (lg1 m)
def lg4 (m : Nat) : Nat := iteN (Nat.ble 16 m) (Nat.add 4 (lg2 (Nat.shiftRight m 4))) (lg2 m)
def lg8 (m : Nat) : Nat := iteN (Nat.ble 256 m) (Nat.add 8 (lg4 (Nat.shiftRight m 8))) (lg4 m)
def lg16 (m : Nat) : Nat := iteN (Nat.ble 65536 m) (Nat.add 16 (lg8 (Nat.shiftRight m 16))) (lg8 m)
def lg32 (m : Nat) : Nat := iteN (Nat.ble 4294967296 m) (Nat.add 32 (lg16 (Nat.shiftRight m 32))) (lg16 m)
def lg64 (m : Nat) : Nat := iteN (Nat.ble 18446744073709551616 m) (Nat.add 64 (lg32 (Nat.shiftRight m 64))) (lg32 m)
def lgF (m : Nat) : Nat := iteN (Nat.ble 340282366920938463463374607431768211456 m) (Nat.log2 m) (lg64 m)
theorem lg1_eq (n : Nat) (h : n < 4) : lg1 n = n.log2 := by
  rcases (by omega : n = 0 ∨ n = 1 ∨ n = 2 ∨ n = 3) with rfl | rfl | rfl | rfl <;> decide
theorem lg2_eq (n : Nat) (h : n < 16) : lg2 n = n.log2 := step_cut (w := 2) (by decide) lg1_eq h
theorem lg4_eq (n : Nat) (h : n < 256) : lg4 n = n.log2 := step_cut (w := 4) (by decide) lg2_eq h
theorem lg8_eq (n : Nat) (h : n < 65536) : lg8 n = n.log2 := step_cut (w := 8) (by decide) lg4_eq h
theorem lg16_eq (n : Nat) (h : n < 4294967296) : lg16 n = n.log2 := step_cut (w := 16) (by decide) lg8_eq h
theorem lg32_eq (n : Nat) (h : n < 18446744073709551616) : lg32 n = n.log2 := step_cut (w := 32) (by decide) lg16_eq h
theorem lg64_eq (n : Nat) (h : n < 340282366920938463463374607431768211456) : lg64 n = n.log2 := step_cut (w := 64) (by decide) lg32_eq h
theorem lgF_eq (n : Nat) : lgF n = n.log2 := by
  unfold lgF
  rw [iteN_eq]
  by_cases h : 340282366920938463463374607431768211456 ≤ n
  · rw [Nat.ble_eq_true_of_le h]; rfl
  · have : Nat.ble 340282366920938463463374607431768211456 n = false := by rw [Bool.eq_false_iff]; intro hh; exact h (Nat.le_of_ble_eq_true hh)
    rw [this]
    exact lg64_eq n (by omega)

def cutG (g low twice : Nat) : Nat := Nat.add low (iteN (Nat.ble (Nat.succ g) twice) 1 (iteN (Nat.beq g twice) (Nat.mod low 2) 0))
def cutH (n g : Nat) : Nat := cutG g (Nat.div n g) (Nat.mul 2 (Nat.mod n g))
def cutF (n d : Nat) : Nat := cutH n (Nat.shiftLeft 1 d)
theorem cutF_eq (n d : Nat) : cutF n d = cutK n d := by
  unfold cutF cutH cutG cutK
  rw [iteN_eq, iteN_eq]
  show n / (1 <<< d) + _ = n / (1 <<< d) + _
  congr 1
  show (bif Nat.blt (1 <<< d) (2 * (n % (1 <<< d))) then 1 else bif Nat.beq (1 <<< d) (2 * (n % (1 <<< d))) then n / (1 <<< d) % 2 else 0) = _
  generalize 1 <<< d = g
  generalize 2 * (n % g) = t
  generalize n / g = l
  by_cases h : g < t
  · rw [blt_iff.2 h, decide_eq_true h]; rfl
  · rw [blt_not.2 h, decide_eq_false h, beq_nat]
    cases (g == t)
    · rfl
    · have := Nat.mod_two_eq_zero_or_one l
      rcases this with h2 | h2 <;> rw [h2] <;> rfl
theorem cutK_zero (n : Nat) : cutK n 0 = n := by
  unfold cutK
  rw [Nat.shiftLeft_zero, Nat.div_one, Nat.mod_one]
  simp

def capF (k : FloatKind) (v : Nat) : Nat := iteN (Nat.ble v (fI k)) v (fI k)
def nearG (k : FloatKind) (m o L : Nat) : Nat := capF k (Nat.add (Nat.mul L (fB k)) (iteN (Nat.ble L o) (Nat.shiftLeft m (Nat.sub o L)) (cutF m (Nat.sub L o))))
def nearF (k : FloatKind) (m o : Nat) : Nat := iteN (Nat.beq m 0) 0 (nearG k m o (Nat.sub (Nat.add o (lgF m)) (fF k)))
theorem capF_eq (k : FloatKind) (v : Nat) : capF k v = Nat.min v (fI k) := by
  unfold capF
  rw [iteN_eq]
  show _ = min v (fI k)
  by_cases h : v ≤ fI k
  · rw [Nat.ble_eq_true_of_le h, Nat.min_eq_left h]; rfl
  · have : Nat.ble v (fI k) = false := by rw [Bool.eq_false_iff]; intro hh; exact h (Nat.le_of_ble_eq_true hh)
    rw [this, Nat.min_eq_right (by omega)]; rfl
theorem nearF_eq (k : FloatKind) (m o : Nat) : nearF k m o = nearK k m o := by
  unfold nearF nearG nearK
  rw [iteN_eq, iteN_eq, capF_eq, lgF_eq]
  dsimp only
  show (bif Nat.beq m 0 then 0 else Nat.min ((o + m.log2 - fF k) * fB k + bif Nat.ble (o + m.log2 - fF k) o then m <<< (o - (o + m.log2 - fF k)) else cutF m (o + m.log2 - fF k - o)) (fI k)) = _
  generalize o + m.log2 - fF k = L
  congr 2
  congr 1
  by_cases h : L ≤ o
  · rw [Nat.ble_eq_true_of_le h, show L - o = 0 by omega, cutK_zero]; rfl
  · have : Nat.ble L o = false := by rw [Bool.eq_false_iff]; intro hh; exact h (Nat.le_of_ble_eq_true hh)
    rw [this, show o - L = 0 by omega, Nat.shiftLeft_zero, cutF_eq]; rfl

def xorB (s t : Bool) : Bool := @Bool.casesOn (fun _ => Bool) s t (@Bool.casesOn (fun _ => Bool) t true false)
theorem xorB_eq (s t : Bool) : xorB s t = (s ^^ t) := by cases s <;> cases t <;> rfl

def mulF (k : FloatKind) (x y : Nat) : Option Nat :=
  iteO (andB (andB (finF k x) (finF k y)) (orB (Nat.beq (Nat.mul (mgF k x) (mgF k y)) 0) (Nat.ble (fL k) (Nat.add (ofF k x) (ofF k y)))))
    (some (wordF k (xorB (sgF k x) (sgF k y)) (nearF k (Nat.mul (mgF k x) (mgF k y)) (Nat.sub (Nat.add (ofF k x) (ofF k y)) (fL k))))) none
theorem mulF_eq (k : FloatKind) (x y : Nat) : mulF k x y = mulK k x y := by
  unfold mulF mulK
  rw [iteO_eq, andB_eq, andB_eq, orB_eq, xorB_eq, wordF_eq, nearF_eq, mgF_eq, mgF_eq, ofF_eq, ofF_eq, sgF_eq, sgF_eq, finF_eq, finF_eq]
  rfl

def sumF (k : FloatKind) (s t : Bool) (a b o : Nat) : Nat :=
  iteN (xorB s t) (iteN (Nat.beq a b) 0 (iteN (Nat.ble (Nat.succ b) a) (wordF k s (nearF k (Nat.sub a b) o)) (wordF k t (nearF k (Nat.sub b a) o)))) (wordF k s (nearF k (Nat.add a b) o))
theorem sumF_eq (k : FloatKind) (s t : Bool) (a b o : Nat) : sumF k s t a b o = sumK k s t a b o := by
  unfold sumF sumK
  rw [iteN_eq, iteN_eq, iteN_eq, wordF_eq, wordF_eq, wordF_eq, nearF_eq, nearF_eq, nearF_eq, xorB_eq]
  cases s <;> cases t <;> rfl
def minF (a b : Nat) : Nat := iteN (Nat.ble a b) a b
theorem minF_eq (a b : Nat) : minF a b = Nat.min a b := by
  unfold minF
  rw [iteN_eq]
  show _ = min a b
  by_cases h : a ≤ b
  · rw [Nat.ble_eq_true_of_le h, Nat.min_eq_left h]; rfl
  · have : Nat.ble a b = false := by rw [Bool.eq_false_iff]; intro hh; exact h (Nat.le_of_ble_eq_true hh)
    rw [this, Nat.min_eq_right (by omega)]; rfl
def addG (k : FloatKind) (turn : Bool) (x y o : Nat) : Nat := sumF k (sgF k x) (xorB turn (sgF k y)) (Nat.shiftLeft (mgF k x) (Nat.sub (ofF k x) o)) (Nat.shiftLeft (mgF k y) (Nat.sub (ofF k y) o)) o
def addF (k : FloatKind) (turn : Bool) (x y : Nat) : Option Nat :=
  iteO (andB (finF k x) (finF k y)) (some (addG k turn x y (minF (ofF k x) (ofF k y)))) none
theorem addF_eq (k : FloatKind) (turn : Bool) (x y : Nat) : addF k turn x y = addK k turn x y := by
  unfold addF addG addK
  rw [iteO_eq, andB_eq, xorB_eq, sumF_eq, mgF_eq, mgF_eq, ofF_eq, ofF_eq, sgF_eq, sgF_eq, finF_eq, finF_eq, minF_eq]
  rfl

def quoG (k : FloatKind) (s : Bool) (n d o : Nat) : Nat := wordF k s (nearF k (Nat.add (Nat.mul 2 (Nat.div d n)) (iteN (Nat.beq (Nat.mod d n) 0) 0 1)) o)
def quoH (k : FloatKind) (x y more : Nat) : Option Nat :=
  iteO (andB (andB (andB (finF k x) (finF k y)) (xorB true (Nat.beq (mgF k y) 0))) (orB (Nat.beq (mgF k x) 0) (Nat.ble (Nat.add (Nat.add (ofF k y) more) 1) (Nat.add (ofF k x) (fL k)))))
    (some (quoG k (xorB (sgF k x) (sgF k y)) (mgF k y) (Nat.shiftLeft (mgF k x) more) (Nat.sub (Nat.add (ofF k x) (fL k)) (Nat.add (Nat.add (ofF k y) more) 1)))) none
def quoF (k : FloatKind) (x y : Nat) : Option Nat := quoH k x y (Nat.sub (Nat.add (Nat.add (fF k) 2) (lgF (mgF k y))) (lgF (mgF k x)))
theorem quoF_eq (k : FloatKind) (x y : Nat) : quoF k x y = quoK k x y := by
  unfold quoF quoH quoG quoK
  rw [iteO_eq, andB_eq, andB_eq, andB_eq, orB_eq, xorB_eq, xorB_eq, wordF_eq, nearF_eq, mgF_eq, mgF_eq, ofF_eq, ofF_eq, sgF_eq, sgF_eq, finF_eq, finF_eq, iteN_eq, lgF_eq, lgF_eq]
  dsimp only
  rw [show (true ^^ Nat.beq (mgK k y) 0) = !Nat.beq (mgK k y) 0 by simp]
  show (bif finK k x && finK k y && !(mgK k y).beq 0 && ((mgK k x).beq 0 || Nat.ble (ofK k y + (fF k + 2 + (mgK k y).log2 - (mgK k x).log2) + 1) (ofK k x + fL k)) then
    some (wordK k (sgK k x ^^ sgK k y) (nearK k (2 * (mgK k x <<< (fF k + 2 + (mgK k y).log2 - (mgK k x).log2) / mgK k y) + bif Nat.beq (mgK k x <<< (fF k + 2 + (mgK k y).log2 - (mgK k x).log2) % mgK k y) 0 then 0 else 1) (ofK k x + fL k - (ofK k y + (fF k + 2 + (mgK k y).log2 - (mgK k x).log2) + 1)))) else none) = _
  generalize fF k + 2 + (mgK k y).log2 - (mgK k x).log2 = more
  generalize mgK k x <<< more % mgK k y = rest
  rw [show (bif Nat.beq rest 0 then 0 else 1) = (rest != 0).toNat by rw [beq_nat]; unfold bne; cases (rest == 0) <;> rfl]

end Flt
end Go.Proofs.Ytebijgjdeofalaa
