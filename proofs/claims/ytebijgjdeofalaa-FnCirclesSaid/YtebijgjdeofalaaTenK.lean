/-
  What is proved here: the tenths of decibels of t / 64, reckoned fast. Conditions: those that the reckoning tests. Own text; no dump.
-/
import Derived.Test.YtebijgjdeofalaaFastB
import Derived.Test.YtebijgjdeofalaaTen
import Derived.Test.YtebijgjdeofalaaInt
namespace Go.Proofs.Ytebijgjdeofalaa
open Flt
namespace Flt
open Ieee

def oneQ : Nat := 4607182418800017408
/-- the parts of the series -/
def termQ (j : Nat) : Option Nat := quoF .f64 oneQ (ofIntK .f64 ((25 - 2 * j : Nat) : Int))
def bindO (a : Option Nat) (f : Nat → Option Nat) : Option Nat := @Option.casesOn Nat (fun _ => Option Nat) a none f
theorem bindO_eq (a : Option Nat) (f : Nat → Option Nat) : bindO a f = a.bind f := by cases a <;> rfl
theorem bindO_some {a : Option Nat} {f : Nat → Option Nat} {r : Nat} (h : bindO a f = some r) : ∃ x, a = some x ∧ f x = some r := by
  cases a with
  | none => cases h
  | some x => exact ⟨x, rfl, h⟩
def polyQ (u : Nat) : Nat → Option Nat
  | 0 => some 0
  | j + 1 => bindO (polyQ u j) fun p => bindO (mulF .f64 u p) fun q => bindO (termQ j) fun c => addF .f64 false c q
def logQ (x e : Nat) : Option Nat :=
  bindO (addF .f64 true x oneQ) fun a => bindO (addF .f64 false x oneQ) fun b => bindO (quoF .f64 a b) fun s => bindO (mulF .f64 s s) fun u => bindO (polyQ u 13) fun q => bindO (mulF .f64 s q) fun m => bindO (mulF .f64 4611686018427387904 m) fun g => bindO (mulF .f64 e 4604418534313441775) fun h => addF .f64 false g h
def tenV (y : Nat) : Option Nat := bindO (logQ (nW y) (ofIntK .f64 (nE y))) fun l => bindO (mulF .f64 l 4631308968768463603) fun m => addF .f64 false m 4602678819172646912

theorem mulF_ok {k : FloatKind} {x y r : Nat} (h : mulF k x y = some r) : fop .mul k (some x) (some y) = some r := by rw [mulF_eq] at h; exact mul_K h
theorem addF_ok {k : FloatKind} {x y r : Nat} (h : addF k false x y = some r) : fop .add k (some x) (some y) = some r := by rw [addF_eq] at h; exact add_K h
theorem subF_ok {k : FloatKind} {x y r : Nat} (h : addF k true x y = some r) : fop .sub k (some x) (some y) = some r := by rw [addF_eq] at h; exact sub_K h
theorem quoF_ok {k : FloatKind} {x y r : Nat} (h : quoF k x y = some r) : fop .quo k (some x) (some y) = some r := by rw [quoF_eq] at h; exact quo_K h
theorem mulF_fin {k : FloatKind} {x y r : Nat} (h : mulF k x y = some r) : finK k x = true ∧ finK k y = true := by
  rw [mulF_eq] at h
  unfold mulK at h
  cases hc : (finK k x && finK k y && (Nat.beq (mgK k x * mgK k y) 0 || Nat.ble (fL k) (ofK k x + ofK k y))) with
  | false => rw [hc] at h; cases h
  | true =>
    rw [Bool.and_eq_true, Bool.and_eq_true] at hc
    exact hc.1
theorem addF_fin {k : FloatKind} {t : Bool} {x y r : Nat} (h : addF k t x y = some r) : finK k x = true ∧ finK k y = true := by
  rw [addF_eq] at h
  unfold addK at h
  cases hc : (finK k x && finK k y) with
  | false => rw [hc] at h; cases h
  | true =>
    rw [Bool.and_eq_true] at hc
    exact hc
theorem quoF_fin {k : FloatKind} {x y r : Nat} (h : quoF k x y = some r) : finK k x = true ∧ finK k y = true := by
  rw [quoF_eq] at h
  unfold quoK at h
  dsimp only at h
  revert h
  generalize fF k + 2 + (mgK k y).log2 - (mgK k x).log2 = more
  intro h
  cases hc : (finK k x && finK k y && !Nat.beq (mgK k y) 0 && (Nat.beq (mgK k x) 0 || Nat.ble (ofK k y + more + 1) (ofK k x + fL k))) with
  | false => rw [hc] at h; cases h
  | true =>
    rw [Bool.and_eq_true, Bool.and_eq_true, Bool.and_eq_true] at hc
    exact hc.1.1

theorem can_one : can .f64 4607182418800017408 = some oneQ := by decide
theorem poly_ok {u : Nat} : ∀ (j : Nat) {r : Nat}, polyQ u j = some r → polyL (some u) j = some r
  | 0, r, h => by
    have h0 : (some 0 : Option Nat) = some r := h
    rw [polyL, ← h0]; decide
  | j + 1, r, h => by
    obtain ⟨p, hp, h⟩ := bindO_some h
    obtain ⟨q, hq, h⟩ := bindO_some h
    obtain ⟨c, hc, h⟩ := bindO_some h
    have hf := (quoF_fin hc).2
    rw [polyL, poly_ok j hp, mulF_ok hq, can_one, ofInt_K, can_fin hf, quoF_ok hc, addF_ok h]
theorem log_ok {x e r : Nat} {n : Int} (he : e = ofIntK .f64 n) (h : logQ x e = some r) : logF x n = some r := by
  obtain ⟨a, ha, h⟩ := bindO_some h
  obtain ⟨b, hb, h⟩ := bindO_some h
  obtain ⟨s, hs, h⟩ := bindO_some h
  obtain ⟨u, hu, h⟩ := bindO_some h
  obtain ⟨q, hq, h⟩ := bindO_some h
  obtain ⟨m, hm, h⟩ := bindO_some h
  obtain ⟨g, hg, h⟩ := bindO_some h
  obtain ⟨l, hl, hz⟩ := bindO_some h
  have fx := (addF_fin ha).1
  have fe := (mulF_fin hl).1
  have fc := (mulF_fin hl).2
  have f2 := (mulF_fin hg).1
  rw [he] at hl fe
  clear h
  unfold logF
  dsimp only
  rw [can_fin fx, can_one, subF_ok ha, addF_ok hb, quoF_ok hs, mulF_ok hu, poly_ok 13 hq, mulF_ok hm, can_fin f2, mulF_ok hg, ofInt_K, can_fin fe, can_fin fc, mulF_ok hl, addF_ok hz]
theorem ten_ok {y r : Nat} (h : tenV y = some r) : tenF (logF (nW y) (nE y)) = some r := by
  obtain ⟨l, hl, h⟩ := bindO_some h
  obtain ⟨m, hm, h⟩ := bindO_some h
  have f1 := (mulF_fin hm).2
  have f2 := (addF_fin h).2
  unfold tenF
  rw [log_ok rfl hl, can_fin f1, mulF_ok hm, can_fin f2, addF_ok h]

/-- the greatest integer that is not greater, and 512 more -/
def flrG (s : Bool) (m g : Nat) : Nat := iteN s (Nat.sub 512 (Nat.add (Nat.div m g) (iteN (Nat.beq (Nat.mod m g) 0) 0 1))) (Nat.add 512 (Nat.div m g))
def flrC (v : Nat) : Nat := flrG (sgF .f64 v) (mgF .f64 v) (Nat.shiftLeft 1 (Nat.sub 1074 (ofF .f64 v)))
def flrB (v c : Nat) : Bool := andB (andB (finF .f64 v) (Nat.ble (ofF .f64 v) 1074)) (andB (Nat.beq (flrC v) c) (andB (Nat.ble 1 c) (Nat.ble c 1000)))
theorem cut_gap (m d : Nat) (h : d > m.log2 + 2) : m / (1 <<< min d (m.log2 + 2)) = m / (1 <<< d) ∧ m % (1 <<< min d (m.log2 + 2)) = m % (1 <<< d) := by
  rw [Nat.min_eq_right (by omega)]
  have e1 : (1 : Nat) <<< (m.log2 + 2) = 2 ^ (m.log2 + 2) := Nat.one_shiftLeft _
  have e2 : (1 : Nat) <<< d = 2 ^ d := Nat.one_shiftLeft _
  have h1 : m < 2 ^ (m.log2 + 1) := Nat.lt_log2_self
  have h2 : 2 ^ (m.log2 + 1) ≤ 2 ^ (m.log2 + 2) := Nat.pow_le_pow_right (by decide) (by omega)
  have h3 : 2 ^ (m.log2 + 1) ≤ 2 ^ d := Nat.pow_le_pow_right (by decide) (by omega)
  rw [e1, e2, Nat.div_eq_of_lt (by omega), Nat.div_eq_of_lt (by omega), Nat.mod_eq_of_lt (by omega), Nat.mod_eq_of_lt (by omega)]
  exact ⟨rfl, rfl⟩
theorem cut_down (s : Bool) (m d : Nat) : Toward.down.cut s m d = m / (1 <<< d) + (s && m % (1 <<< d) != 0).toNat := by
  unfold Toward.cut
  dsimp only
  by_cases h : d > m.log2 + 2
  · obtain ⟨h1, h2⟩ := cut_gap m d h
    rw [h1, h2]
  · rw [Nat.min_eq_left (by omega)]
theorem flr_ok {v c : Nat} (h : flrB v c = true) : (∃ s m p, FloatKind.f64.format.read v = .number s m p) ∧ floatToIntVal .f64 (floorW v) .i64 = some ((c : Int) - 512) := by
  unfold flrB at h
  rw [andB_eq, andB_eq, andB_eq, andB_eq, Bool.and_eq_true, Bool.and_eq_true, Bool.and_eq_true, Bool.and_eq_true] at h
  obtain ⟨⟨h1, h2⟩, h3, h4, h5⟩ := h
  have h2 := Nat.le_of_ble_eq_true h2
  have h3 := Nat.eq_of_beq_eq_true h3
  have h4 := Nat.le_of_ble_eq_true h4
  have h5 := Nat.le_of_ble_eq_true h5
  have hr := read_K (k := .f64) (x := v) h1
  refine ⟨⟨_, _, _, hr⟩, ?_⟩
  unfold flrC at h3
  rw [sgF_eq, mgF_eq, ofF_eq] at h3
  rw [ofF_eq] at h2
  generalize sgK .f64 v = s at *
  generalize mgK .f64 v = m at *
  generalize ofK .f64 v = o at *
  have hfl : fL .f64 = 1074 := rfl
  have hw : floorW v = N .f64 s (m / (1 <<< (1074 - o)) + (s && m % (1 <<< (1074 - o)) != 0).toNat) := by
    unfold floorW
    have hd : FloatKind.f64.decode v = .number s m (-(fL .f64 : Int) + o) := hr
    rw [hd]
    show FloatKind.f64.format.nearest s (Toward.down.cut s (m <<< (-(fL .f64 : Int) + (o : Int)).toNat) (-(-(fL .f64 : Int) + (o : Int))).toNat) 0 = _
    rw [hfl]
    rw [show (-((1074 : Nat) : Int) + (o : Int)).toNat = 0 by omega, show (-(-((1074 : Nat) : Int) + (o : Int))).toNat = 1074 - o by omega, Nat.shiftLeft_zero, cut_down]
    rfl
  have hG : Nat.shiftLeft 1 (Nat.sub 1074 o) = 1 <<< (1074 - o) := rfl
  unfold flrG at h3
  rw [iteN_eq, iteN_eq, hG] at h3
  rw [hw]
  generalize 1 <<< (1074 - o) = g at *
  have hd : Nat.div m g = m / g := rfl
  have hm : Nat.mod m g = m % g := rfl
  rw [hd, hm] at h3
  have hfb : FloatKind.f64.format.fractionBits = 52 := by decide
  have key : ∀ z : Nat, z ≤ 1000 → z.log2 ≤ FloatKind.f64.format.fractionBits := fun z hz => by
    rw [hfb]
    by_cases h0 : z = 0
    · subst h0; decide
    · have := (Nat.log2_lt h0).2 (show z < 2 ^ 10 by omega)
      omega
  cases s
  · have e : (false && m % g != 0).toNat = 0 := rfl
    have h3' : 512 + m / g = c := h3
    rw [e, Nat.add_zero, int_N .f64 false _ (key _ (by omega)) (by omega)]
    show some ((m / g : Nat) : Int) = _
    congr 1; omega
  · have e : (true && m % g != 0).toNat = (bif Nat.beq (m % g) 0 then 0 else 1) := by
      rw [beq_nat]
      unfold bne
      cases (m % g == 0) <;> rfl
    have h3' : 512 - (m / g + (bif Nat.beq (m % g) 0 then 0 else 1)) = c := h3
    rw [e]
    generalize (m / g + (bif Nat.beq (m % g) 0 then 0 else 1)) = z at *
    rw [int_N .f64 true _ (key _ (by omega)) (by omega)]
    show some (-(z : Int)) = _
    congr 1; omega

/-- t / 64 -/
def xw (t : Nat) : Nat := nearF .f32 t 143
def yw (t : Nat) : Nat := nearF .f64 t 1068
def eqO (a : Option Nat) (r : Nat) : Bool := @Option.casesOn Nat (fun _ => Bool) a false fun x => Nat.beq x r
theorem eqO_ok {a : Option Nat} {r : Nat} (h : eqO a r = true) : a = some r := by
  cases a with
  | none => cases h
  | some x => rw [Nat.eq_of_beq_eq_true h]
def widF (x : Nat) : Option Nat := iteO (finF .f32 x) (some (wordF .f64 (sgF .f32 x) (nearF .f64 (mgF .f32 x) (Nat.add (ofF .f32 x) 925)))) none
theorem widF_eq (x : Nat) : widF x = widK x := by
  unfold widF widK
  rw [iteO_eq, wordF_eq, nearF_eq, mgF_eq, ofF_eq, sgF_eq, finF_eq]
theorem widF_ok {x r : Nat} (h : eqO (widF x) r = true) (hr : finF .f64 r = true) : floatToFloatBits .f32 x .f64 = some r := wid_K (by rw [← widF_eq]; exact eqO_ok h) hr
def flrO (a : Option Nat) (c : Nat) : Bool := @Option.casesOn Nat (fun _ => Bool) a false fun v => flrB v c
/-- t / 64 has c - 512 tenths -/
def tenB (t c : Nat) : Bool := andB (andB (andB (eqO (widF (xw t)) (yw t)) (finF .f64 (yw t))) (andB (Nat.ble 3918131675812331520 (yw t)) (Nat.ble (yw t) 5188146770730811392))) (andB (andB (Nat.ble 1 (xw t)) (Nat.ble (xw t) 2139095039)) (flrO (tenV (yw t)) c))
structure TenOf (x : Nat) (n : Int) : Prop where
  fin : finB .f32 x = true
  pos : FloatKind.f32.format.order x 0 = some .gt
  all : ∃ y v, floatToFloatBits .f32 x .f64 = some y ∧ Rng y ∧ tenF (logF (nW y) (nE y)) = some v ∧ (∃ s m p, FloatKind.f64.format.read v = .number s m p) ∧ floatToIntVal .f64 (floorW v) .i64 = some n
theorem tenB_ok {t c : Nat} (h : tenB t c = true) : TenOf (xw t) ((c : Int) - 512) := by
  unfold tenB at h
  simp only [andB_eq, Bool.and_eq_true] at h
  obtain ⟨⟨⟨h1, h2⟩, h3, h4⟩, ⟨h5, h6⟩, h7⟩ := h
  have h3 := Nat.le_of_ble_eq_true h3
  have h4 := Nat.le_of_ble_eq_true h4
  have h5 := Nat.le_of_ble_eq_true h5
  have h6 := Nat.le_of_ble_eq_true h6
  generalize xw t = x at *
  generalize yw t = y at *
  refine ⟨?_, ?_, ?_⟩
  · unfold finB
    rw [sw32, inf32]
    exact decide_eq_true (by omega)
  · have hx : (finK .f32 x && finK .f32 0) = true := by
      rw [Bool.and_eq_true]
      refine ⟨blt_iff.2 ?_, by decide⟩
      show x % 2147483648 < 2139095040
      omega
    rw [ord_K hx]
    congr 1
    have hs : sgK .f32 x = false := by
      unfold sgK
      have hq : x / fS .f32 = 0 := Nat.div_eq_of_lt (by show x < 2147483648; omega)
      rw [hq]; rfl
    have hz : mgK .f32 0 = 0 := by decide
    have hz2 : sgK .f32 0 = false := by decide
    have hm : 0 < mgK .f32 x := by
      unfold mgK
      have hB : fB .f32 = 8388608 := rfl
      have hS : fS .f32 = 2147483648 := rfl
      rw [hB, hS, Nat.mod_eq_of_lt (show x < 2147483648 by omega)]
      cases Nat.blt x 8388608
      · show 0 < 8388608 + x % 8388608; omega
      · show 0 < x; omega
    unfold ordK
    dsimp only
    rw [hs, hz, hz2]
    unfold ordS
    show compare (mgK .f32 x <<< _) (0 <<< _) = .gt
    rw [Nat.zero_shiftLeft]
    have hp : 0 < mgK .f32 x <<< (ofK .f32 x - Nat.min (ofK .f32 x) (ofK .f32 0)) := by
      rw [Nat.shiftLeft_eq]; exact Nat.mul_pos hm (Nat.two_pow_pos _)
    simp only [compare, compareOfLessAndEq]
    rw [if_neg (by omega), if_neg (by omega)]
  · cases hv : tenV y with
    | none => rw [hv] at h7; cases h7
    | some v =>
      rw [hv] at h7
      obtain ⟨e1, e2⟩ := flr_ok (v := v) (c := c) h7
      exact ⟨y, v, widF_ok h1 h2, ⟨h3, h4⟩, ten_ok hv, e1, e2⟩

end Flt
end Go.Proofs.Ytebijgjdeofalaa
