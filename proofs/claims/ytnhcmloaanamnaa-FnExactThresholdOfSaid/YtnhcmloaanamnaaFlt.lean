/-
  What is proved here: floating-point operations of the model, told up to the bits of a not-a-number: each gives, whatever is drawn, a word whose 'can' (nothing for a not-a-number, else the word) is a plain function of the 'can' of its operands. No conditions but those that each theorem names. Own text; plain laws for the walks of this seat.
-/
import Derived.WalkKit
import Derived.WalkLawsBesides
import Derived.WalkSpells
import Derived.Deep.Draws
import Derived.Lib.Hide
import Derived.KernelRfl
namespace Go.Proofs.Ytnhcmloaanamnaa
namespace Flt
open Ieee

theorem inf32 : FloatKind.f32.format.infRung = 2139095040 := by decide
theorem inf64 : FloatKind.f64.format.infRung = 9218868437227405312 := by decide
theorem sw32 : FloatKind.f32.format.signWeight = 2147483648 := by decide
theorem sw64 : FloatKind.f64.format.signWeight = 9223372036854775808 := by decide
theorem bi32 : FloatKind.f32.format.binade = 8388608 := by decide
theorem bi64 : FloatKind.f64.format.binade = 4503599627370496 := by decide
theorem binade_le (k : FloatKind) : k.format.binade ≤ k.format.infRung := by cases k <;> decide
theorem inf_lt (k : FloatKind) : k.format.infRung < k.format.signWeight := k.format.infRung_lt

/-- the word is a not-a-number -/
def nanW (k : FloatKind) (b : Nat) : Bool := (k.format.read b).isNaN
/-- the word, all not-a-numbers as one -/
def can (k : FloatKind) (b : Nat) : Option Nat := if nanW k b = true then none else some b

theorem mod_word (f : Format) (neg : Bool) {rung : Nat} (h : rung < f.signWeight) : f.word neg rung % f.signWeight = rung := by
  unfold Format.word; split
  · rw [Nat.add_mod_left, Nat.mod_eq_of_lt h]
  · exact Nat.mod_eq_of_lt h

theorem nanW_of_le {k : FloatKind} {w : Nat} (h : w % k.format.signWeight ≤ k.format.infRung) : nanW k w = false := by
  unfold nanW Format.read
  dsimp only
  split
  · rfl
  · split
    · rfl
    · split
      · rfl
      · rename_i h1 h2 h3
        exact absurd (Nat.le_antisymm h (Nat.le_of_not_lt h2)) h3

theorem nanW_of_lt {k : FloatKind} {w : Nat} (h : k.format.infRung < w % k.format.signWeight) : nanW k w = true := by
  have hb := binade_le k
  unfold nanW Format.read
  dsimp only
  rw [if_neg (by omega), if_neg (by omega), if_neg (by omega)]
  rfl

theorem nanW_iff (k : FloatKind) (w : Nat) : nanW k w = true ↔ k.format.infRung < w % k.format.signWeight := by
  constructor
  · intro h
    by_cases hc : k.format.infRung < w % k.format.signWeight
    · exact hc
    · rw [nanW_of_le (Nat.le_of_not_lt hc)] at h; cases h
  · exact nanW_of_lt

theorem nearest_mod_le (k : FloatKind) (neg : Bool) (mag : Nat) (place : Int) : k.format.nearest neg mag place % k.format.signWeight ≤ k.format.infRung := by
  unfold Format.nearest
  dsimp only
  split
  · rw [mod_word _ _ (Nat.two_pow_pos _)]; exact Nat.zero_le _
  · rw [mod_word _ _ (Nat.lt_of_le_of_lt (Nat.min_le_right ..) (inf_lt k))]; exact Nat.min_le_right ..

theorem nanW_write (k : FloatKind) {d : Datum} (h : d.isNaN = false) : nanW k (k.format.write d) = false := by
  refine nanW_of_le ?_
  cases d with
  | number s m e => exact nearest_mod_le k s m e
  | infinity s => show k.format.word s k.format.infRung % _ ≤ _; rw [mod_word _ _ (inf_lt k)]; exact Nat.le_refl _
  | nan s t => cases h

theorem can_nan {k : FloatKind} {w : Nat} (h : nanW k w = true) : can k w = none := by simp [can, h]
theorem can_num {k : FloatKind} {w : Nat} (h : nanW k w = false) : can k w = some w := by simp [can, h]
theorem can_eq_none {k : FloatKind} {w : Nat} (h : can k w = none) : nanW k w = true := by
  unfold can at h; split at h
  · assumption
  · cases h
theorem can_eq_some {k : FloatKind} {w r : Nat} (h : can k w = some r) : nanW k w = false ∧ w = r := by
  unfold can at h; split at h
  · cases h
  · rename_i hn; exact ⟨by cases hb : nanW k w <;> simp_all, by simpa using h⟩

theorem nan_cut (k : FloatKind) (x y t : Nat) : nanW k ((Question.nanBits k x y).cut t) = true := by
  refine nanW_of_lt ?_
  cases k
  · rw [inf32, sw32]; simp only [Question.cut]; have := Nat.mod_lt (t / 2) (show 0 < 2 ^ 23 - 1 by decide)
    rcases Nat.mod_two_eq_zero_or_one t with h | h <;> rw [h] <;> omega
  · rw [inf64, sw64]; simp only [Question.cut]; have := Nat.mod_lt (t / 2) (show 0 < 2 ^ 52 - 1 by decide)
    rcases Nat.mod_two_eq_zero_or_one t with h | h <;> rw [h] <;> omega

theorem nanConv_cut (k : FloatKind) (x t : Nat) : nanW k ((Question.nanConv k x).cut t) = true := by
  have h := nan_cut k x x t
  cases k <;> exact h

theorem cut_wf (k : FloatKind) (x y t : Nat) : (Question.nanBits k x y).cut t < 2 ^ k.format.width := by
  cases k
  · show _ < 2 ^ 32; simp only [Question.cut]; have := Nat.mod_lt (t / 2) (show 0 < 2 ^ 23 - 1 by decide); omega
  · show _ < 2 ^ 64; simp only [Question.cut]; have := Nat.mod_lt (t / 2) (show 0 < 2 ^ 52 - 1 by decide); omega

/-! '+', '-', '*', '/' -/
def fop (op : BinOp) (k : FloatKind) (a b : Option Nat) : Option Nat := a.bind fun x => b.bind fun y => floatBits op k x y

theorem sum_nan_left {a b : Datum} (h : a.isNaN = true) : a.sum b = none := by cases a <;> simp_all [Datum.isNaN, Datum.sum]
theorem sum_nan_right {a b : Datum} (h : b.isNaN = true) : a.sum b = none := by cases b <;> cases a <;> simp_all [Datum.isNaN, Datum.sum]
theorem product_nan_left {a b : Datum} (h : a.isNaN = true) : a.product b = none := by cases a <;> simp_all [Datum.isNaN, Datum.product]
theorem product_nan_right {a b : Datum} (h : b.isNaN = true) : a.product b = none := by cases b <;> cases a <;> simp_all [Datum.isNaN, Datum.product]
theorem quotient_nan_left {n : Nat} {a b : Datum} (h : a.isNaN = true) : a.quotient n b = none := by cases a <;> simp_all [Datum.isNaN, Datum.quotient]
theorem quotient_nan_right {n : Nat} {a b : Datum} (h : b.isNaN = true) : a.quotient n b = none := by cases b <;> cases a <;> simp_all [Datum.isNaN, Datum.quotient]
theorem opposite_nan {a : Datum} : a.opposite.isNaN = a.isNaN := by cases a <;> rfl

theorem floatBits_nan_left {op : BinOp} {k : FloatKind} {x y : Nat} (h : nanW k x = true) : floatBits op k x y = none := by
  unfold floatBits
  split
  · simp [Format.add, sum_nan_left h]
  · simp [Format.sub, sum_nan_left h]
  · simp [Format.mul, product_nan_left h]
  · simp [Format.div, quotient_nan_left h]
  · rfl
theorem floatBits_nan_right {op : BinOp} {k : FloatKind} {x y : Nat} (h : nanW k y = true) : floatBits op k x y = none := by
  unfold floatBits
  split
  · simp [Format.add, sum_nan_right h]
  · simp [Format.sub, sum_nan_right (opposite_nan.trans h)]
  · simp [Format.mul, product_nan_right h]
  · simp [Format.div, quotient_nan_right h]
  · rfl

theorem fop_can (op : BinOp) (k : FloatKind) (x y : Nat) : fop op k (can k x) (can k y) = floatBits op k x y := by
  unfold fop
  by_cases hx : nanW k x = true
  · rw [can_nan hx, floatBits_nan_left hx]; rfl
  · rw [can_num (by simpa using hx)]
    by_cases hy : nanW k y = true
    · rw [can_nan hy, floatBits_nan_right hy]; rfl
    · rw [can_num (by simpa using hy)]; rfl

theorem map_write_num {k : FloatKind} {d : Option Datum} {r : Nat} (hd : ∀ e, d = some e → e.isNaN = false) (h : d.map k.format.write = some r) : nanW k r = false := by
  cases d with
  | none => cases h
  | some e => cases h; exact nanW_write k (hd e rfl)

theorem sum_num {a b e : Datum} (h : a.sum b = some e) : e.isNaN = false := by
  cases a <;> cases b <;> simp [Datum.sum] at h <;> first | (subst h; rfl) | (obtain ⟨_, rfl⟩ := h; rfl)
theorem product_num {a b e : Datum} (h : a.product b = some e) : e.isNaN = false := by
  cases a <;> cases b <;> simp [Datum.product] at h <;> first | (subst h; rfl) | (obtain ⟨_, rfl⟩ := h; rfl)
theorem quotient_num {n : Nat} {a b e : Datum} (h : a.quotient n b = some e) : e.isNaN = false := by
  cases a <;> cases b <;> simp only [Datum.quotient] at h <;> (try cases h) <;> (try rfl)
  split at h
  · split at h <;> cases h; rfl
  · cases h; rfl
theorem root_num {n : Nat} {a e : Datum} (h : a.root n = some e) : e.isNaN = false := by
  cases a <;> simp only [Datum.root] at h <;> (try cases h) <;> (try rfl)
  · split at h
    · cases h; rfl
    · split at h
      · cases h
      · cases h; rfl
  · split at h <;> cases h; rfl

theorem floatBits_num {op : BinOp} {k : FloatKind} {x y r : Nat} (h : floatBits op k x y = some r) : nanW k r = false := by
  unfold floatBits at h
  split at h
  · exact map_write_num (fun e he => sum_num he) h
  · exact map_write_num (fun e he => sum_num he) h
  · exact map_write_num (fun e he => product_num he) h
  · exact map_write_num (fun e he => quotient_num he) h
  · cases h

def arith (op : BinOp) : Bool := match op with | .add | .sub | .mul | .quo => true | _ => false

/-- ONE OPERATION: whatever is drawn. -/
theorem run_bin {P : Program} {op : BinOp} (hop : arith op = true) (t : TypeId) (k : FloatKind) (x y : Nat) (w : World) :
    ∃ r n, (binOp op t (.float k x) (.float k y)).run P w = .ok (.float k r) (w.drewN n) ∧ can k r = fop op k (can k x) (can k y) ∧ r < 2 ^ k.format.width := by
  cases h : floatBits op k x y with
  | some r =>
    refine ⟨r, 0, run_float_arith w op t k x y r h, ?_, ?_⟩
    · rw [fop_can, h, can_num (floatBits_num h)]
    · have := floatBits_wf h
      cases k
      · show r < 2 ^ 32; simpa [Lit.wf] using this
      · show r < 2 ^ 64; simpa [Lit.wf] using this
  | none =>
    refine ⟨(Question.nanBits k x y).cut (w.tape w.drawn (.nanBits k x y)), 1, ?_, ?_, cut_wf k x y _⟩
    · unfold floatBits at h
      cases op <;> simp only [arith] at hop <;> first | (cases hop; done) | skip
      all_goals simp only at h; simp [binOp, Op.floatArith, h, Question.forced, World.drew_is_drewN]
    · rw [fop_can, h, can_nan (nan_cut k x y _)]

/-! comparisons -/
def ford (k : FloatKind) (a b : Option Nat) : Option Ordering := a.bind fun x => b.bind fun y => k.format.order x y

theorem order_nan_left {a b : Datum} (h : a.isNaN = true) : a.order b = none := by cases a <;> simp_all [Datum.isNaN, Datum.order]
theorem order_nan_right {a b : Datum} (h : b.isNaN = true) : a.order b = none := by cases b <;> cases a <;> simp_all [Datum.isNaN, Datum.order]

theorem ford_can (k : FloatKind) (x y : Nat) : k.format.order x y = ford k (can k x) (can k y) := by
  unfold ford
  by_cases hx : nanW k x = true
  · rw [can_nan hx]; exact order_nan_left hx
  · rw [can_num (by simpa using hx)]
    by_cases hy : nanW k y = true
    · rw [can_nan hy]; exact order_nan_right hy
    · rw [can_num (by simpa using hy)]; rfl

theorem signed_false (m n : Nat) : signed false m n = ((m <<< n : Nat) : Int) := rfl

theorem order_self {k : FloatKind} {x : Nat} (h : nanW k x = false) : k.format.order x x = some .eq := by
  unfold Format.order
  unfold nanW at h
  cases hd : k.format.read x with
  | number s m i => simp [Datum.order]
  | infinity s => simp [Datum.order]
  | nan s t => rw [hd] at h; cases h

/-- 'x != x' -/
theorem self_ne (k : FloatKind) (x : Nat) : (k.format.order x x != some .eq) = nanW k x := by
  cases h : nanW k x with
  | false => rw [order_self h]; rfl
  | true => rw [show k.format.order x x = none from order_nan_left h]; rfl
theorem self_eq (k : FloatKind) (x : Nat) : (k.format.order x x == some .eq) = !nanW k x := by
  cases h : nanW k x with
  | false => rw [order_self h]; rfl
  | true => rw [show k.format.order x x = none from order_nan_left h]; rfl

/-! conversions -/
theorem cut_even_le (neg : Bool) (n drop : Nat) : Toward.even.cut neg n drop ≤ n / (1 <<< min drop (n.log2 + 2)) + 1 := by
  unfold Toward.cut
  dsimp only
  have : (decide ((1 <<< min drop (n.log2 + 2)) < 2 * (n % (1 <<< min drop (n.log2 + 2)))) || ((1 <<< min drop (n.log2 + 2)) == 2 * (n % (1 <<< min drop (n.log2 + 2))) && n / (1 <<< min drop (n.log2 + 2)) % 2 == 1)).toNat ≤ 1 := Bool.toNat_le _
  omega

theorem cut_zero (neg : Bool) (n : Nat) : Toward.even.cut neg n 0 = n := by
  unfold Toward.cut
  simp [Nat.mod_one]

/-- what is kept has at most one digit more than the fraction -/
theorem kept_le (mag : Nat) (neg : Bool) (fb : Nat) (place last : Int) (h : place + mag.log2 - fb ≤ last) :
    Toward.even.cut neg (mag <<< (place - last).toNat) (last - place).toNat ≤ 2 ^ (fb + 1) := by
  by_cases hp : last ≤ place
  · have hz : (last - place).toNat = 0 := by omega
    rw [hz, cut_zero, Nat.shiftLeft_eq]
    have hm : mag < 2 ^ (mag.log2 + 1) := Nat.lt_log2_self
    obtain ⟨d, hd⟩ : ∃ d : Nat, (place - last).toNat = d := ⟨_, rfl⟩
    have hle : d + mag.log2 ≤ fb := by omega
    rw [hd]
    calc mag * 2 ^ d ≤ 2 ^ (mag.log2 + 1) * 2 ^ d := Nat.mul_le_mul_right _ (Nat.le_of_lt hm)
      _ = 2 ^ (mag.log2 + 1 + d) := (Nat.pow_add ..).symm
      _ ≤ 2 ^ (fb + 1) := Nat.pow_le_pow_right (by decide) (by omega)
  · have hz : (place - last).toNat = 0 := by omega
    rw [hz, Nat.shiftLeft_zero]
    have hc := cut_even_le neg mag (last - place).toNat
    have hm : mag < 2 ^ (mag.log2 + 1) := Nat.lt_log2_self
    obtain ⟨d, hd⟩ : ∃ d : Nat, (last - place).toNat = d := ⟨_, rfl⟩
    rw [hd] at hc ⊢
    have hle : mag.log2 ≤ fb + d := by omega
    have hd1 : 1 ≤ d := by omega
    rw [Nat.shiftLeft_eq, Nat.one_mul] at hc
    have hq : mag / 2 ^ min d (mag.log2 + 2) < 2 ^ (fb + 1) := by
      rw [Nat.div_lt_iff_lt_mul (Nat.two_pow_pos _), ← Nat.pow_add]
      refine Nat.lt_of_lt_of_le hm (Nat.pow_le_pow_right (by decide) ?_)
      by_cases hx : d ≤ mag.log2 + 2
      · rw [Nat.min_eq_left hx]; omega
      · rw [Nat.min_eq_right (by omega)]; omega
    omega

theorem cut_pos (neg : Bool) (n : Nat) : 0 ≤ Toward.even.cut neg n 0 := Nat.zero_le _

/-- a number less than 2 ^ (T + 1) has a rung of at most .. -/
theorem nearest_rung (k : FloatKind) (neg : Bool) (mag : Nat) (place : Int) (N : Nat) (h : mag = 0 ∨ place + mag.log2 + 2 ≤ k.format.fractionBits + k.format.leastPlace + N) (hN : 2 ≤ N) :
    k.format.nearest neg mag place % k.format.signWeight ≤ N * k.format.binade := by
  unfold Format.nearest
  dsimp only
  split
  · rw [mod_word _ _ (Nat.two_pow_pos _)]; exact Nat.zero_le _
  · rename_i hm
    have h := h.resolve_left hm
    rw [mod_word _ _ (Nat.lt_of_le_of_lt (Nat.min_le_right ..) (inf_lt k))]
    refine Nat.le_trans (Nat.min_le_left ..) ?_
    have hk := kept_le mag neg k.format.fractionBits place (max (place + mag.log2 - k.format.fractionBits) k.format.leastPlace) (Int.le_max_left ..)
    have hb : 2 ^ (k.format.fractionBits + 1) = 2 * k.format.binade := by rw [Nat.pow_succ, Nat.mul_comm]; rfl
    rw [hb] at hk
    have hl : (max (place + mag.log2 - k.format.fractionBits) k.format.leastPlace - k.format.leastPlace).toNat + 2 ≤ N := by
      by_cases hx : place + mag.log2 - k.format.fractionBits ≤ k.format.leastPlace
      · rw [Int.max_eq_right hx]; omega
      · rw [Int.max_eq_left (by omega)]; omega
    calc _ ≤ (max (place + mag.log2 - k.format.fractionBits) k.format.leastPlace - k.format.leastPlace).toNat * k.format.binade + 2 * k.format.binade := Nat.add_le_add_left hk _
      _ = ((max (place + mag.log2 - k.format.fractionBits) k.format.leastPlace - k.format.leastPlace).toNat + 2) * k.format.binade := (Nat.add_mul ..).symm
      _ ≤ _ := Nat.mul_le_mul_right _ hl

theorem inf_eq (k : FloatKind) : k.format.infRung = (2 ^ k.format.exponentBits - 1) * k.format.binade := rfl

/-- a word whose rung is less than infinity's is a number -/
theorem read_number {k : FloatKind} {w : Nat} (h : w % k.format.signWeight < k.format.infRung) : ∃ m e, k.format.read w = .number (w / k.format.signWeight % 2 == 1) m e ∧
    (m = 0 ∨ ∀ N, 1 ≤ N → w % k.format.signWeight ≤ N * k.format.binade → e + m.log2 + 1 ≤ k.format.fractionBits + k.format.leastPlace + N) := by
  have hbp : 0 < k.format.binade := Nat.two_pow_pos _
  unfold Format.read
  dsimp only
  by_cases h1 : w % k.format.signWeight < k.format.binade
  · rw [if_pos h1]
    refine ⟨_, _, rfl, ?_⟩
    by_cases hm : w % k.format.signWeight = 0
    · exact .inl hm
    · right
      intro N hN _
      have : (w % k.format.signWeight).log2 < k.format.fractionBits := (Nat.log2_lt hm).2 h1
      omega
  · rw [if_neg h1, if_pos h]
    refine ⟨_, _, rfl, .inr ?_⟩
    intro N hN hle
    have hml : w % k.format.signWeight % k.format.binade < k.format.binade := Nat.mod_lt _ hbp
    have hlog : (k.format.binade + w % k.format.signWeight % k.format.binade).log2 ≤ k.format.fractionBits := by
      have : (k.format.binade + w % k.format.signWeight % k.format.binade).log2 < k.format.fractionBits + 1 := by
        refine (Nat.log2_lt (by omega)).2 ?_
        rw [Nat.pow_succ]
        show _ < k.format.binade * 2
        omega
      omega
    have hq : 1 ≤ w % k.format.signWeight / k.format.binade := (Nat.le_div_iff_mul_le hbp).2 (by omega)
    have hqN : w % k.format.signWeight / k.format.binade ≤ N := Nat.div_le_of_le_mul (by rw [Nat.mul_comm]; exact hle)
    omega

def wid (a : Option Nat) : Option Nat := a.bind fun x => floatToFloatBits .f32 x .f64
def nar (a : Option Nat) : Option Nat := a.bind fun x => floatToFloatBits .f64 x .f32

/-- the size of a word: at most that of the number with the exponent field N and no fraction -/
def Sm (k : FloatKind) (N w : Nat) : Prop := w % k.format.signWeight ≤ N * k.format.binade

theorem encode_number (k : FloatKind) (s : Bool) (m : Nat) (e : Int) : k.encode (.number s m e) = k.format.nearest s m e := rfl

theorem isInf_read {k : FloatKind} {w : Nat} (h : w % k.format.signWeight < k.format.infRung) : (k.decode w).isInfinity = false := by
  obtain ⟨m, e, hr, _⟩ := read_number h
  show (k.format.read w).isInfinity = false
  rw [hr]; rfl

theorem fb32 : (FloatKind.f32.format.fractionBits : Int) + FloatKind.f32.format.leastPlace = -126 := by decide
theorem fb64 : (FloatKind.f64.format.fractionBits : Int) + FloatKind.f64.format.leastPlace = -1022 := by decide

/-- a finite 32-bit number, widened -/
theorem widen_finite {x : Nat} (h : x % FloatKind.f32.format.signWeight < FloatKind.f32.format.infRung) :
    ∃ r, floatToFloatBits .f32 x .f64 = some r ∧ Sm .f64 1152 r ∧ nanW .f64 r = false := by
  obtain ⟨m, e, hr, hb⟩ := read_number h
  have hrung : FloatKind.f64.format.nearest (x / FloatKind.f32.format.signWeight % 2 == 1) m e % FloatKind.f64.format.signWeight ≤ 1152 * FloatKind.f64.format.binade := by
    refine nearest_rung .f64 _ m e 1152 ?_ (by decide)
    rcases hb with h0 | hb
    · exact .inl h0
    · right
      have := hb 255 (by decide) (by rw [bi32]; rw [inf32] at h; omega)
      rw [fb32] at this; rw [fb64]; omega
  refine ⟨FloatKind.f64.format.nearest (x / FloatKind.f32.format.signWeight % 2 == 1) m e, ?_, hrung, nanW_of_le (nearest_mod_le .f64 _ m e)⟩
  unfold floatToFloatBits
  rw [if_neg (by decide)]
  have hd : FloatKind.f32.decode x = .number (x / FloatKind.f32.format.signWeight % 2 == 1) m e := hr
  rw [hd]
  dsimp only
  rw [if_neg]
  · rfl
  · rw [encode_number, isInf_read]
    · decide
    · refine Nat.lt_of_le_of_lt hrung ?_
      rw [bi64, inf64]; decide

theorem read_inf {k : FloatKind} {w : Nat} (h : w % k.format.signWeight = k.format.infRung) : k.format.read w = .infinity (w / k.format.signWeight % 2 == 1) := by
  have := binade_le k
  unfold Format.read
  dsimp only
  rw [if_neg (by omega), if_neg (by omega), if_pos h]

theorem widen_inf {x : Nat} (h : x % FloatKind.f32.format.signWeight = FloatKind.f32.format.infRung) :
    floatToFloatBits .f32 x .f64 = some (FloatKind.f64.format.word (x / FloatKind.f32.format.signWeight % 2 == 1) FloatKind.f64.format.infRung) := by
  unfold floatToFloatBits
  rw [if_neg (by decide)]
  have hd : FloatKind.f32.decode x = .infinity _ := read_inf h
  rw [hd]
  rfl

theorem widen_nan {x : Nat} (h : nanW .f32 x = true) : floatToFloatBits .f32 x .f64 = none := by
  unfold floatToFloatBits
  rw [if_neg (by decide)]
  unfold nanW at h
  show (match FloatKind.f32.format.read x with | .nan _ _ => none | .infinity s => _ | .number s m e => _) = none
  cases hd : FloatKind.f32.format.read x <;> rw [hd] at h <;> first | (cases h; done) | rfl

theorem nan_decode {k : FloatKind} {w : Nat} (h : nanW k w = true) : ∃ s t, k.decode w = .nan s t := by
  unfold nanW at h
  show ∃ s t, k.format.read w = .nan s t
  cases hd : k.format.read w <;> rw [hd] at h <;> first | (cases h; done) | exact ⟨_, _, rfl⟩

/-- a word of its kind -/
structure WF (k : FloatKind) (x : Nat) : Prop where
  lt : x < 2 ^ k.format.width
theorem WF.lt32 {x : Nat} (h : WF .f32 x) : x < 2 ^ 32 := h.lt
theorem WF.lt64 {x : Nat} (h : WF .f64 x) : x < 2 ^ 64 := h.lt

theorem wf32 {x : Nat} (h : (Lit.float .f32 x).wf = true) : WF .f32 x := ⟨by have h : x < 2 ^ 32 := by simpa [Lit.wf] using h
                                                                             exact h⟩
theorem wf64 {x : Nat} (h : (Lit.float .f64 x).wf = true) : WF .f64 x := ⟨by have h : x < 2 ^ 64 := by simpa [Lit.wf] using h
                                                                             exact h⟩

theorem conv_wf {s k : FloatKind} (hsk : s ≠ k) {v r : Nat} (h : floatToFloatBits s v k = some r) : WF k r := by
  unfold floatToFloatBits at h
  rw [if_neg hsk] at h
  split at h
  · cases h
  · cases h; exact ⟨k.format.write_lt _⟩
  · split at h
    · cases h
    · cases h; exact ⟨k.format.write_lt _⟩

theorem run_conv_nan {P : Program} {src dst : TypeId} {s k : FloatKind} (hsk : s ≠ k) {b : Nat} (hs : (P.underlying src).isSome = true) (hd : P.underlying dst = some (.float k)) (h : nanW s b = true) (w : World) :
    ∃ r, (convert src dst (.float s b)).run P w = .ok (.float k r) (w.drewN 1) ∧ nanW k r = true ∧ WF k r := by
  obtain ⟨u, hs'⟩ := Option.isSome_iff_exists.1 hs
  obtain ⟨sg, t, hn⟩ := nan_decode h
  refine ⟨(Question.nanConv k b).cut (w.tape w.drawn (.nanConv k b)), ?_, nanConv_cut k b _, ⟨by have h := cut_wf k b b (w.tape w.drawn (.nanConv k b)); cases k <;> exact h⟩⟩
  cases u <;> simp [convert, run_underlying hs', run_underlying hd, Conv.floatToFloat, hsk, hn, Question.forced, World.drew_is_drewN]

/-- 'float64(x)', whatever is drawn -/
theorem run_wid {P : Program} {src dst : TypeId} (hs : (P.underlying src).isSome = true) (hd : P.underlying dst = some (.float .f64)) (x : Nat) (w : World) :
    ∃ r n, (convert src dst (.float .f32 x)).run P w = .ok (.float .f64 r) (w.drewN n) ∧ can .f64 r = wid (can .f32 x) ∧ WF .f64 r := by
  by_cases hn : nanW .f32 x = true
  · obtain ⟨r, hr, hrn, hl⟩ := run_conv_nan (by decide) hs hd hn w
    exact ⟨r, 1, hr, by rw [can_nan hn, can_nan hrn]; rfl, hl⟩
  · have hn' : nanW .f32 x = false := by simpa using hn
    have hle : x % FloatKind.f32.format.signWeight ≤ FloatKind.f32.format.infRung := Nat.le_of_not_lt fun hc => hn (nanW_of_lt hc)
    rcases Nat.lt_or_eq_of_le hle with hlt | heq
    · obtain ⟨r, hr, _, hrn⟩ := widen_finite hlt
      exact ⟨r, 0, run_convert_float_float w src dst .f32 .f64 x r hs hd hr, by rw [can_num hn', can_num hrn]; exact hr.symm, conv_wf (by decide) hr⟩
    · have hr := widen_inf heq
      refine ⟨_, 0, run_convert_float_float w src dst .f32 .f64 x _ hs hd hr, ?_, conv_wf (by decide) hr⟩
      rw [can_num hn', can_num]
      · exact hr.symm
      · refine nanW_of_le ?_
        rw [mod_word _ _ (inf_lt _)]; exact Nat.le_refl _

/-- a 64-bit number that narrows without passing the greatest -/
def okNar (a : Option Nat) : Prop := ∀ v, a = some v → ∃ r, floatToFloatBits .f64 v .f32 = some r

theorem conv_num {s k : FloatKind} (hsk : s ≠ k) {v r : Nat} (h : floatToFloatBits s v k = some r) : nanW k r = false := by
  unfold floatToFloatBits at h
  rw [if_neg hsk] at h
  split at h
  · cases h
  · cases h; exact nanW_write k rfl
  · split at h
    · cases h
    · cases h; exact nanW_write k rfl

theorem run_nar {P : Program} {src dst : TypeId} (hs : (P.underlying src).isSome = true) (hd : P.underlying dst = some (.float .f32)) (x : Nat) (hok : okNar (can .f64 x)) (w : World) :
    ∃ r n, (convert src dst (.float .f64 x)).run P w = .ok (.float .f32 r) (w.drewN n) ∧ can .f32 r = nar (can .f64 x) ∧ WF .f32 r := by
  by_cases hn : nanW .f64 x = true
  · obtain ⟨r, hr, hrn, hl⟩ := run_conv_nan (by decide) hs hd hn w
    exact ⟨r, 1, hr, by rw [can_nan hn, can_nan hrn]; rfl, hl⟩
  · have hn' : nanW .f64 x = false := by simpa using hn
    obtain ⟨r, hr⟩ := hok x (can_num hn')
    exact ⟨r, 0, run_convert_float_float w src dst .f64 .f32 x r hs hd hr, by rw [can_num hn', can_num (conv_num (by decide) hr)]; exact hr.symm, conv_wf (by decide) hr⟩

/-- the sign turned -/
def fneg (k : FloatKind) (a : Option Nat) : Option Nat := a.map (Op.negFloat k)
theorem neg_mod (k : FloatKind) (b : Nat) : Op.negFloat k b % k.format.signWeight = b % k.format.signWeight := by
  show (b ^^^ 2 ^ (k.format.exponentBits + k.format.fractionBits)) % 2 ^ (k.format.exponentBits + k.format.fractionBits) = _
  rw [Nat.xor_mod_two_pow, Nat.mod_self, Nat.xor_zero]; rfl
theorem can_neg (k : FloatKind) (b : Nat) : can k (Op.negFloat k b) = fneg k (can k b) := by
  have h : nanW k (Op.negFloat k b) = nanW k b := by
    rw [Bool.eq_iff_iff, nanW_iff, nanW_iff, neg_mod]
  unfold can fneg
  rw [h]
  split <;> rfl

/-- what a function of numbers gives: a word whose 'can' is c -/
def FPost (k : FloatKind) (c : Option Nat) (w : World) (e : Ending) (w' : World) : Prop := ∃ g n, e = .returned (.float k g) ∧ w' = w.drewN n ∧ RowKit.Hid (can k g = c) ∧ WF k g

theorem fpost {k : FloatKind} {c : Option Nat} {w : World} {g n : Nat} (h : can k g = c) (hw : WF k g) : FPost k c w (.returned (.float k g)) (w.drewN n) := ⟨g, n, rfl, rfl, h, hw⟩
theorem fpost0 {k : FloatKind} {c : Option Nat} {w : World} {g : Nat} (h : can k g = c) (hw : WF k g) : FPost k c w (.returned (.float k g)) w := ⟨g, 0, rfl, rfl, h, hw⟩

theorem wid_eq2 {g v a b : Nat} {c : Option Nat} (h1 : RowKit.Hid (can .f64 a = wid (can .f32 g))) (h2 : RowKit.Hid (can .f64 b = wid (can .f32 v))) (h3 : RowKit.Hid (can .f32 g = c)) (h4 : RowKit.Hid (can .f32 v = c)) : can .f64 a = can .f64 b := by
  rw [h1.out, h2.out, h3.out, h4.out]

/-! the arms of a walk -/
section
variable {P : Program} {o : Oper} {a : Act} {K : Act → World → Prop} {Q : Exit → Act → World → Prop}
theorem upon_bin {op : BinOp} {t : TypeId} {k : FloatKind} {x y : Nat} {w : World} {f : Value → World → Result Next} (hop : arith op = true)
    (h : ∀ r n, WF k r → RowKit.Hid (can k r = fop op k (can k x) (can k y)) → Oper.upon P o a K Q (f (.float k r) (w.drewN n))) :
    Oper.upon P o a K Q ((Sem.run P (binOp op t (.float k x) (.float k y)) w).andThen f) := by
  obtain ⟨r, n, hr, hc, hl⟩ := run_bin (P := P) hop t k x y w
  rw [hr]
  exact h r n ⟨hl⟩ hc
theorem upon_wid {s d : TypeId} {x : Nat} {w : World} {f : Value → World → Result Next} (hs : (P.underlying s).isSome = true) (hd : P.underlying d = some (.float .f64))
    (h : ∀ r n, WF .f64 r → RowKit.Hid (can .f64 r = wid (can .f32 x)) → Oper.upon P o a K Q (f (.float .f64 r) (w.drewN n))) :
    Oper.upon P o a K Q ((Sem.run P (convert s d (.float .f32 x)) w).andThen f) := by
  obtain ⟨r, n, hr, hc, hl⟩ := run_wid (P := P) hs hd x w
  rw [hr]
  exact h r n hl hc
theorem upon_nar {s d : TypeId} {x : Nat} {w : World} {f : Value → World → Result Next} (hs : (P.underlying s).isSome = true) (hd : P.underlying d = some (.float .f32)) (hok : okNar (can .f64 x))
    (h : ∀ r n, WF .f32 r → RowKit.Hid (can .f32 r = nar (can .f64 x)) → Oper.upon P o a K Q (f (.float .f32 r) (w.drewN n))) :
    Oper.upon P o a K Q ((Sem.run P (convert s d (.float .f64 x)) w).andThen f) := by
  obtain ⟨r, n, hr, hc, hl⟩ := run_nar (P := P) hs hd x hok w
  rw [hr]
  exact h r n hl hc
end

end Flt
end Go.Proofs.Ytnhcmloaanamnaa
