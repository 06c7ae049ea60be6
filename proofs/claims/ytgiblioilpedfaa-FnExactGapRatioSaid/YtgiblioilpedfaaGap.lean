/-
  What is proved here: the quotient of GapRatio is a finite number, whatever the masses. Conditions: 1 to 256 masses, from 0 to 1000000, one of them at least 1. Own text.
-/
import Derived.Test.YtgiblioilpedfaaRnd
import Derived.Test.YtgiblioilpedfaaMeg
namespace Go.Proofs.Ytgiblioilpedfaa
namespace Flt
open Ieee

/-- a positive number between 2 ^ F and 2 ^ E -/
def Rg (E F : Int) (x : Nat) : Prop := ∃ m p, FloatKind.f32.format.read x = .number false m p ∧ LeP m p E ∧ GeP m p F
theorem GeP.mul {m n : Nat} {p q E F : Int} (h : GeP m p E) (g : GeP n q F) : GeP (m * n) (p + q) (E + F) := by
  obtain ⟨c, h1, h2, h3⟩ := h
  obtain ⟨d, g1, g2, g3⟩ := g
  refine ⟨c + d, by omega, by omega, ?_⟩
  rw [show (p + q + ((c + d : Nat) : Int)).toNat = (p + c).toNat + (q + d).toNat by omega, show (E + F + ((c + d : Nat) : Int)).toNat = (E + c).toNat + (F + d).toNat by omega, Nat.pow_add, Nat.pow_add]
  calc _ ≤ (m * 2 ^ (p + ↑c).toNat) * (n * 2 ^ (q + ↑d).toNat) := Nat.mul_le_mul h3 g3
    _ = _ := by rw [Nat.mul_mul_mul_comm]
theorem quot_GeP {m n : Nat} {i j E F : Int} (h : GeP m i E) (g : LeP n j F) (hn : n ≠ 0) (B : Nat) (hB : 1 ≤ B) (more : Nat) (hmore : more = B + n.log2 - m.log2) :
    GeP (2 * (m <<< more / n) + (m <<< more % n != 0).toNat) (i - j - more - 1) (E - F) := by
  obtain ⟨c, h1, h2, h3⟩ := h
  obtain ⟨d, g1, g2, g3⟩ := g
  have hm : m ≠ 0 := by rintro rfl; rw [Nat.zero_mul] at h3; have := Nat.two_pow_pos (E + c).toNat; omega
  have hnp : 0 < n := by omega
  rw [Nat.shiftLeft_eq]
  have hDn : n ≤ m * 2 ^ more := by
    have hm1 := Nat.log2_self_le hm
    have hn1 : n < 2 ^ (n.log2 + 1) := Nat.lt_log2_self
    by_cases hc : m.log2 ≤ B + n.log2
    · have : 2 ^ (m.log2 + more) ≤ m * 2 ^ more := by rw [Nat.pow_add]; exact Nat.mul_le_mul_right _ hm1
      have h5 : 2 ^ (n.log2 + 1) ≤ 2 ^ (m.log2 + more) := Nat.pow_le_pow_right (by decide) (by omega)
      omega
    · have h5 : 2 ^ (n.log2 + 1) ≤ 2 ^ m.log2 := Nat.pow_le_pow_right (by decide) (by omega)
      have : m ≤ m * 2 ^ more := Nat.le_mul_of_pos_right _ (Nat.two_pow_pos _)
      omega
  have key : n * 2 ^ ((j + d).toNat + (E + c).toNat + more) ≤ m * 2 ^ more * 2 ^ ((F + d).toNat + (i + c).toNat) := by
    have := Nat.mul_le_mul g3 h3
    have := Nat.mul_le_mul_right (2 ^ more) this
    rw [Nat.pow_add, Nat.pow_add, Nat.pow_add]
    calc _ = n * 2 ^ (j + ↑d).toNat * 2 ^ (E + ↑c).toNat * 2 ^ more := by ac_rfl
      _ ≤ _ := this
      _ = _ := by ac_rfl
  generalize hD : m * 2 ^ more = D at *
  have hq1 : 1 ≤ D / n := (Nat.le_div_iff_mul_le hnp).2 (by omega)
  obtain ⟨X, hX⟩ : ∃ X, X = 2 * (D / n) + (D % n != 0).toNat := ⟨_, rfl⟩
  rw [← hX]
  by_cases ht : (F + d).toNat + (i + c).toNat ≤ (j + d).toNat + (E + c).toNat + more
  · obtain ⟨t, ht⟩ := Nat.le.dest ht
    rw [← ht, Nat.pow_add _ _ t, Nat.mul_comm (2 ^ ((F + d).toNat + (i + c).toNat)) (2 ^ t), ← Nat.mul_assoc] at key
    have key := Nat.le_of_mul_le_mul_right key (Nat.two_pow_pos _)
    have h6 : 2 ^ t ≤ D / n := (Nat.le_div_iff_mul_le hnp).2 (by rw [Nat.mul_comm]; exact key)
    have h7 : 2 ^ (t + 1) ≤ X := by rw [Nat.pow_succ]; omega
    refine ⟨(j + more + 1 - i).toNat + (F - E).toNat, by omega, by omega, ?_⟩
    rw [show (E - F + (((j + more + 1 - i).toNat + (F - E).toNat : Nat) : Int)).toNat = (t + 1) + (i - j - more - 1 + (((j + more + 1 - i).toNat + (F - E).toNat : Nat) : Int)).toNat by omega, Nat.pow_add]
    exact Nat.mul_le_mul_right _ h7
  · refine ⟨(j + more + 1 - i).toNat + (F - E).toNat, by omega, by omega, ?_⟩
    have h8 : 2 ^ (E - F + (((j + more + 1 - i).toNat + (F - E).toNat : Nat) : Int)).toNat ≤ 2 ^ (i - j - more - 1 + (((j + more + 1 - i).toNat + (F - E).toNat : Nat) : Int)).toNat := Nat.pow_le_pow_right (by decide) (by omega)
    exact Nat.le_trans h8 (Nat.le_mul_of_pos_left _ (by omega))
theorem Rg.fn {E F : Int} {x : Nat} (h : Rg E F x) : Fn .f32 E x := let ⟨m, p, hr, hl, _⟩ := h; ⟨_, m, p, hr, hl⟩
theorem Rg.gn {E F : Int} {x : Nat} (h : Rg E F x) : Gn .f32 F x := let ⟨m, p, hr, _, hg⟩ := h; ⟨_, m, p, hr, hg⟩
theorem Rg.of {x j : Nat} {E F : Int} (h : FnS (2 ^ j) E x) (g : GnS F x) : Rg (E + j) F x := by
  obtain ⟨m, p, hr, hl⟩ := h
  obtain ⟨m', p', hr', hg⟩ := g
  rw [hr] at hr'
  injection hr' with _ e1 e2
  subst e1 e2
  exact ⟨m, p, hr, hl.pow, hg⟩
theorem near_Rg {m : Nat} {p E F : Int} (h : LeP m p E) (g : GeP m p F) (h1 : -100 ≤ E) (h2 : E ≤ 100) (h3 : -100 ≤ F) : Rg E F (FloatKind.f32.format.nearest false m p) := by
  obtain ⟨a, b⟩ := near_S (LeC.of h) (by decide) h1 h2
  have := Rg.of (j := 0) a (b F h3 g)
  simpa using this
theorem Rg.quo {x y : Nat} {E F E' F' : Int} (hx : Rg E F x) (hy : Rg E' F' y) (h1 : -100 ≤ E - F') (h2 : E - F' ≤ 100) (h3 : -100 ≤ F - E') : ∃ v, floatBits .quo .f32 x y = some v ∧ Rg (E - F') (F - E') v := by
  obtain ⟨m, p, hr, hl, hg⟩ := hx
  obtain ⟨n, q, hs, hm, hk⟩ := hy
  have hn : n ≠ 0 := by
    rintro rfl
    obtain ⟨d, _, _, g3⟩ := hk
    rw [Nat.zero_mul] at g3; have := Nat.two_pow_pos (F' + d).toNat; omega
  show ∃ v, ((FloatKind.f32.format.read x).quotient (FloatKind.f32.format.fractionBits + 2) (FloatKind.f32.format.read y)).map FloatKind.f32.format.write = some v ∧ _
  rw [hr, hs]
  simp only [Datum.quotient, if_neg hn, Option.map_some, Option.some.injEq, exists_eq_left']
  exact near_Rg (quot_LeP2 hl hk _ (by omega) _ rfl) (quot_GeP hg hm hn _ (by omega) _ rfl) h1 h2 h3
theorem Rg.sq {x : Nat} {E F : Int} (hx : Rg E F x) (h1 : -100 ≤ E + E) (h2 : E + E ≤ 100) (h3 : -100 ≤ F + F) : ∃ v, floatBits .mul .f32 x x = some v ∧ Rg (E + E) (F + F) v := by
  obtain ⟨m, p, hr, hl, hg⟩ := hx
  show ∃ v, ((FloatKind.f32.format.read x).product (FloatKind.f32.format.read x)).map FloatKind.f32.format.write = some v ∧ _
  rw [hr]
  simp only [Datum.product, Option.map_some, Option.some.injEq, exists_eq_left']
  exact near_Rg (hl.mul hl) (hg.mul hg) h1 h2 h3
theorem FnS.sq {x : Nat} {E : Int} (hx : FnS 1 E x) (h1 : -100 ≤ E + E) (h2 : E + E ≤ 100) : ∃ v, floatBits .mul .f32 x x = some v ∧ FnS 1 (E + E) v := by
  obtain ⟨m, p, hr, hl⟩ := hx
  have hl2 : LeP m p E := by have := hl.pow (j := 0); simpa using this
  show ∃ v, ((FloatKind.f32.format.read x).product (FloatKind.f32.format.read x)).map FloatKind.f32.format.write = some v ∧ _
  rw [hr]
  simp only [Datum.product, Option.map_some, Option.some.injEq, exists_eq_left']
  exact (near_S (LeC.of (hl2.mul hl2)) (by decide) h1 h2).1
theorem Rg_int (n : Nat) (h1 : 1 ≤ n) (h : n ≤ 256) : Rg 8 0 (N .f32 false n) := by
  obtain ⟨a, d, h3, h2, _⟩ := read_N .f32 false n (lg32 (by omega))
  refine ⟨_, _, h3, ⟨LL .f32, by rw [LL_eq]; omega, by omega, ?_⟩, ⟨LL .f32, by rw [LL_eq]; omega, by omega, ?_⟩⟩
  · rw [LL_eq, show (-(LL .f32 : Int) + (d : Int) + (LL .f32 : Nat)).toNat = d by omega, h2, show ((8 : Int) + (LL .f32 : Nat)).toNat = 8 + LL .f32 by omega, Nat.pow_add]
    exact Nat.mul_le_mul_right _ h
  · rw [LL_eq, show (-(LL .f32 : Int) + (d : Int) + (LL .f32 : Nat)).toNat = d by omega, h2, show ((0 : Int) + (LL .f32 : Nat)).toNat = LL .f32 by omega]
    exact Nat.le_mul_of_pos_left _ h1
theorem FnS_int (n : Nat) (h : n ≤ 1048576) : FnS 1 20 (N .f32 false n) ∧ (1 ≤ n → GnS 0 (N .f32 false n)) := by
  obtain ⟨a, d, h3, h2, _⟩ := read_N .f32 false n (lg32 (by omega))
  refine ⟨⟨_, _, h3, LL .f32, by rw [LL_eq]; omega, by omega, ?_⟩, fun h1 => ⟨_, _, h3, LL .f32, by rw [LL_eq]; omega, by omega, ?_⟩⟩
  · rw [LL_eq, show (-(LL .f32 : Int) + (d : Int) + (LL .f32 : Nat)).toNat = d by omega, h2, show ((20 : Int) + (LL .f32 : Nat)).toNat = 20 + LL .f32 by omega, Nat.pow_add, Nat.one_mul]
    exact Nat.mul_le_mul_right _ h
  · rw [LL_eq, show (-(LL .f32 : Int) + (d : Int) + (LL .f32 : Nat)).toNat = d by omega, h2, show ((0 : Int) + (LL .f32 : Nat)).toNat = LL .f32 by omega]
    exact Nat.le_mul_of_pos_left _ h1
theorem sumT_S {f : Nat → Option Nat} {E : Int} {n : Nat} (hn : n ≤ 256) (h1 : -100 ≤ E) (h2 : E ≤ 100) (hf : ∀ j, j < n → ∃ v, f j = some v ∧ FnS 1 E v) :
    ∀ k, k ≤ n → ∃ v, sumT f k = some v ∧ FnS k E v ∧ ((∃ j, j < k ∧ ∃ u, f j = some u ∧ GnS 0 u) → GnS 0 v) := by
  intro k
  induction k with
  | zero => intro _; exact ⟨0, by show can .f32 0 = _; decide, FnS.zero _ _, fun ⟨j, hj, _⟩ => absurd hj (Nat.not_lt_zero _)⟩
  | succ k ih =>
    intro hk
    obtain ⟨v, e1, f1, g1⟩ := ih (by omega)
    obtain ⟨u, e2, f2⟩ := hf k (by omega)
    obtain ⟨s, e3, f3, g3⟩ := f1.add f2 (by omega) h1 h2
    refine ⟨s, ?_, f3, fun ⟨j, hj, t, ht, hg⟩ => ?_⟩
    · show fop .add .f32 (sumT f k) (f k) = _
      rw [e1, e2]; exact e3
    · by_cases e : j = k
      · subst e
        rw [e2] at ht
        injection ht with ht
        subst ht
        exact g3 (.inr hg)
      · exact g3 (.inl (g1 ⟨j, by omega, t, ht, hg⟩))
/-- the quotient -/
def gapT (f : Nat → Option Nat) (n : Nat) : Option Nat := fop .quo .f32 (fop .quo .f32 (sumT (sqT f) n) (lenF n)) (fop .mul .f32 (fop .quo .f32 (sumT f n) (lenF n)) (fop .quo .f32 (sumT f n) (lenF n)))
theorem can_of_num {x m : Nat} {p : Int} {s : Bool} (h : FloatKind.f32.format.read x = .number s m p) : can .f32 x = some x := can_num (by unfold nanW; rw [h]; rfl)
theorem gap_fin (z : Nat → Nat) (n : Nat) (hn : n ≤ 256) (hz : ∀ j, j < n → z j ≤ 1000000) (hp : ∃ j, j < n ∧ 1 ≤ z j) : ∃ v, gapT (fun j => can .f32 (floatOfInt .f32 ((z j : Nat) : Int))) n = some v ∧ Fn .f32 64 v := by
  have hf : ∀ j, j < n → (can .f32 (floatOfInt .f32 ((z j : Nat) : Int)) = some (N .f32 false (z j))) ∧ FnS 1 20 (N .f32 false (z j)) ∧ (1 ≤ z j → GnS 0 (N .f32 false (z j))) := fun j hj => by
    obtain ⟨a, b⟩ := FnS_int (z j) (by have := hz j hj; omega)
    refine ⟨?_, a, b⟩
    obtain ⟨m, p, hr, _⟩ := a
    rw [int_word]; exact can_of_num hr
  obtain ⟨j0, hj0, h1⟩ := hp
  have hn1 : 1 ≤ n := by omega
  obtain ⟨s, e1, f1, g1⟩ := sumT_S (f := fun j => can .f32 (floatOfInt .f32 ((z j : Nat) : Int))) hn (by omega) (by omega) (fun j hj => ⟨_, (hf j hj).1, (hf j hj).2.1⟩) n (Nat.le_refl _)
  have hs : Rg 28 0 s := by
    have := Rg.of (j := 8) (f1.mono (c' := 2 ^ 8) hn) (g1 ⟨j0, hj0, _, (hf j0 hj0).1, (hf j0 hj0).2.2 h1⟩)
    exact this
  obtain ⟨q, e2, f2, _⟩ := sumT_S (f := sqT fun j => can .f32 (floatOfInt .f32 ((z j : Nat) : Int))) (E := 40) hn (by omega) (by omega) (fun j hj => by
    obtain ⟨v, e, f⟩ := (hf j hj).2.1.sq (by omega) (by omega)
    refine ⟨v, ?_, f⟩
    unfold sqT
    dsimp only
    rw [(hf j hj).1]; exact e) n (Nat.le_refl _)
  have hl : lenF n = some (N .f32 false n) := by
    obtain ⟨m, p, hr, _⟩ := Rg_int n hn1 hn
    unfold lenF
    rw [int_word]; exact can_of_num hr
  obtain ⟨mean, e3, f3⟩ := hs.quo (Rg_int n hn1 hn) (by omega) (by omega) (by omega)
  obtain ⟨msq, e4, f4⟩ := (FnS.fn (j := 8) (f2.mono (c' := 2 ^ 8) hn)).quo (Rg_int n hn1 hn).gn (by omega) (by omega)
  obtain ⟨sq, e5, f5⟩ := f3.sq (by omega) (by omega) (by omega)
  obtain ⟨v, e6, f6⟩ := f4.quo f5.gn (by omega) (by omega)
  refine ⟨v, ?_, f6.mono (by omega)⟩
  unfold gapT
  rw [e1, e2, hl]
  show fop .quo .f32 (floatBits .quo .f32 q _) (fop .mul .f32 (floatBits .quo .f32 s _) (floatBits .quo .f32 s _)) = _
  rw [e3, e4]
  show fop .quo .f32 (some msq) (floatBits .mul .f32 mean mean) = _
  rw [e5]
  exact e6

end Flt
end Go.Proofs.Ytgiblioilpedfaa
