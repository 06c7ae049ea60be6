/-
  What is proved here: what is finite comes of finite numbers; the greatest and the least one where there are infinities; sums that pass the greatest number. Conditions: as each theorem names. Own text; no dump.
-/
import Derived.Test.YthhimielelpcoaaMxd
import Derived.Test.YthhimielelpcoaaMea
namespace Go.Proofs.Ythhimielelpcoaa
open Flt Ieee
set_option linter.unusedVariables false

theorem fin_read (x : Nat) : finB .f32 x = true ↔ ∃ s m e, FloatKind.f32.format.read x = .number s m e := by
  constructor
  · intro h
    obtain ⟨m, e, hr, _⟩ := read_number (k := .f32) (w := x) (of_decide_eq_true h)
    exact ⟨_, _, _, hr⟩
  · rintro ⟨s, m, e, hr⟩
    rcases three .f32 x with h | h | h
    · exact decide_eq_true h
    · rw [read_inf h] at hr; cases hr
    · have := nanW_of_lt h
      unfold nanW at this
      rw [hr] at this; cases this
theorem fin_write {d : Datum} (hn : d.isNaN = false) (h : finO (some (FloatKind.f32.format.write d)) = true) : ∃ s m e, d = .number s m e := by
  cases d with
  | number s m e => exact ⟨s, m, e, rfl⟩
  | infinity s => cases s <;> exact absurd h (by decide)
  | nan s t => cases hn
theorem fin_map {o : Option Datum} (hn : ∀ d, o = some d → d.isNaN = false) (h : finO (o.map FloatKind.f32.format.write) = true) : ∃ s m e, o = some (.number s m e) := by
  cases o with
  | none => cases h
  | some d =>
    obtain ⟨s, m, e, rfl⟩ := fin_write (hn d rfl) h
    exact ⟨s, m, e, rfl⟩
theorem sum_parts {a b : Datum} {s : Bool} {m : Nat} {e : Int} (h : a.sum b = some (.number s m e)) : (∃ s m e, a = .number s m e) ∧ (∃ s m e, b = .number s m e) := by
  cases a <;> cases b <;> simp [Datum.sum] at h <;> first | exact ⟨⟨_, _, _, rfl⟩, ⟨_, _, _, rfl⟩⟩ | (exfalso; obtain ⟨_, h⟩ := h; cases h)
theorem opp_num {a : Datum} (h : ∃ s m e, a.opposite = .number s m e) : ∃ s m e, a = .number s m e := by
  obtain ⟨s, m, e, h⟩ := h
  cases a with
  | number t n i => exact ⟨_, _, _, rfl⟩
  | infinity t => cases h
  | nan t u => cases h
theorem fin_add {a b : Option Nat} (h : finO (fop .add .f32 a b) = true) : finO a = true ∧ finO b = true := by
  cases a with
  | none => cases h
  | some x =>
    cases b with
    | none => cases h
    | some y =>
      have h : finO (((FloatKind.f32.format.read x).sum (FloatKind.f32.format.read y)).map FloatKind.f32.format.write) = true := h
      obtain ⟨s, m, e, he⟩ := fin_map (fun d hd => sum_num hd) h
      obtain ⟨p, q⟩ := sum_parts he
      exact ⟨(fin_read x).2 p, (fin_read y).2 q⟩
theorem fin_sub2 {a b : Option Nat} (h : finO (fop .sub .f32 a b) = true) : finO a = true ∧ finO b = true := by
  cases a with
  | none => cases h
  | some x =>
    cases b with
    | none => cases h
    | some y =>
      have h : finO (((FloatKind.f32.format.read x).sum (FloatKind.f32.format.read y).opposite).map FloatKind.f32.format.write) = true := h
      obtain ⟨s, m, e, he⟩ := fin_map (fun d hd => sum_num hd) h
      obtain ⟨p, q⟩ := sum_parts he
      exact ⟨(fin_read x).2 p, (fin_read y).2 (opp_num q)⟩
theorem fin_mul {a b : Option Nat} (h : finO (fop .mul .f32 a b) = true) : finO a = true := by
  cases a with
  | none => cases h
  | some x =>
    cases b with
    | none => cases h
    | some y =>
      have h : finO (((FloatKind.f32.format.read x).product (FloatKind.f32.format.read y)).map FloatKind.f32.format.write) = true := h
      obtain ⟨s, m, e, he⟩ := fin_map (fun d hd => product_num hd) h
      refine (fin_read x).2 ?_
      cases hx : FloatKind.f32.format.read x <;> cases hy : FloatKind.f32.format.read y <;> rw [hx, hy] at he <;> simp [Datum.product] at he <;> exact ⟨_, _, _, rfl⟩
theorem fin_quo {a b : Option Nat} (h : finO (fop .quo .f32 a b) = true) : finO a = true := by
  cases a with
  | none => cases h
  | some x =>
    cases b with
    | none => cases h
    | some y =>
      have h : finO (((FloatKind.f32.format.read x).quotient (FloatKind.f32.format.fractionBits + 2) (FloatKind.f32.format.read y)).map FloatKind.f32.format.write) = true := h
      obtain ⟨s, m, e, he⟩ := fin_map (fun d hd => quotient_num hd) h
      refine (fin_read x).2 ?_
      cases hx : FloatKind.f32.format.read x <;> cases hy : FloatKind.f32.format.read y <;> rw [hx, hy] at he <;> simp [Datum.quotient] at he <;> exact ⟨_, _, _, rfl⟩
theorem fin_root {c : Option Nat} (h : finO (rootF c) = true) : finO c = true := by
  cases c with
  | none => cases h
  | some x =>
    show finB .f32 x = true
    rcases three .f32 x with h1 | h1 | h1
    · exact decide_eq_true h1
    · exfalso
      have e : wid (some x) = some _ := widen_inf h1
      unfold rootF at h
      rw [e] at h
      revert h
      cases (x / FloatKind.f32.format.signWeight % 2 == 1) <;> decide
    · exfalso
      have e : wid (some x) = none := widen_nan (nanW_of_lt h1)
      unfold rootF at h
      rw [e] at h
      cases h
theorem fin_sumT {f : Nat → Option Nat} : ∀ {n : Nat}, finO (sumT f n) = true → ∀ j, j < n → finO (f j) = true := by
  intro n
  induction n with
  | zero => intro _ j hj; exact absurd hj (Nat.not_lt_zero _)
  | succ n ih =>
    intro h j hj
    obtain ⟨a, b⟩ := fin_add h
    by_cases e : j = n
    · rw [e]; exact b
    · exact ih a j (by omega)

/-! infinities -/
def Good (x : Nat) : Prop := finB .f32 x = true ∨ x = 2139095040 ∨ x = 4286578688
theorem good_nan {x : Nat} (h : Good x) : nanW .f32 x = false := by
  rcases h with h | rfl | rfl
  · exact nanW_of_le (Nat.le_of_lt (of_decide_eq_true h))
  · decide
  · decide
theorem order_some {x y : Nat} (hx : nanW .f32 x = false) (hy : nanW .f32 y = false) : ∃ o, FloatKind.f32.format.order x y = some o := by
  unfold nanW at hx hy
  unfold Format.order
  cases h1 : FloatKind.f32.format.read x <;> cases h2 : FloatKind.f32.format.read y <;> rw [h1] at hx <;> rw [h2] at hy <;> simp_all [Datum.order, Datum.isNaN]
theorem fin_P {x : Nat} (h : finB .f32 x = true) : FloatKind.f32.format.order x 2139095040 = some .lt ∧ FloatKind.f32.format.order 2139095040 x = some .gt := by
  obtain ⟨s, m, e, hr⟩ := (fin_read x).1 h
  have hp : FloatKind.f32.format.read 2139095040 = .infinity false := by decide
  unfold Format.order
  rw [hr, hp]
  exact ⟨rfl, rfl⟩
theorem fin_N {x : Nat} (h : finB .f32 x = true) : FloatKind.f32.format.order x 4286578688 = some .gt ∧ FloatKind.f32.format.order 4286578688 x = some .lt := by
  obtain ⟨s, m, e, hr⟩ := (fin_read x).1 h
  have hp : FloatKind.f32.format.read 4286578688 = .infinity true := by decide
  unfold Format.order
  rw [hr, hp]
  exact ⟨rfl, rfl⟩
theorem good_mx {x y : Nat} (hx : Good x) (hy : Good y) : Good (mx2 x y) := by rcases mx2_or x y with h | h <;> rw [h] <;> assumption
theorem good_mn {x y : Nat} (hx : Good x) (hy : Good y) : Good (mn2 x y) := by rcases mn2_or x y with h | h <;> rw [h] <;> assumption
theorem mx2_P {x y : Nat} (hx : Good x) (hy : Good y) (h : x = 2139095040 ∨ y = 2139095040) : mx2 x y = 2139095040 := by
  rcases h with rfl | rfl
  · rcases hy with h | rfl | rfl
    · unfold mx2; rw [(fin_P h).2]
    · decide
    · decide
  · rcases hx with h | rfl | rfl
    · unfold mx2; rw [(fin_P h).1]
    · decide
    · decide
theorem mn2_N {x y : Nat} (hx : Good x) (hy : Good y) (h : x = 4286578688 ∨ y = 4286578688) : mn2 x y = 4286578688 := by
  rcases h with rfl | rfl
  · rcases hy with h | rfl | rfl
    · unfold mn2; rw [(fin_N h).2]
    · decide
    · decide
  · rcases hx with h | rfl | rfl
    · unfold mn2; rw [(fin_N h).1]
    · decide
    · decide
theorem good_ends {zs : List Nat} (h : ∀ j, j < zs.length → Good (at0 zs j)) (h0 : 0 < zs.length) : ∀ k, k ≤ zs.length → Good (mxW zs k) ∧ Good (mnW zs k) ∧ ∀ j, j < k → (at0 zs j = 2139095040 → mxW zs k = 2139095040) ∧ (at0 zs j = 4286578688 → mnW zs k = 4286578688) := by
  intro k
  induction k with
  | zero => intro _; exact ⟨h 0 h0, h 0 h0, fun j hj => absurd hj (Nat.not_lt_zero _)⟩
  | succ k ih =>
    intro hk
    obtain ⟨a, b, c⟩ := ih (by omega)
    have g := h k (by omega)
    refine ⟨good_mx a g, good_mn b g, fun j hj => ?_⟩
    by_cases e : j = k
    · subst e
      exact ⟨fun hj => mx2_P a g (.inr hj), fun hj => mn2_N b g (.inr hj)⟩
    · obtain ⟨c1, c2⟩ := c j (by omega)
      exact ⟨fun hj => mx2_P a g (.inl (c1 hj)), fun hj => mn2_N b g (.inl (c2 hj))⟩
/-- a range with an infinity is not finite -/
theorem range_inf {zs : List Nat} (h : ∀ j, j < zs.length → Good (at0 zs j)) (h0 : 0 < zs.length) (hf : finAll zs = false) : finO (fop .sub .f32 (can .f32 (mxW zs zs.length)) (can .f32 (mnW zs zs.length))) = false := by
  have : ∃ j, j < zs.length ∧ finB .f32 (at0 zs j) = false := by
    apply Classical.byContradiction
    intro hc
    have := finAll_yes (zs := zs) fun j hj => by
      cases e : finB .f32 (at0 zs j) with
      | true => rfl
      | false => exact absurd ⟨j, hj, e⟩ hc
    rw [hf] at this; cases this
  obtain ⟨j, hj, hjf⟩ := this
  obtain ⟨a, b, c⟩ := good_ends h h0 _ (Nat.le_refl _)
  obtain ⟨c1, c2⟩ := c j hj
  cases hr : finO (fop .sub .f32 (can .f32 (mxW zs zs.length)) (can .f32 (mnW zs zs.length))) with
  | false => rfl
  | true =>
    exfalso
    obtain ⟨p, q⟩ := fin_sub2 hr
    rw [finO_can] at p q
    rcases h j hj with g | g | g
    · rw [g] at hjf; cases hjf
    · rw [c1 g] at p; exact absurd p (by decide)
    · rw [c2 g] at q; exact absurd q (by decide)

/-- a sum that may have passed the greatest number -/
def GoodO (c : Option Nat) : Prop := ∃ x, c = some x ∧ Good x
theorem nearest_good (s : Bool) (m : Nat) (e : Int) : Good (FloatKind.f32.format.nearest s m e) := by
  have key : ∃ r, r ≤ FloatKind.f32.format.infRung ∧ FloatKind.f32.format.nearest s m e = FloatKind.f32.format.word s r := by
    unfold Format.nearest
    dsimp only
    split
    · exact ⟨0, Nat.zero_le _, rfl⟩
    · exact ⟨_, Nat.min_le_right .., rfl⟩
  obtain ⟨r, hr, he⟩ := key
  rw [he]
  rcases Nat.lt_or_eq_of_le hr with h | h
  · left
    unfold finB
    rw [mod_word _ _ (Nat.lt_trans h (inf_lt .f32))]
    exact decide_eq_true h
  · right
    rw [h]
    cases s
    · left; decide
    · right; decide
theorem good_add {a : Option Nat} {b : Option Nat} (ha : GoodO a) (hb : finO b = true) : GoodO (fop .add .f32 a b) := by
  obtain ⟨x, rfl, hx⟩ := ha
  cases b with
  | none => cases hb
  | some y =>
    obtain ⟨t, n, j, hy⟩ := (fin_read y).1 hb
    have e : fop .add .f32 (some x) (some y) = ((FloatKind.f32.format.read x).sum (FloatKind.f32.format.read y)).map FloatKind.f32.format.write := rfl
    rw [e, hy]
    rcases hx with hx | rfl | rfl
    · obtain ⟨s, m, i, hr⟩ := (fin_read x).1 hx
      rw [hr]
      exact ⟨_, rfl, nearest_good _ _ _⟩
    · have hp : FloatKind.f32.format.read 2139095040 = .infinity false := by decide
      rw [hp]
      exact ⟨_, rfl, .inr (.inl (by decide))⟩
    · have hp : FloatKind.f32.format.read 4286578688 = .infinity true := by decide
      rw [hp]
      exact ⟨_, rfl, .inr (.inr (by decide))⟩

end Go.Proofs.Ythhimielelpcoaa
