/-
  What is proved here: a field that is neither full nor empty has an edge; the lightest cell of a list, and the rounds of an invasion. Conditions: a valid size.
-/
import Derived.Test.YthhimielelpcoaaEdp
import Derived.Test.YthhimielelpcoaaBup
namespace Go.Proofs.Ythhimielelpcoaa
open Go.RowKit
set_option linter.unusedVariables false
set_option linter.unusedSimpArgs false

theorem mod_zero_le {x c : Int} (hx : 1 ≤ x) (h0 : 0 < c) (h : c % x = 0) : x ≤ c := by
  by_cases g : x ≤ c
  · exact g
  · rw [Int.emod_eq_of_lt (by omega) (by omega)] at h; omega
/-- without an edge, a field with a full cell is full -/
theorem edge_none {x y : Int} {n : Nat} {q : Nat → Bool} (hx : 1 ≤ x) (hn : (n : Int) = x * y) (he : ∀ k, k < n → edg x y q k = false) {a : Nat} (ha : a < n) (hqa : q a = true) : ∀ b, b < n → q b = true := by
  have hcl : ∀ c : Nat, c < n → q c = true → ∀ s : Int, s ∈ sidL x y c → q s.toNat = true := fun c hc hq s hs => by
    have hm := sidL_mem hx (Int.natCast_nonneg c) (by omega) s hs
    cases e : q s.toNat with
    | true => rfl
    | false =>
      have h1 := he s.toNat (by omega)
      unfold edg at h1
      rw [e] at h1
      have h2 : 0 < fulS q x y (s.toNat : Nat) := (fulS_pos _ _ _ _).2 ⟨(c : Int), by rw [Int.toNat_of_nonneg hm.1]; exact sidL_sym hx (Int.natCast_nonneg c) (by omega) s hs, by rw [Int.toNat_natCast]; exact hq⟩
      rw [decide_eq_true h2] at h1
      cases h1
  have hzero : ∀ k c : Nat, c ≤ k → c < n → q c = true → q 0 = true := fun k => by
    induction k with
    | zero => intro c hk _ hq; obtain rfl : c = 0 := by omega
              exact hq
    | succ k ih =>
      intro c hk hc hq
      by_cases h0 : c = 0
      · subst h0; exact hq
      · by_cases hm : 0 < (c : Int) % x
        · have h1 := hcl c hc hq ((c : Int) - 1) (by unfold sidL; rw [if_pos hm]; simp)
          rw [show ((c : Int) - 1).toNat = c - 1 by omega] at h1
          exact ih (c - 1) (by omega) (by omega) h1
        · have hr := Int.emod_nonneg (c : Int) (show x ≠ 0 by omega)
          have hle := mod_zero_le hx (c := (c : Int)) (by omega) (by omega)
          have h1 := hcl c hc hq ((c : Int) - x) (by unfold sidL; rw [if_pos hle]; simp)
          exact ih ((c : Int) - x).toNat (by omega) (by omega) h1
  have hq0 := hzero a a (Nat.le_refl _) ha hqa
  have hall : ∀ k c : Nat, c ≤ k → c < n → q c = true := fun k => by
    induction k with
    | zero => intro c hk _; obtain rfl : c = 0 := by omega
              exact hq0
    | succ k ih =>
      intro c hk hc
      by_cases h0 : c = 0
      · subst h0; exact hq0
      · by_cases hm : 0 < (c : Int) % x
        · have h2 := ih (c - 1) (by omega) (by omega)
          obtain ⟨e, q0, q1, r0, r1⟩ := div_facts hx (Int.natCast_nonneg c) (by omega : (c : Int) < x * y)
          have m : ((c : Int) - 1) % x = (c : Int) % x - 1 := by
            have := modq (x := x) (q := (c : Int) / x) (r := (c : Int) % x - 1) (by omega) (by omega)
            rw [← this]; congr 1; omega
          have hc1 : ((c - 1 : Nat) : Int) = (c : Int) - 1 := by omega
          have h1 := hcl (c - 1) (by omega) h2 (c : Int) (by unfold sidL; rw [hc1, if_pos (by omega : ((c : Int) - 1) % x + 1 < x)]; simp)
          rwa [Int.toNat_natCast] at h1
        · have hr := Int.emod_nonneg (c : Int) (show x ≠ 0 by omega)
          have hle := mod_zero_le hx (c := (c : Int)) (by omega) (by omega)
          have h2 := ih ((c : Int) - x).toNat (by omega) (by omega)
          have h1 := hcl ((c : Int) - x).toNat (by omega) h2 (c : Int) (by
            unfold sidL
            rw [Int.toNat_of_nonneg (by omega : 0 ≤ (c : Int) - x), if_pos (by omega : (c : Int) - x + x < x * y)]
            simp)
          rwa [Int.toNat_natCast] at h1
  exact fun b hb => hall b b (Nat.le_refl _) hb
theorem edge_some {x y : Int} {n : Nat} {q : Nat → Bool} (hx : 1 ≤ x) (hn : (n : Int) = x * y) {a b : Nat} (ha : a < n) (hb : b < n) (hqa : q a = true) (hqb : q b = false) : 0 < (edL x y n q).length := by
  by_cases h : 0 < (edL x y n q).length
  · exact h
  · have := edge_none hx hn (fun k hk => by
      cases e : edg x y q k with
      | false => rfl
      | true =>
        have hm : (k : Int) ∈ edL x y n q := fulL_mem.2 ⟨k, rfl, hk, e⟩
        have := List.length_pos_of_mem hm
        omega) ha hqa b hb
    rw [hqb] at this; cases this

/-- the lightest of the first cells of a list; of equals the first -/
def ivM (lt : Nat → Nat → Bool) (L : List Int) : Nat → Int
  | 0 => atI L 0
  | k + 1 => if lt (atI L (k + 1)).toNat (ivM lt L k).toNat = true then atI L (k + 1) else ivM lt L k
theorem atI_app {L : List Int} {a : Int} {k : Nat} (h : k < L.length) : atI (L ++ [a]) k = atI L k := by
  rw [atI_getD, atI_getD, List.getD_eq_getElem?_getD, List.getD_eq_getElem?_getD, List.getElem?_append_left h]
theorem atI_last {L : List Int} {a : Int} : atI (L ++ [a]) L.length = a := by
  rw [atI_getD, List.getD_eq_getElem?_getD, List.getElem?_append_right (Nat.le_refl _)]; simp
theorem ivM_app {lt : Nat → Nat → Bool} {L : List Int} {a : Int} : ∀ {k : Nat}, k < L.length → ivM lt (L ++ [a]) k = ivM lt L k
  | 0, h => atI_app h
  | k + 1, h => by
    unfold ivM
    rw [ivM_app (k := k) (by omega), atI_app h]
theorem ivM_mem {lt : Nat → Nat → Bool} {L : List Int} : ∀ {k : Nat}, k < L.length → ivM lt L k ∈ L
  | 0, h => getD_mem h
  | k + 1, h => by
    unfold ivM
    split
    · exact getD_mem h
    · exact ivM_mem (k := k) (by omega)
/-- the lightest of a list of cells, -1 if it has none -/
def ivB (lt : Nat → Nat → Bool) (L : List Int) : Int := if L.length = 0 then -1 else ivM lt L (L.length - 1)
theorem ivB_snoc {lt : Nat → Nat → Bool} {L : List Int} {a : Int} : ivB lt (L ++ [a]) = if L.length = 0 then a else if lt a.toNat (ivB lt L).toNat = true then a else ivB lt L := by
  unfold ivB
  rw [List.length_append, List.length_singleton, if_neg (by omega : ¬ L.length + 1 = 0), show L.length + 1 - 1 = L.length by omega]
  by_cases h : L.length = 0
  · rw [if_pos h, h]
    have : L = [] := List.length_eq_zero_iff.1 h
    subst this
    rfl
  · rw [if_neg h, if_neg h]
    obtain ⟨m, hm⟩ : ∃ m, L.length = m + 1 := ⟨L.length - 1, by omega⟩
    rw [hm]
    show (if lt (atI (L ++ [a]) (m + 1)).toNat (ivM lt (L ++ [a]) m).toNat = true then atI (L ++ [a]) (m + 1) else ivM lt (L ++ [a]) m) = _
    rw [← hm, atI_last, ivM_app (by omega), hm]
    rfl
theorem ivB_is (lt : Nat → Nat → Bool) (e : Nat → Bool) (t : Nat) : ((fulL e t).length = 0 ∧ ivB lt (fulL e t) = -1) ∨ ((fulL e t).length ≠ 0 ∧ ∃ d : Nat, ivB lt (fulL e t) = (d : Int) ∧ d < t) := by
  by_cases h : (fulL e t).length = 0
  · exact .inl ⟨h, by unfold ivB; rw [if_pos h]⟩
  · refine .inr ⟨h, ?_⟩
    have h1 : ivB lt (fulL e t) ∈ fulL e t := by unfold ivB; rw [if_neg h]; exact ivM_mem (by omega)
    obtain ⟨d, h2, h3, _⟩ := fulL_mem.1 h1
    exact ⟨d, h2, h3⟩
theorem ivB_no {lt : Nat → Nat → Bool} {e : Nat → Bool} {t : Nat} (h : e t = false) : ivB lt (fulL e (t + 1)) = ivB lt (fulL e t) := by rw [fulL_no h]
theorem ivB_yes {lt : Nat → Nat → Bool} {e : Nat → Bool} {t : Nat} (h : e t = true) : ivB lt (fulL e (t + 1)) = if (fulL e t).length = 0 then (t : Int) else if lt t (ivB lt (fulL e t)).toNat = true then (t : Int) else ivB lt (fulL e t) := by
  rw [fulL_yes h, ivB_snoc, Int.toNat_natCast]
/-- the field and the order after so many rounds -/
def ivJ (lt : Nat → Nat → Bool) (x y : Int) (n a : Nat) : Nat → (Nat → Bool) × List Int
  | 0 => (frQ [(a : Int)], [(a : Int)])
  | j + 1 => (fiP (ivJ lt x y n a j).1 (ivB lt (edL x y n (ivJ lt x y n a j).1)).toNat, (ivJ lt x y n a j).2 ++ [(((ivB lt (edL x y n (ivJ lt x y n a j).1)).toNat : Nat) : Int)])
theorem fulN_fiP {q : Nat → Bool} {c : Nat} (h : q c = false) : ∀ n : Nat, fulN (fiP q c) n = fulN q n + (if c < n then 1 else 0)
  | 0 => rfl
  | n + 1 => by
    have ih := fulN_fiP h n
    by_cases e : n = c
    · subst e
      have h1 : fiP q n n = true := by unfold fiP; simp
      rw [fulN_yes h1, fulN_no h, ih, if_neg (by omega), if_pos (by omega)]
    · have h1 : fiP q c n = q n := by unfold fiP; rw [decide_eq_false e]; rfl
      cases hq : q n with
      | true => rw [fulN_yes (h1.trans hq), fulN_yes hq, ih]; split <;> split <;> omega
      | false => rw [fulN_no (h1.trans hq), fulN_no hq, ih]; split <;> split <;> omega
theorem fulN_none : ∀ n : Nat, fulN (fun _ => false) n = 0
  | 0 => rfl
  | n + 1 => by rw [fulN_no rfl]; exact fulN_none n
theorem fulN_all {q : Nat → Bool} : ∀ {n : Nat}, (∀ k, k < n → q k = true) → fulN q n = n
  | 0, _ => rfl
  | n + 1, h => by rw [fulN_yes (h n (Nat.lt_succ_self n)), fulN_all fun k hk => h k (by omega)]
theorem fulN_fst {a n : Nat} (ha : a < n) : fulN (frQ [(a : Int)]) n = 1 := by
  have h : frQ [(a : Int)] = fiP (frQ []) a := funext fun k => by have := frQ_snoc (L := []) (c := a) (k := k); exact this
  have h0 : frQ [] = (fun _ => false) := rfl
  rw [h, fulN_fiP (by rw [h0]), h0, fulN_none, if_pos ha]
/-- the edge's lightest cell is one of it -/
theorem ivB_cell {lt : Nat → Nat → Bool} {x y : Int} {n : Nat} {q : Nat → Bool} (h : 0 < (edL x y n q).length) : ∃ c : Nat, ivB lt (edL x y n q) = (c : Int) ∧ c < n ∧ q c = false := by
  have h1 : ivB lt (edL x y n q) ∈ edL x y n q := by
    unfold ivB
    rw [if_neg (by omega)]
    exact ivM_mem (by omega)
  obtain ⟨c, h2, h3, h4⟩ := fulL_mem.1 h1
  refine ⟨c, h2, h3, ?_⟩
  unfold edg at h4
  rw [Bool.and_eq_true] at h4
  cases e : q c with
  | false => rfl
  | true => rw [e] at h4; exact absurd h4.1 (by decide)
theorem ivJ_ok {lt : Nat → Nat → Bool} {x y : Int} {n a : Nat} (hx : 1 ≤ x) (hn : (n : Int) = x * y) (ha : a < n) : ∀ j, j < n → fulN (ivJ lt x y n a j).1 n = j + 1 ∧ (ivJ lt x y n a j).1 a = true ∧ (ivJ lt x y n a j).2.length = j + 1
  | 0, _ => ⟨fulN_fst ha, by unfold ivJ frQ; simp, rfl⟩
  | j + 1, hj => by
    obtain ⟨h1, h2, h3⟩ := ivJ_ok (lt := lt) hx hn ha j (by omega)
    have hex : ∃ b, b < n ∧ (ivJ lt x y n a j).1 b = false := by
      apply Classical.byContradiction
      intro hno
      have : fulN (ivJ lt x y n a j).1 n = n := fulN_all fun k hk => by
        cases e : (ivJ lt x y n a j).1 k with
        | true => rfl
        | false => exact absurd ⟨k, hk, e⟩ hno
      omega
    obtain ⟨b, hb, hqb⟩ := hex
    obtain ⟨c, e, hc, hqc⟩ := ivB_cell (lt := lt) (edge_some hx hn ha hb h2 hqb)
    refine ⟨?_, ?_, ?_⟩
    · show fulN (fiP (ivJ lt x y n a j).1 (ivB lt (edL x y n (ivJ lt x y n a j).1)).toNat) n = _
      rw [e, Int.toNat_natCast, fulN_fiP hqc, if_pos hc, h1]
    · show (decide _ || (ivJ lt x y n a j).1 a) = true
      rw [h2, Bool.or_true]
    · show (_ ++ [_]).length = _
      rw [List.length_append, h3]; rfl
/-- so long as cells are left, a round finds one -/
theorem ivJ_go {lt : Nat → Nat → Bool} {x y : Int} {n a j : Nat} (hx : 1 ≤ x) (hn : (n : Int) = x * y) (ha : a < n) (hj : j + 1 < n) :
    0 < (edL x y n (ivJ lt x y n a j).1).length ∧ ∃ c : Nat, ivB lt (edL x y n (ivJ lt x y n a j).1) = (c : Int) ∧ c < n ∧ ivJ lt x y n a (j + 1) = (fiP (ivJ lt x y n a j).1 c, (ivJ lt x y n a j).2 ++ [(c : Int)]) := by
  obtain ⟨h1, h2, h3⟩ := ivJ_ok (lt := lt) hx hn ha j (by omega)
  have hex : ∃ b, b < n ∧ (ivJ lt x y n a j).1 b = false := by
    apply Classical.byContradiction
    intro hno
    have : fulN (ivJ lt x y n a j).1 n = n := fulN_all fun k hk => by
      cases e : (ivJ lt x y n a j).1 k with
      | true => rfl
      | false => exact absurd ⟨k, hk, e⟩ hno
    omega
  obtain ⟨b, hb, hqb⟩ := hex
  have hl := edge_some hx hn ha hb h2 hqb
  obtain ⟨c, e, hc, hqc⟩ := ivB_cell (lt := lt) hl
  refine ⟨hl, c, e, hc, ?_⟩
  show (fiP (ivJ lt x y n a j).1 (ivB lt (edL x y n (ivJ lt x y n a j).1)).toNat, (ivJ lt x y n a j).2 ++ [(((ivB lt (edL x y n (ivJ lt x y n a j).1)).toNat : Nat) : Int)]) = _
  rw [e, Int.toNat_natCast]
end Go.Proofs.Ythhimielelpcoaa
