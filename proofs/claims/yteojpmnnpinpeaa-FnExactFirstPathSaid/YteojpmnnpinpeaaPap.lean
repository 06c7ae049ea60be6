/-
  What is proved here: the shortest way up through a field, as both packages tell it, as functions of the times. Conditions: none but those that each theorem names. Own text.
-/
import Derived.Test.YteojpmnnpinpeaaBup
namespace Go.Proofs.Yteojpmnnpinpeaa
set_option linter.unusedVariables false
set_option linter.unusedSimpArgs false

/-- whether a cell is a better end -/
def btE (D : Nat → Int) (m a : Int) (i : Nat) : Bool := (decide (m ≤ i) && decide (0 ≤ D i)) && (decide (a < 0) || decide (D i < D a.toNat))
/-- the best end among the first cells -/
def fE (D : Nat → Int) (m : Int) : Nat → Int
  | 0 => -1
  | k + 1 => if btE D m (fE D m k) k = true then (k : Int) else fE D m k
section
variable {D : Nat → Int} {m : Int}
theorem fE_yes {k : Nat} (h : btE D m (fE D m k) k = true) : fE D m (k + 1) = k := if_pos h
theorem fE_no {k : Nat} (h : btE D m (fE D m k) k = false) : fE D m (k + 1) = fE D m k := if_neg (by rw [h]; decide)
theorem fE_is (k : Nat) : fE D m k = -1 ∨ ∃ i : Nat, fE D m k = i ∧ i < k ∧ 0 ≤ D i := by
  induction k with
  | zero => exact .inl rfl
  | succ k ih =>
    cases h : btE D m (fE D m k) k with
    | true =>
      refine .inr ⟨k, fE_yes h, Nat.lt_succ_self k, ?_⟩
      unfold btE at h
      rw [Bool.and_eq_true, Bool.and_eq_true, decide_eq_true_eq, decide_eq_true_eq] at h
      exact h.1.2
    | false =>
      rw [fE_no h]
      exact ih.imp id fun ⟨i, h1, h2, h3⟩ => ⟨i, h1, by omega, h3⟩
theorem fE_start {k : Nat} (h : (k : Int) ≤ m) : fE D m k = -1 := by
  induction k with
  | zero => rfl
  | succ k ih =>
    rw [fE_no, ih (by omega)]
    unfold btE
    rw [decide_eq_false (by omega), Bool.false_and, Bool.false_and]
/-- the same, among full cells alone -/
def eE (D : Nat → Int) (m : Int) (L : List Int) : Int := L.foldl (fun a s => if btE D m a s.toNat = true then s else a) (-1)
theorem eE_snoc (L : List Int) (s : Nat) : eE D m (L ++ [(s : Int)]) = if btE D m (eE D m L) s = true then (s : Int) else eE D m L := by
  unfold eE
  rw [List.foldl_append]
  simp only [List.foldl_cons, List.foldl_nil, Int.toNat_natCast]
theorem eE_full {p : Nat → Bool} (hp : ∀ i, 0 ≤ D i → p i = true) (k : Nat) : eE D m (fulL p k) = fE D m k := by
  induction k with
  | zero => rfl
  | succ k ih =>
    cases h : p k with
    | true =>
      rw [fulL_yes h, eE_snoc, ih]; rfl
    | false =>
      have g0 : ¬ 0 ≤ D k := fun g => by rw [hp k g] at h; cases h
      rw [fulL_no h, ih, fE_no]
      unfold btE
      rw [decide_eq_false g0, Bool.and_false, Bool.false_and]
theorem eE_is {L : List Int} (hL : ∀ b ∈ L, 0 ≤ b) : eE D m L = -1 ∨ (eE D m L ∈ L ∧ 0 ≤ D (eE D m L).toNat) := by
  have key : ∀ (L : List Int) (a : Int) (M : List Int), (∀ b ∈ L, 0 ≤ b) → (a = -1 ∨ (a ∈ M ∧ 0 ≤ D a.toNat)) → (∀ b ∈ L, b ∈ M) → (let r := L.foldl (fun a s => if btE D m a s.toNat = true then s else a) a; r = -1 ∨ (r ∈ M ∧ 0 ≤ D r.toNat)) := by
    intro L
    induction L with
    | nil => intro a M _ h _; exact h
    | cons s L ih =>
      intro a M hL h hM
      refine ih _ M (fun b hb => hL b (List.mem_cons_of_mem _ hb)) ?_ fun b hb => hM b (List.mem_cons_of_mem _ hb)
      dsimp only
      by_cases hb : btE D m a s.toNat = true
      · rw [if_pos hb]
        refine .inr ⟨hM s (List.mem_cons_self ..), ?_⟩
        unfold btE at hb
        rw [Bool.and_eq_true, Bool.and_eq_true, decide_eq_true_eq, decide_eq_true_eq] at hb
        exact hb.1.2
      · rw [if_neg hb]; exact h
  exact key L (-1) L hL (.inl rfl) fun b h => h
end

/-- where a cell has been set on fire from: the first such side -/
def nxR (D : Nat → Int) (x y : Int) (a : Nat) : Nat := (sidL x y a).findIdx fun s : Int => D s.toNat == D a - 1
def nxF (D : Nat → Int) (x y : Int) (a : Nat) : Nat := (atI (sidL x y a) (nxR D x y a)).toNat
/-- the way -/
def cP (D : Nat → Int) (x y : Int) (a : Nat) : Nat → Nat
  | 0 => a
  | k + 1 => nxF D x y (cP D x y a k)
def pP (D : Nat → Int) (x y : Int) (a k : Nat) : List Int := (List.range (k + 1)).map fun j => (cP D x y a j : Int)
theorem pP_len (D : Nat → Int) (x y : Int) (a k : Nat) : (pP D x y a k).length = k + 1 := by simp [pP]
theorem pP_succ (D : Nat → Int) (x y : Int) (a k : Nat) : pP D x y a (k + 1) = pP D x y a k ++ [(cP D x y a (k + 1) : Int)] := by
  unfold pP
  rw [List.range_succ, List.map_append]; rfl
section
variable {P : Nat → Bool} {x y : Int} {n : Nat} {D : Nat → Int}
/-- what is known of the next cell -/
structure NxtP (D : Nat → Int) (x y : Int) (n a R c : Nat) : Prop where
  lt : R < (sidL x y a).length
  is : atI (sidL x y a) R = (c : Int)
  hit : D c = D a - 1
  miss : ∀ t, t < R → ∀ s : Nat, atI (sidL x y a) t = (s : Int) → D s ≠ D a - 1
  inn : c < n
  ne : c ≠ a
theorem nxt_is (hD : Dist P x y n D) (hx : 1 ≤ x) (hn : (n : Int) = x * y) (hP : ∀ i, P i = true → i < n) {a : Nat} (ha : 0 < D a) : NxtP D x y n a (nxR D x y a) (nxF D x y a) := by
  have hPa := hD.full a (by omega)
  have han := hP a hPa
  obtain ⟨j, hj, e⟩ := hD.pred a (D a - 1).toNat (by omega)
  have hin := sidL_mem (x := x) (y := y) (i := (a : Int)) hx (by omega) (by omega)
  have hlt : nxR D x y a < (sidL x y a).length := List.findIdx_lt_length_of_exists ⟨j, hj, by rw [beq_iff_eq, e]; omega⟩
  have hat : ∀ t (h : t < (sidL x y a).length), atI (sidL x y a) t = (sidL x y a)[t] := fun t h => by
    show (sidL x y a).getD t 0 = _
    rw [List.getD_eq_getElem?_getD, List.getElem?_eq_getElem h]; rfl
  have hmem : atI (sidL x y a) (nxR D x y a) ∈ sidL x y a := by rw [hat _ hlt]; exact List.getElem_mem hlt
  have hb := hin _ hmem
  have hhit := List.findIdx_getElem (xs := sidL x y a) (p := fun s : Int => D s.toNat == D a - 1) (w := hlt)
  rw [beq_iff_eq] at hhit
  have hh : D (nxF D x y a) = D a - 1 := by
    show D (atI (sidL x y a) (nxR D x y a)).toNat = _
    rw [hat _ hlt]; exact hhit
  refine ⟨hlt, ?_, hh, fun t ht s hs hd => ?_, ?_, fun e => by rw [e] at hh; omega⟩
  · show _ = (((atI (sidL x y a) (nxR D x y a)).toNat : Nat) : Int)
    omega
  · have h2 := List.not_of_lt_findIdx (xs := sidL x y a) (p := fun s : Int => D s.toNat == D a - 1) ht
    rw [← hat t (Nat.lt_trans ht hlt), hs, Int.toNat_natCast, hd] at h2
    simp at h2
  · show (atI (sidL x y a) (nxR D x y a)).toNat < n
    omega
theorem cP_is (hD : Dist P x y n D) (hx : 1 ≤ x) (hn : (n : Int) = x * y) (hP : ∀ i, P i = true → i < n) {a : Nat} (ha : a < n) : ∀ k : Nat, (k : Int) ≤ D a → D (cP D x y a k) = D a - k ∧ cP D x y a k < n
  | 0, _ => ⟨by show D a = _; omega, ha⟩
  | k + 1, h => by
    have ih := cP_is hD hx hn hP ha k (by omega)
    have N := nxt_is hD hx hn hP (a := cP D x y a k) (by omega)
    exact ⟨by show D (nxF D x y (cP D x y a k)) = _; rw [N.hit, ih.1]; omega, N.inn⟩
end

end Go.Proofs.Yteojpmnnpinpeaa
