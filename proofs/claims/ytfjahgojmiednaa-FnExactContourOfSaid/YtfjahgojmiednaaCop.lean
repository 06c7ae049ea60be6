/-
  What is proved here: the pairs of places of which just one is higher than a level, and the places between them, told as lists. Conditions: none but those that each theorem names. Own text.
-/
import Derived.Test.YtfjahgojmiednaaPof
import Derived.Test.YtfjahgojmiednaaRci
namespace Go.Proofs.Ytfjahgojmiednaa
open Flt Go.RowKit
set_option linter.unusedVariables false

/-- a place is higher than a level -/
def hiB (zs : List Nat) (lv j : Nat) : Bool := FloatKind.f32.format.order (at0 zs j) lv == some .gt
/-- just one place of a pair is higher -/
def cpB (zs : List Nat) (lv : Nat) (p : Nat × Nat × Bool) : Bool := hiB zs lv p.1 != hiB zs lv p.2.1
/-- the pairs of the coast: of those in a row, among the first k places; and then of those in a column -/
def coA (W : Nat) (zs : List Nat) (lv k : Nat) : List (Nat × Nat × Bool) := (pHor W 1 k).filter (cpB zs lv)
def coV (W H : Nat) (zs : List Nat) (lv k : Nat) : List (Nat × Nat × Bool) := (pVer W H 1 zs.length k).filter (cpB zs lv)
theorem coA_zero (W : Nat) (zs : List Nat) (lv : Nat) : coA W zs lv 0 = [] := rfl
theorem coV_zero (W H : Nat) (zs : List Nat) (lv : Nat) : coV W H zs lv 0 = coA W zs lv zs.length := by
  unfold coV coA pVer
  rw [verS_zero, List.map_nil, List.append_nil]
theorem co_hno {x : Int} {k : Nat} (zs : List Nat) (lv : Nat) (hx : 1 ≤ x) (h : ¬ (k : Int) % x + 1 < x) : coA x.toNat zs lv (k + 1) = coA x.toNat zs lv k := by
  have e : horS x.toNat 1 (k + 1) = horS x.toNat 1 k := (pr_hor hx (show (1 : Int) ≤ 1 by omega)).2 h
  unfold coA pHor
  rw [e]
theorem co_hyes {x : Int} {k : Nat} (zs : List Nat) (lv : Nat) (hx : 1 ≤ x) (h : (k : Int) % x + 1 < x) : coA x.toNat zs lv (k + 1) = if (hiB zs lv k != hiB zs lv (k + 1)) = true then coA x.toNat zs lv k ++ [(k, k + 1, false)] else coA x.toNat zs lv k := by
  have e : horS x.toNat 1 (k + 1) = horS x.toNat 1 k ++ [(k, k + 1)] := (pr_hor hx (show (1 : Int) ≤ 1 by omega)).1 h
  have c : cpB zs lv (k, k + 1, false) = (hiB zs lv k != hiB zs lv (k + 1)) := rfl
  unfold coA pHor
  rw [e, List.map_append, List.filter_append, ← c]
  cases hc : cpB zs lv (k, k + 1, false) <;> simp [hc]
theorem co_vno {x y : Int} {k : Nat} (zs : List Nat) (lv : Nat) (hx : 1 ≤ x) (hy : 1 ≤ y) (h : ¬ (k : Int) / x + 1 < y) : coV x.toNat y.toNat zs lv (k + 1) = coV x.toNat y.toNat zs lv k := by
  have e : verS x.toNat y.toNat 1 (k + 1) = verS x.toNat y.toNat 1 k := (pr_ver hx hy (show (1 : Int) ≤ 1 by omega)).2 h
  unfold coV pVer
  rw [e]
theorem co_vyes {x y : Int} {k : Nat} (zs : List Nat) (lv : Nat) (hx : 1 ≤ x) (hy : 1 ≤ y) (h : (k : Int) / x + 1 < y) : coV x.toNat y.toNat zs lv (k + 1) = if (hiB zs lv k != hiB zs lv (k + x.toNat)) = true then coV x.toNat y.toNat zs lv k ++ [(k, k + x.toNat, true)] else coV x.toNat y.toNat zs lv k := by
  have e : verS x.toNat y.toNat 1 (k + 1) = verS x.toNat y.toNat 1 k ++ [(k, k + 1 * x.toNat)] := (pr_ver hx hy (show (1 : Int) ≤ 1 by omega)).1 h
  rw [Nat.one_mul] at e
  have c : cpB zs lv (k, k + x.toNat, true) = (hiB zs lv k != hiB zs lv (k + x.toNat)) := rfl
  unfold coV pVer
  rw [e, List.map_append, ← List.append_assoc, List.filter_append, ← c]
  cases hc : cpB zs lv (k, k + x.toNat, true) <;> simp [hc]
theorem coA_le (W : Nat) (zs : List Nat) (lv k : Nat) : (coA W zs lv k).length ≤ k := Nat.le_trans (List.length_filter_le _ _) (pHor_len _ _ _)
theorem coV_le (W H : Nat) (zs : List Nat) (lv k : Nat) : (coV W H zs lv k).length ≤ zs.length + k := Nat.le_trans (List.length_filter_le _ _) (pVer_len _ _ _ _ _)

/-- where the height is level, between the places of a pair -/
def shrO (zs : List Nat) (lv : Nat) (p : Nat × Nat × Bool) : Option Nat := fop .quo .f32 (fop .sub .f32 (can .f32 lv) (can .f32 (at0 zs p.1))) (fop .sub .f32 (can .f32 (at0 zs p.2.1)) (can .f32 (at0 zs p.1)))
def ptO (W : Nat) (zs : List Nat) (lv : Nat) (p : Nat × Nat × Bool) : Option Nat × Option Nat :=
  if p.2.2 = true then (can .f32 (fI (p.1 % W)), fop .add .f32 (can .f32 (fI (p.1 / W))) (shrO zs lv p)) else (fop .add .f32 (can .f32 (fI (p.1 % W))) (shrO zs lv p), can .f32 (fI (p.1 / W)))
def canC (q : Nat × Nat) : Option Nat × Option Nat := (can .f32 q.1, can .f32 q.2)
def ToldC (W : Nat) (zs : List Nat) (lv : Nat) (M : List (Nat × Nat × Bool)) (L : List (Nat × Nat)) : Prop := L.map canC = M.map (ptO W zs lv)
theorem ToldC.nil (W : Nat) (zs : List Nat) (lv : Nat) : ToldC W zs lv [] [] := rfl
theorem ToldC.snoc {W : Nat} {zs : List Nat} {lv : Nat} {M : List (Nat × Nat × Bool)} {L : List (Nat × Nat)} {p : Nat × Nat × Bool} {q : Nat × Nat} (h : ToldC W zs lv M L) (hq : canC q = ptO W zs lv p) : ToldC W zs lv (M ++ [p]) (L ++ [q]) := by
  unfold ToldC at *
  rw [List.map_append, List.map_append, h, List.map_singleton, List.map_singleton, hq]
theorem ToldC.len {W : Nat} {zs : List Nat} {lv : Nat} {M : List (Nat × Nat × Bool)} {L : List (Nat × Nat)} (h : ToldC W zs lv M L) : L.length = M.length := by
  have := congrArg List.length h
  simpa using this
theorem ToldC.at {W : Nat} {zs : List Nat} {lv j : Nat} {M : List (Nat × Nat × Bool)} {L : List (Nat × Nat)} (h : ToldC W zs lv M L) (hj : j < M.length) : canC (atC L j) = ptO W zs lv M[j] := by
  have hl := h.len
  have e : (L.map canC)[j]? = (M.map (ptO W zs lv))[j]? := by rw [h]
  rw [List.getElem?_map, List.getElem?_map, List.getElem?_eq_getElem (by omega), List.getElem?_eq_getElem hj] at e
  rw [atC_is (by omega)]
  simpa using e
/-- a place is finite -/
def pfO (o : Option Nat × Option Nat) : Bool := finO o.1 && finO o.2
def ctF (W : Nat) (zs : List Nat) (lv : Nat) (M : List (Nat × Nat × Bool)) : Bool := M.all fun p => pfO (ptO W zs lv p)
def ctL (W : Nat) (zs : List Nat) (lv : Nat) (M : List (Nat × Nat × Bool)) : List (Nat × Nat) := M.map fun p => ((ptO W zs lv p).1.getD 0, (ptO W zs lv p).2.getD 0)
theorem can_fin {a : Nat} {o : Option Nat} (h : can .f32 a = o) (hf : finO o = true) : a = o.getD 0 := by
  subst h
  unfold can at *
  by_cases hn : nanW .f32 a = true
  · rw [if_pos hn] at hf; cases hf
  · rw [if_neg hn]; rfl
theorem ToldC.is {W : Nat} {zs : List Nat} {lv : Nat} {M : List (Nat × Nat × Bool)} {L : List (Nat × Nat)} (h : ToldC W zs lv M L) (hf : ctF W zs lv M = true) : L = ctL W zs lv M := by
  have hl := h.len
  apply List.ext_getElem (by unfold ctL; rw [List.length_map]; exact hl)
  intro j h1 h2
  have hj : j < M.length := by omega
  have e := h.at hj
  have f : pfO (ptO W zs lv M[j]) = true := by
    unfold ctF at hf
    rw [List.all_eq_true] at hf
    exact hf _ (List.getElem_mem hj)
  unfold pfO at f
  rw [Bool.and_eq_true] at f
  rw [atC_is h1] at e
  have e1 : can .f32 (L[j]).1 = (ptO W zs lv M[j]).1 := by rw [← e]; rfl
  have e2 : can .f32 (L[j]).2 = (ptO W zs lv M[j]).2 := by rw [← e]; rfl
  have e3 : (ctL W zs lv M)[j] = ((ptO W zs lv M[j]).1.getD 0, (ptO W zs lv M[j]).2.getD 0) := List.getElem_map (fun p => ((ptO W zs lv p).1.getD 0, (ptO W zs lv p).2.getD 0))
  rw [e3]
  exact Prod.ext (can_fin e1 f.1) (can_fin e2 f.2)
theorem ctF_not {W : Nat} {zs : List Nat} {lv j : Nat} {M : List (Nat × Nat × Bool)} (hj : j < M.length) (h : pfO (ptO W zs lv M[j]) = false) : ctF W zs lv M = false := by
  unfold ctF
  rw [List.all_eq_false]
  exact ⟨M[j], List.getElem_mem hj, by rw [h]; simp⟩
theorem ctF_all {W : Nat} {zs : List Nat} {lv : Nat} {M : List (Nat × Nat × Bool)} (h : ∀ j (hj : j < M.length), pfO (ptO W zs lv M[j]) = true) : ctF W zs lv M = true := by
  unfold ctF
  rw [List.all_eq_true]
  intro p hp
  obtain ⟨j, hj, rfl⟩ := List.getElem_of_mem hp
  exact h j hj

/-- what the functions answer -/
def coM (x y : Int) (zs : List Nat) (lv : Nat) : List (Nat × Nat × Bool) := coV x.toNat y.toNat zs lv zs.length
def coO (x y : Int) (zs : List Nat) (lv : Nat) : Bool := shB x y zs && finB .f32 lv
def coN (x y : Int) (zs : List Nat) (lv : Nat) : Nat := if coO x y zs lv = true then (coM x y zs lv).length else 0
def ctB (x y : Int) (zs : List Nat) (lv : Nat) : Bool := coO x y zs lv && ctF x.toNat zs lv (coM x y zs lv)
def ctR (x y : Int) (zs : List Nat) (lv : Nat) : List (Nat × Nat) := if ctB x y zs lv = true then ctL x.toNat zs lv (coM x y zs lv) else []
theorem ct_no {x y : Int} {zs : List Nat} {lv : Nat} (h : coO x y zs lv = false) : coN x y zs lv = 0 ∧ ctR x y zs lv = [] ∧ ctB x y zs lv = false := by
  have h2 : ctB x y zs lv = false := by unfold ctB; rw [h]; rfl
  refine ⟨?_, ?_, h2⟩
  · unfold coN; rw [h, if_neg (by decide)]
  · unfold ctR; rw [h2, if_neg (by decide)]
theorem ct_bad {x y : Int} {zs : List Nat} {lv : Nat} (h : ctF x.toNat zs lv (coM x y zs lv) = false) : ctR x y zs lv = [] ∧ ctB x y zs lv = false := by
  have h2 : ctB x y zs lv = false := by unfold ctB; rw [h, Bool.and_false]
  exact ⟨by unfold ctR; rw [h2, if_neg (by decide)], h2⟩
theorem ct_yes {x y : Int} {zs : List Nat} {lv : Nat} (h : coO x y zs lv = true) (h2 : ctF x.toNat zs lv (coM x y zs lv) = true) : ctR x y zs lv = ctL x.toNat zs lv (coM x y zs lv) ∧ ctB x y zs lv = true := by
  have h3 : ctB x y zs lv = true := by unfold ctB; rw [h, h2]; rfl
  exact ⟨by unfold ctR; rw [if_pos h3], h3⟩

end Go.Proofs.Ytfjahgojmiednaa
