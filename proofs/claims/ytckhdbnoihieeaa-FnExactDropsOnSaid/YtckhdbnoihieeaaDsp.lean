/-
  What is proved here: drops on a sheet, one after another, told as lists of words. Conditions: none but those that each theorem names. Own text.
-/
import Derived.Test.YtckhdbnoihieeaaDrl
namespace Go.Proofs.Ytckhdbnoihieeaa
open Flt Go.RowKit
set_option linter.unusedVariables false

theorem toldY_told {f : Nat → Option Nat} {n : Nat} (h : toldB f n = true) : Told f n n (toldY f n) := by
  refine ⟨toldY_length _ _, fun j hj => ?_⟩
  have hf : finO (f j) = true := toldB_get h hj
  have e : at0 (toldY f n) j = (f j).getD 0 := by simp [at0, toldY, List.getD, hj]
  rw [e]
  cases hv : f j with
  | none => rw [hv] at hf; cases hf
  | some v =>
    rw [hv] at hf
    cases hn : nanW .f32 v with
    | false => exact can_num hn
    | true => have := finB_nan hn; rw [show finB .f32 v = true from hf] at this; cases this
def dsX (s x : Int) (k : Nat) : Int := itS s (2 * k + 1) / 65536 % x
def dsY (s y : Int) (k : Nat) : Int := itS s (2 * k + 2) / 65536 % y
def dsA (s x y : Int) (k : Nat) : Nat := (dsY s y k * x + dsX s x k).toNat
def dsD (x y : Int) (sn tk lv : Nat) (s : Int) (ws : List Nat) (k : Nat) : DrS := drI tk lv x y (dr0 ws (dsA s x y k)) sn
def dsI (x y : Int) (zs : List Nat) (sn tk lv : Nat) (s : Int) : Nat → Option (List Nat)
  | 0 => some zs
  | k + 1 => (dsI x y zs sn tk lv s k).bind fun ws => if toldB (drF (dsD x y sn tk lv s ws k)) ws.length = true then some (toldY (drF (dsD x y sn tk lv s ws k)) ws.length) else none
theorem dsI_no {x y : Int} {zs ws : List Nat} {sn tk lv : Nat} {s : Int} {k : Nat} (h : dsI x y zs sn tk lv s k = some ws) (g : toldB (drF (dsD x y sn tk lv s ws k)) ws.length = false) : ∀ j, dsI x y zs sn tk lv s (k + 1 + j) = none := by
  intro j
  induction j with
  | zero =>
    show (dsI x y zs sn tk lv s k).bind _ = none
    rw [h]
    show (if _ then _ else _) = none
    rw [g]; rfl
  | succ j ih =>
    have ih' : dsI x y zs sn tk lv s ((k + 1).add j) = none := ih
    show (dsI x y zs sn tk lv s ((k + 1).add j)).bind _ = none
    rw [ih']; rfl
theorem dsI_yes {x y : Int} {zs ws : List Nat} {sn tk lv : Nat} {s : Int} {k : Nat} (h : dsI x y zs sn tk lv s k = some ws) (g : toldB (drF (dsD x y sn tk lv s ws k)) ws.length = true) : dsI x y zs sn tk lv s (k + 1) = some (toldY (drF (dsD x y sn tk lv s ws k)) ws.length) := by
  show (dsI x y zs sn tk lv s k).bind _ = _
  rw [h]
  show (if _ then _ else _) = _
  rw [g]; rfl
theorem dsI_sh {x y : Int} {zs : List Nat} {sn tk lv : Nat} {s : Int} (hs : shB x y zs = true) : ∀ k ws, dsI x y zs sn tk lv s k = some ws → shB x y ws = true ∧ ws.length = zs.length := by
  intro k
  induction k with
  | zero => intro ws h; injection h with h; subst h; exact ⟨hs, rfl⟩
  | succ k ih =>
    intro ws h
    cases hk : dsI x y zs sn tk lv s k with
    | none =>
      have h' : (dsI x y zs sn tk lv s k).bind _ = some ws := h
      rw [hk] at h'; cases h'
    | some vs =>
      obtain ⟨h1, h2⟩ := ih vs hk
      cases g : toldB (drF (dsD x y sn tk lv s vs k)) vs.length with
      | false => rw [dsI_no hk g 0] at h; cases h
      | true =>
        rw [dsI_yes hk g] at h
        injection h with h
        subst h
        refine ⟨?_, by rw [toldY_length]; exact h2⟩
        rw [shB_len h1 (toldY_length _ _), (toldY_told g).fin]
        exact g
def dsA0 (x y : Int) (zs : List Nat) (count steps : Int) (tk lv : Nat) (s : Int) : Bool := shB x y zs && (inB count 0 128 && (inB steps 0 128 && (ruleB tk lv && seedB s)))
def dsB (x y : Int) (zs : List Nat) (count steps : Int) (tk lv : Nat) (s : Int) : Bool := dsA0 x y zs count steps tk lv s && (dsI x y zs steps.toNat tk lv s count.toNat).isSome
def dsR (x y : Int) (zs : List Nat) (count steps : Int) (tk lv : Nat) (s : Int) : List Nat := (dsI x y zs steps.toNat tk lv s count.toNat).getD []
theorem dsB_no {x y : Int} {zs : List Nat} {count steps : Int} {tk lv : Nat} {s : Int} (h : dsA0 x y zs count steps tk lv s = false) : dsB x y zs count steps tk lv s = false := by unfold dsB; rw [h]; rfl
theorem dsA0_1 {x y : Int} {zs : List Nat} {count steps : Int} {tk lv : Nat} {s : Int} (h : shB x y zs = false) : dsA0 x y zs count steps tk lv s = false := by unfold dsA0; rw [h]; rfl
theorem dsA0_2 {x y : Int} {zs : List Nat} {count steps : Int} {tk lv : Nat} {s : Int} (h : inB count 0 128 = false) : dsA0 x y zs count steps tk lv s = false := by unfold dsA0; rw [h]; cases shB x y zs <;> rfl
theorem dsA0_3 {x y : Int} {zs : List Nat} {count steps : Int} {tk lv : Nat} {s : Int} (h : inB steps 0 128 = false) : dsA0 x y zs count steps tk lv s = false := by unfold dsA0; rw [h]; cases shB x y zs <;> cases inB count 0 128 <;> rfl
theorem dsA0_4 {x y : Int} {zs : List Nat} {count steps : Int} {tk lv : Nat} {s : Int} (h : ruleB tk lv = false) : dsA0 x y zs count steps tk lv s = false := by unfold dsA0; rw [h]; cases shB x y zs <;> cases inB count 0 128 <;> cases inB steps 0 128 <;> rfl
theorem dsA0_5 {x y : Int} {zs : List Nat} {count steps : Int} {tk lv : Nat} {s : Int} (h : seedB s = false) : dsA0 x y zs count steps tk lv s = false := by unfold dsA0; rw [h]; cases shB x y zs <;> cases inB count 0 128 <;> cases inB steps 0 128 <;> cases ruleB tk lv <;> rfl
theorem dsA0_yes {x y : Int} {zs : List Nat} {count steps : Int} {tk lv : Nat} {s : Int} (h1 : shB x y zs = true) (h2 : inB count 0 128 = true) (h3 : inB steps 0 128 = true) (h4 : ruleB tk lv = true) (h5 : seedB s = true) : dsA0 x y zs count steps tk lv s = true := by unfold dsA0; rw [h1, h2, h3, h4, h5]; rfl
/-- the place of a drawn drop -/
theorem ds_place {x y : Int} {n : Nat} (s : Int) (k : Nat) (hx : 1 ≤ x ∧ x ≤ 17) (hy : 1 ≤ y ∧ y ≤ 17) (hn : (n : Int) = x * y) (hm : x * y ≤ 289) :
    0 ≤ dsX s x k ∧ dsX s x k ≤ x - 1 ∧ 0 ≤ dsY s y k ∧ dsY s y k ≤ y - 1 ∧ dsA s x y k < n ∧ dsY s y k * x + dsX s x k = (dsA s x y k : Int) ∧ ∃ t, IntKind.i64.wrap (dsY s y k * x) = t ∧ IntKind.i64.wrap (t + dsX s x k) = (dsA s x y k : Int) := by
  have p0 : 0 ≤ dsX s x k := Int.emod_nonneg _ (by omega)
  have p1 : dsX s x k < x := Int.emod_lt_of_pos _ (by omega)
  have q0 : 0 ≤ dsY s y k := Int.emod_nonneg _ (by omega)
  have q1 : dsY s y k < y := Int.emod_lt_of_pos _ (by omega)
  have m0 : 0 ≤ dsY s y k * x := Int.mul_nonneg q0 (by omega)
  have m1 : dsY s y k * x ≤ (y - 1) * x := Int.mul_le_mul_of_nonneg_right (by omega) (by omega)
  have m2 : (y - 1) * x = x * y - x := by rw [Int.sub_mul, Int.one_mul, Int.mul_comm y x]
  have e : (dsA s x y k : Int) = dsY s y k * x + dsX s x k := by unfold dsA; omega
  refine ⟨p0, by omega, q0, by omega, by omega, e.symm, dsY s y k * x, IntWalk.i64_in _ (by omega), ?_⟩
  rw [IntWalk.i64_in _ (by omega)]; exact e.symm
theorem ds_drp {x y : Int} {zs : List Nat} {sn tk lv : Nat} (s : Int) (k : Nat) (h1 : shB x y zs = true) (hn : (zs.length : Int) = x * y) (hs : sn ≤ 128) (h5 : ruleB tk lv = true) :
    drpB x y zs (dsX s x k) (dsY s y k) (sn : Int) tk lv = toldB (drF (dsD x y sn tk lv s zs k)) zs.length ∧ drpS x y zs (dsX s x k) (dsY s y k) (sn : Int) tk lv = dsD x y sn tk lv s zs k := by
  have hxy := shB_xy h1
  obtain ⟨p0, p1, q0, q1, _, e, _⟩ := ds_place (n := zs.length) s k hxy.1 hxy.2 hn (Fk.sides_bd (shB_sides h1).1).2
  have g1 : inB (dsX s x k) 0 (wrap64 (x - 1)) = true := by rw [IntWalk.wrap64_in _ (by omega)]; exact Fk.inB_in p0 p1
  have g2 : inB (dsY s y k) 0 (wrap64 (y - 1)) = true := by rw [IntWalk.wrap64_in _ (by omega)]; exact Fk.inB_in q0 q1
  have hd : drpS x y zs (dsX s x k) (dsY s y k) (sn : Int) tk lv = dsD x y sn tk lv s zs k := drpS_eq e
  refine ⟨?_, hd⟩
  unfold drpB
  rw [drpA_yes h1 g1 g2 (Fk.inB_in (by omega) (by omega)) h5, hd]; rfl
theorem itS_2 (s : Int) (k : Nat) : nextS (nextS (itS s (2 * k))) = itS s (2 * (k + 1)) := rfl

end Go.Proofs.Ytckhdbnoihieeaa
