/-
  What is proved here: a row of 32-bit numbers in a block of its own, changed place by place; what is given of a sheet if it is valid, of both packages, as walks. Conditions: at most 1048576 heights.
-/
import Derived.Test.YthhimielelpcoaaOwt
import Derived.Test.YthhimielelpcoaaRng
namespace Go.Proofs.Ythhimielelpcoaa
open Flt Go.RowKit
attribute [local go_sem] run_store_float

theorem at0_set {ws : List Nat} {k u j : Nat} (hj : j < ws.length) : at0 (ws.set k u) j = if j = k then u else at0 ws j := by
  unfold at0
  rw [List.getD_eq_getElem?_getD, List.getD_eq_getElem?_getD, List.getElem?_set]
  by_cases e : j = k
  · subst e
    rw [if_pos rfl, if_pos rfl, if_pos hj]; rfl
  · rw [if_neg e, if_neg (fun h => e h.symm)]

/-- a row from a block's head on -/
def RowG (w : World) (g : Nat) (ws : List Nat) : Prop := RowIn w g (g + 1) (some ⟨g, 0, none⟩) ws
theorem RowIn.toG {w : World} {lo hi g : Nat} {ws : List Nat} (r : RowIn w lo hi (some ⟨g, 0, none⟩) ws) : RowG w g ws ∧ lo ≤ g ∧ g < hi ∧ hi ≤ w.heap.size := by
  obtain ⟨h1, h2⟩ := r.inn _ rfl
  refine ⟨⟨by have := r.le; show g + 1 ≤ _; exact Nat.le_trans h2 this, fun a ha => by injection ha with ha; subst ha; exact ⟨Nat.le_refl _, Nat.lt_succ_self _⟩, fun h0 => ?_⟩, h1, h2, r.le⟩
  obtain ⟨b, off, hA, _, _, hc, hf⟩ := r.row h0
  injection hA with hA
  injection hA with e1 e2 _
  subst e1 e2
  exact ⟨g, 0, rfl, Nat.le_refl _, Nat.lt_succ_self _, hc, hf⟩
theorem RowG.cell {w : World} {g k : Nat} {ws : List Nat} (r : RowG w g ws) (hk : k < ws.length) : w.cell? ⟨g, k, none⟩ = some (.float .f32 (at0 ws k)) ∧ w.frozen? ⟨g, k, none⟩ = false := by
  obtain ⟨b, off, hA, _, _, hc, hf⟩ := r.row (by omega)
  injection hA with hA
  injection hA with e1 e2 _
  subst e1 e2
  have h1 := hc k hk
  have h2 := hf k hk
  rw [Nat.zero_add] at h1 h2
  exact ⟨h1, h2⟩
theorem RowG.set {w : World} {g k u : Nat} {ws : List Nat} (r : RowG w g ws) (hk : k < ws.length) : RowG (w.setCell ⟨g, k, none⟩ (.float .f32 u)) g (ws.set k u) := by
  refine ⟨by have := r.le; simpa [World.setCell] using this, r.inn, fun _ => ⟨g, 0, rfl, Nat.le_refl _, Nat.lt_succ_self _, fun j hj => ?_, fun j hj => ?_⟩⟩
  · rw [List.length_set] at hj
    rw [Nat.zero_add, at0_set hj]
    by_cases e : j = k
    · subst e
      rw [World.cell?_setCell_same w _ _ (r.cell hj).1, if_pos rfl]
    · rw [World.cell?_setCell_other w _ _ _ (by intro h; injection h with _ h2 _; omega), (r.cell hj).1, if_neg e]
  · rw [List.length_set] at hj
    rw [Nat.zero_add, World.frozen?_setCell]
    exact (r.cell hj).2
theorem RowG.but {w w' : World} {g l h : Nat} {ws : List Nat} (r : RowG w g ws) (hb : ButIn l h w w') (hd : g + 1 ≤ l ∨ h ≤ g) : RowG w' g ws := RowIn.but r hb hd
theorem ButIn.refl (lo hi : Nat) (w : World) : ButIn lo hi w w := ⟨rfl, rfl, rfl, Nat.le_refl _, fun _ _ _ => rfl⟩
theorem ButIn.set {lo hi : Nat} {a w : World} (h : ButIn lo hi a w) {q : Addr} (h1 : lo ≤ q.block) (h2 : q.block < hi) (u : Value) : ButIn lo hi a (w.setCell q u) :=
  ⟨h.os, h.tape, h.output, by have := h.size; simpa [World.setCell] using this, fun k hk hd => by rw [Below.heap_setCell _ _ _ _ (by omega)]; exact h.block k hk hd⟩
theorem ButIn.drewN {lo hi n : Nat} {a w : World} (h : ButIn lo hi a w) : ButIn lo hi a (w.drewN n) := ⟨h.os, h.tape, h.output, h.size, h.block⟩

/-- a sheet, if it is valid -/
def giveY (x y : Int) (zs : List Nat) : List Nat := if shB x y zs = true then zs else []
def giveN (x y : Int) (zs : List Nat) (v : Int) : Int := if shB x y zs = true then v else 0

end Go.Proofs.Ythhimielelpcoaa
