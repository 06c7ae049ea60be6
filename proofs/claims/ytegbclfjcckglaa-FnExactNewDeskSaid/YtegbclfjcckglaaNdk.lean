/-
  What is proved here: the new desk of both packages, as walks. Conditions: none.
-/
import Derived.Test.YtegbclfjcckglaaKoc
import Derived.Test.YtegbclfjcckglaaOwnCb
namespace Go.Proofs.Ytegbclfjcckglaa
open Flt Go.RowKit
attribute [local go_sem] run_store_complex run_store_float

def ptsL : List (Nat × Nat) := [(0, 0), (1065353216, 0)]
/-- the new desk -/
def dV (g p : Nat) : Value := .agg #[.int .i64 0, .complex .f32 3212836864 0, .complex .f32 0 0, .float .f32 1082130432, .int .i64 4, .int .i64 4, .string ⟨#[70, 88]⟩, .slice (some ⟨g, 0, none⟩) 2 2, .slice (some ⟨p, 0, none⟩) 2 2]
def DeskP (w : World) (e : Ending) (w' : World) : Prop :=
  ∃ g p, e = .returned (dV g p) ∧ w.heap.size ≤ g ∧ g < p ∧ p < w'.heap.size ∧ Hid (OwnS w' g (some ⟨g, 0, none⟩) dragonL) ∧ Hid (OwnC w' p (some ⟨p, 0, none⟩) ptsL) ∧ Hid (Below w.heap.size w w')

theorem OwnC.setLow {w : World} {B : Nat} {A : Option Addr} {zs : List (Nat × Nat)} (h : OwnC w B A zs) {q : Addr} (hq : q.block < B) (u : Value) : OwnC (w.setCell q u) B A zs := by
  intro h0
  obtain ⟨b, off, rfl, hle, hlt, hc, hf⟩ := h h0
  refine ⟨b, off, rfl, hle, by simpa [World.setCell] using hlt, fun j hj => ?_, fun j hj => by rw [World.frozen?_setCell]; exact hf j hj⟩
  rw [World.cell?_setCell_other w _ _ _ (by intro e; subst e; exact absurd hq (Nat.not_lt.2 hle))]
  exact hc j hj

theorem setCell_size (w : World) (q : Addr) (u : Value) : (w.setCell q u).heap.size = w.heap.size := by simp [World.setCell]

theorem own_pts (w : World) (t : TypeId) : OwnC (w.alloc (.cells #[.complex .f32 0 0, .complex .f32 1065353216 0] t)) w.heap.size (some ⟨w.heap.size, 0, none⟩) ptsL := by
  intro _
  refine ⟨w.heap.size, 0, rfl, Nat.le_refl _, by simp, fun j hj => ?_, fun j _ => World.frozen?_alloc_new _ _ _ _⟩
  have h : j = 0 ∨ j = 1 := by have : j < 2 := hj; omega
  rcases h with rfl | rfl <;> simp [World.cell?, World.alloc, -World.alloc_eq, ptsL, atC, cV]

theorem var_cells {w w1 : World} {v : Array Value} {t : TypeId} (h : Below (w.alloc (.cells v t)).heap.size (w.alloc (.cells v t)) w1) (o : Nat) :
    w1.cell? ⟨w.heap.size, o, none⟩ = v[o]? ∧ w1.frozen? ⟨w.heap.size, o, none⟩ = false := by
  refine ⟨?_, ?_⟩
  · rw [h.cell (p := ⟨w.heap.size, o, none⟩) (by show w.heap.size < _; simp)]
    simp [World.cell?, World.alloc, -World.alloc_eq]
  · rw [h.frozen (p := ⟨w.heap.size, o, none⟩) (by show w.heap.size < _; simp)]
    exact World.frozen?_alloc_new _ _ _ _

theorem deskP_of {w w1 Y : World} {g : Nat} {t : TypeId} (hg : w.heap.size ≤ g) (hs : g < w1.heap.size) (hY : Y.heap.size = w1.heap.size) (hO : OwnS Y g (some ⟨g, 0, none⟩) dragonL) (hB : Below w.heap.size w Y) :
    DeskP w (.returned (dV g w1.heap.size)) (Y.alloc (.cells #[.complex .f32 0 0, .complex .f32 1065353216 0] t)) := by
  refine ⟨g, w1.heap.size, rfl, hg, hs, by simp [hY], hO.below ((Below.refl _ _).alloc (Nat.le_refl _) _), ?_, hB.alloc hB.size _⟩
  rw [← hY]
  exact own_pts _ _

set_option maxHeartbeats 1000000 in
theorem desk_i (w : World) : Calls Try.prog 6 #[] w (DeskP w) := by
  go_enter Try.func6, Try.ntmps6
  go_wp2_with fail
  refine (dragon_i _).mono ?_
  rintro e w1 ⟨g, rfl, l1, s1, O1, B1⟩
  have hx : w.heap.size < w1.heap.size := by have := B1.out.size; simp at this; omega
  have hg : w.heap.size < g := by simp at l1; omega
  have hc := fun o => (var_cells B1.out o).1
  have hf := fun o => (var_cells B1.out o).2
  have c0 := (hc 0).trans rfl; have c1 := (hc 1).trans rfl; have c2 := (hc 2).trans rfl; have c3 := (hc 3).trans rfl; have c4 := (hc 4).trans rfl; have c5 := (hc 5).trans rfl; have c6 := (hc 6).trans rfl; have c7 := (hc 7).trans rfl; have c8 := (hc 8).trans rfl
  have HB : Hid (Below w.heap.size w w1) := ((Below.refl _ _).alloc (Nat.le_refl _) _).trans (B1.out.mono (by simp))
  have HG := Lib.hid hg
  have HX := Lib.hid hx
  have HS := Lib.hid s1
  clear B1 l1 hg s1 hc
  go_wp2_with fail
  refine bodyPost_ret (v := dV g w1.heap.size) (by simp [results, Try.results6, go_sem, dV, c0, c1, c2, c3, c4, c5, c6, c7, c8, hx]) rfl (deskP_of (Nat.le_of_lt HG.out) HS.out ?_ ?_ ?_)
  · simp only [setCell_size]
  · iterate 9 (refine OwnS.setLow ?_ (by exact HG.out) _)
    exact O1.out
  · iterate 9 (refine Below.setCell ?_ (by exact Nat.le_refl _) _)
    exact HB.out

set_option maxHeartbeats 1000000 in
theorem desk_s (w : World) : Calls Try.prog 5 #[] w (DeskP w) := by
  go_enter Try.func5, Try.ntmps5
  go_wp2_with fail
  refine (dragon_s _).mono ?_
  rintro e w1 ⟨g, rfl, l1, s1, O1, B1⟩
  have hz : w.heap.size + 1 < w1.heap.size := by have := B1.out.size; simp at this; omega
  have hx : w.heap.size < w1.heap.size := by omega
  have hg : w.heap.size + 1 < g := by simp at l1; omega
  have hs1 : (w.alloc (.cells #[.int .i64 0, .complex .f32 0 0, .complex .f32 0 0, .float .f32 0, .int .i64 0, .int .i64 0, .string ⟨#[]⟩, .slice none 0 0, .slice none 0 0] 33)).heap.size = w.heap.size + 1 := by simp
  have hc := fun o => (var_cells B1.out o).1
  have hf := fun o => (var_cells B1.out o).2
  have hc2 := fun o => (var_cells (((Below.refl _ _).alloc (Nat.le_refl _) _).trans (B1.out.mono (by simp))) o).1
  have hf2 := fun o => (var_cells (((Below.refl _ _).alloc (Nat.le_refl _) _).trans (B1.out.mono (by simp))) o).2
  rw [hs1] at hc hf
  have c0 := (hc 0).trans rfl; have c1 := (hc 1).trans rfl; have c2 := (hc 2).trans rfl; have c3 := (hc 3).trans rfl; have c4 := (hc 4).trans rfl; have c5 := (hc 5).trans rfl; have c6 := (hc 6).trans rfl; have c7 := (hc 7).trans rfl; have c8 := (hc 8).trans rfl
  have d0 := (hc2 0).trans rfl; have d1 := (hc2 1).trans rfl; have d2 := (hc2 2).trans rfl; have d3 := (hc2 3).trans rfl; have d4 := (hc2 4).trans rfl; have d5 := (hc2 5).trans rfl; have d6 := (hc2 6).trans rfl; have d7 := (hc2 7).trans rfl; have d8 := (hc2 8).trans rfl
  have HB : Hid (Below w.heap.size w w1) := (((Below.refl _ _).alloc (Nat.le_refl _) _).alloc (by simp) _).trans (B1.out.mono (by simp; omega))
  have HG := Lib.hid hg
  have HX := Lib.hid hx
  have HZ := Lib.hid hz
  have HS := Lib.hid s1
  clear B1 l1 hg s1 hc hc2 hs1
  go_wp2_with fail
  refine bodyPost_ret (v := dV g w1.heap.size) (by simp [results, Try.results5, go_sem, dV, d0, d1, d2, d3, d4, d5, d6, d7, d8, hx]) rfl (deskP_of (by have := HG.out; omega) HS.out ?_ ?_ ?_)
  · simp only [setCell_size]
  · iterate 12 (refine OwnS.setLow ?_ (by first | exact HG.out | exact Nat.lt_of_succ_lt HG.out) _)
    exact O1.out
  · iterate 12 (refine Below.setCell ?_ (by first | exact Nat.le_refl _ | exact Nat.le_succ _) _)
    exact HB.out

end Go.Proofs.Ytegbclfjcckglaa
