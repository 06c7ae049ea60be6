/-
  What is proved here: rows of complex numbers, compared and marked by the law, as walks. Conditions: at most 256 numbers.
-/
import Derived.Test.YthhimielelpcoaaOwnF
import Derived.Test.YthhimielelpcoaaCpx
namespace Go.Proofs.Ythhimielelpcoaa
open Flt Go.RowKit

theorem run_store_complex (P : Program) (w : World) (a : Addr) (m : Mode) (k : FloatKind) (b c : Nat) : (store a (.complex k b c) m).run P w = stored P w a (.complex k b c) m := run_store P w a _ m rfl
attribute [local go_sem] run_store_complex

/-- the element at a place -/
def atC (zs : List (Nat × Nat)) (j : Nat) : Nat × Nat := zs.getD j (0, 0)
theorem atC_is {zs : List (Nat × Nat)} {j : Nat} (h : j < zs.length) : atC zs j = zs[j] := by simp [atC, List.getD, h]
def cV (p : Nat × Nat) : Value := .complex .f32 p.1 p.2

/-- a slice of complex numbers below a block -/
def RowC (w : World) (B : Nat) (A : Option Addr) (zs : List (Nat × Nat)) : Prop :=
  0 < zs.length → ∃ b off, A = some ⟨b, off, none⟩ ∧ b < B ∧ ∀ j, j < zs.length → w.cell? ⟨b, off + j, none⟩ = some (cV (atC zs j))
/-- a slice of complex numbers from a block on, that may be written -/
def OwnC (w : World) (B : Nat) (A : Option Addr) (zs : List (Nat × Nat)) : Prop :=
  0 < zs.length → ∃ b off, A = some ⟨b, off, none⟩ ∧ B ≤ b ∧ b < w.heap.size ∧ (∀ j, j < zs.length → w.cell? ⟨b, off + j, none⟩ = some (cV (atC zs j))) ∧ ∀ j, j < zs.length → w.frozen? ⟨b, off + j, none⟩ = false

theorem RowC.below {w w' : World} {B : Nat} {A : Option Addr} {zs : List (Nat × Nat)} (h : RowC w B A zs) (hb : Below B w w') : RowC w' B A zs := by
  intro h0
  obtain ⟨b, off, hA, hlt, hc⟩ := h h0
  exact ⟨b, off, hA, hlt, fun j hj => by rw [hb.cell hlt]; exact hc j hj⟩
theorem RowC.mono {w : World} {B B' : Nat} {A : Option Addr} {zs : List (Nat × Nat)} (h : RowC w B A zs) (hb : B ≤ B') : RowC w B' A zs := by
  intro h0
  obtain ⟨b, off, hA, hlt, hc⟩ := h h0
  exact ⟨b, off, hA, by omega, hc⟩
theorem OwnC.row {w : World} {B : Nat} {A : Option Addr} {zs : List (Nat × Nat)} (h : OwnC w B A zs) : RowC w w.heap.size A zs := by
  intro h0
  obtain ⟨b, off, hA, _, hlt, hc, _⟩ := h h0
  exact ⟨b, off, hA, hlt, hc⟩
theorem OwnC.below {w w' : World} {B : Nat} {A : Option Addr} {zs : List (Nat × Nat)} (h : OwnC w B A zs) (hb : Below w.heap.size w w') : OwnC w' B A zs := by
  intro h0
  obtain ⟨b, off, hA, hle, hlt, hc, hf⟩ := h h0
  exact ⟨b, off, hA, hle, Nat.lt_of_lt_of_le hlt hb.size, fun j hj => by rw [hb.cell hlt]; exact hc j hj, fun j hj => by rw [hb.frozen hlt]; exact hf j hj⟩
theorem RowC.but {w w' : World} {B B' : Nat} {A C : Option Addr} {zs : List (Nat × Nat)} (h : RowC w B' C zs) (hb : But B A w w') (hB : B' ≤ B) : RowC w' B' C zs := h.below ⟨hb.os, hb.tape, hb.output, by rw [hb.size]; exact Nat.le_refl _, fun k hk => hb.low k (by omega)⟩
theorem OwnC.set {w : World} {B k b off : Nat} {ys zs : List (Nat × Nat)} {x : Nat × Nat} (h : OwnC w B (some ⟨b, off, none⟩) ys) (hk : k < ys.length) (hl : zs.length = ys.length) (hz : ∀ j, j < ys.length → atC zs j = if j = k then x else atC ys j) :
    OwnC (w.setCell ⟨b, off + k, none⟩ (.complex .f32 x.1 x.2)) B (some ⟨b, off, none⟩) zs := by
  intro _
  obtain ⟨b', off', e, hle, hlt, hc, hf⟩ := h (by omega)
  injection e with e
  injection e with e1 e2 _
  subst e1 e2
  refine ⟨b, off, rfl, hle, by simpa [World.setCell] using hlt, fun j hj => ?_, fun j hj => by rw [World.frozen?_setCell]; exact hf j (by omega)⟩
  rw [hz j (by omega)]
  by_cases e : j = k
  · subst e
    rw [World.cell?_setCell_same w _ _ (hc j (by omega)), if_pos rfl]; rfl
  · rw [World.cell?_setCell_other w _ _ _ (by intro h; injection h with _ h2 _; omega), hc j (by omega), if_neg e]

/-- a mark: an integer and 1 -/
def wI (n : Nat) : Nat := floatOfInt .f64 (n : Int)
def cI (n : Nat) : Nat := (floatToFloatBits .f64 (wI n) .f32).getD 0
def one32 : Nat := 1065353216
theorem cI_all : ∀ n : Fin 258, floatToFloatBits .f64 (wI n.val) .f32 = some (cI n.val) ∧ FloatKind.f32.format.order (cI n.val) (cI n.val) = some .eq := by decide +kernel
theorem one_all : floatToFloatBits .f64 4607182418800017408 .f32 = some one32 ∧ FloatKind.f32.format.order one32 one32 = some .eq := by decide +kernel

theorem conv_mark {P : Program} {src dst : TypeId} (hs : (P.underlying src).isSome = true) (hd : P.underlying dst = some (.complex .f32)) (n : Nat) (hn : n ≤ 257) (w : World) :
    (convert src dst (.complex .f64 (wI n) 4607182418800017408)).run P w = .ok (.complex .f32 (cI n) one32) w := by
  have h := (cI_all ⟨n, by omega⟩).1
  exact run_convert_complex w src dst .f64 .f32 _ _ _ _ hs hd (by unfold cConvBits; simp only [h, one_all.1]; rfl)

def upC (m n : Nat) : List (Nat × Nat) := (List.range n).map fun j => (cI (m + j), one32)
theorem upC_length (m n : Nat) : (upC m n).length = n := by simp [upC]
theorem at_upC {m n j : Nat} (h : j < n) : atC (upC m n) j = (cI (m + j), one32) := by simp [atC, upC, List.getD, h]
def mixC (zs : List (Nat × Nat)) (m k : Nat) : List (Nat × Nat) := (List.range zs.length).map fun j => if j < k then (cI (m + j), one32) else atC zs j
theorem mixC_length (zs : List (Nat × Nat)) (m k : Nat) : (mixC zs m k).length = zs.length := by simp [mixC]
theorem at_mixC {zs : List (Nat × Nat)} {m k j : Nat} (h : j < zs.length) : atC (mixC zs m k) j = if j < k then (cI (m + j), one32) else atC zs j := by simp [atC, mixC, List.getD, h]
theorem mixC_zero (zs : List (Nat × Nat)) (m : Nat) : mixC zs m 0 = zs := by
  apply List.ext_getElem (by simp [mixC])
  intro j h1 h2
  simp [mixC, atC, List.getD, h2]
theorem mixC_all (zs : List (Nat × Nat)) (m : Nat) : mixC zs m zs.length = upC m zs.length := by
  apply List.ext_getElem (by simp [mixC, upC])
  intro j h1 h2
  simp [upC] at h2
  simp [mixC, upC, h2]

end Go.Proofs.Ythhimielelpcoaa
