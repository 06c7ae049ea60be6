/-
  What is proved here: copies and comparisons of lists of 32-bit numbers, as walks. Conditions: at most 1048576 numbers.
-/
import Derived.Test.YtckhdbnoihieeaaGreatDoorNum
import Derived.OwnWalk
import Derived.LoopTactic
import Derived.Laws.MakeOwn
import Derived.Laws.Entries
import Derived.Deep.Slices
import Derived.Outline
import Derived.Deep.RegionWith
import Derived.BigQuiet
import Derived.Deep.QuietTactic
namespace Go.Proofs.YtckhdbnoihieeaaGreatDoor
open Flt Go.RowKit

theorem run_store_float (P : Program) (w : World) (a : Addr) (m : Mode) (k : FloatKind) (b : Nat) : (store a (.float k b) m).run P w = stored P w a (.float k b) m := run_store P w a _ m rfl
attribute [local go_sem] run_store_float

/-- the element at a place -/
def at0 (zs : List Nat) (j : Nat) : Nat := zs.getD j 0

/-- a slice of 32-bit numbers below a block -/
def RowF (w : World) (B : Nat) (A : Option Addr) (zs : List Nat) : Prop :=
  0 < zs.length → ∃ b off, A = some ⟨b, off, none⟩ ∧ b < B ∧ ∀ j, j < zs.length → w.cell? ⟨b, off + j, none⟩ = some (.float .f32 (at0 zs j))

theorem RowF.below {w w' : World} {B : Nat} {A : Option Addr} {zs : List Nat} (h : RowF w B A zs) (hb : Below B w w') : RowF w' B A zs := by
  intro h0
  obtain ⟨b, off, hA, hlt, hc⟩ := h h0
  exact ⟨b, off, hA, hlt, fun j hj => by rw [hb.cell hlt]; exact hc j hj⟩
theorem RowF.mono {w : World} {B B' : Nat} {A : Option Addr} {zs : List Nat} (h : RowF w B A zs) (hb : B ≤ B') : RowF w B' A zs := by
  intro h0
  obtain ⟨b, off, hA, hlt, hc⟩ := h h0
  exact ⟨b, off, hA, by omega, hc⟩
theorem RowF.drewN {w : World} {B n : Nat} {A : Option Addr} {zs : List Nat} (h : RowF w B A zs) : RowF (w.drewN n) B A zs := h

theorem info_f32 : (Tryz.prog.info? 28).map (fun i => (i.zero, i.size, i.bytes)) = some (some (.float .f32 0), 1, 4) := by kernel_rfl

theorem run_make_rowF {P : Program} (t e : TypeId) (i : TypeInfo) (z : Value) (ht : P.underlying t = some (.slice e)) (hi : P.info? e = some i) (hz : i.zero = some z)
    (kl kc : IntKind) (n c : Nat) (hnc : n ≤ c) (hbytes : i.bytes * c ≤ 281474976710656) (h63 : c ≤ 9223372036854775807) (w : World) :
    (Instr.makeSlice t (.int kl (n : Int)) (.int kc (c : Int))).run P w = .ok (.slice (some ⟨w.heap.size, 0, none⟩) n c) (w.alloc (.cells (madeCells z.cells (c * i.size)) e)) := by
  have hb : (i.bytes : Int) * (c : Int) ≤ 281474976710656 := by
    have h : ((i.bytes * c : Nat) : Int) ≤ 281474976710656 := by omega
    rwa [Int.natCast_mul] at h
  have hr := run_make (P := P) w t e i z ht hi hz kl kc n c (by omega) (by omega) hb (by omega)
  simp only [Int.toNat_natCast] at hr
  exact hr

/-- the new row's cells, k of them copied -/
structure Copied (w : World) (G n : Nat) (zs : List Nat) (k : Nat) : Prop where
  size : w.heap.size = G + 1
  cell : ∀ j, j < n → w.cell? ⟨G, j, none⟩ = some (.float .f32 (if j < k then at0 zs j else 0))
  free : ∀ j, w.frozen? ⟨G, j, none⟩ = false

theorem copied_start (w : World) (n : Nat) (zs : List Nat) : Copied (w.alloc (.cells (madeCells #[.float .f32 0] n) 28)) w.heap.size n zs 0 := by
  refine ⟨by simp, fun j hj => ?_, fun j => ?_⟩
  · have h : (madeCells #[.float .f32 0] n)[j]? = some (.float .f32 0) := by simp [madeCells, hj, Nat.mod_one]
    rw [if_neg (Nat.not_lt_zero _)]
    simp [World.cell?, World.alloc, -World.alloc_eq, h]
  · simp [World.frozen?, World.alloc, -World.alloc_eq]

theorem copied_step {w : World} {G n k : Nat} {zs : List Nat} (h : Copied w G n zs k) (hk : k < n) : Copied (w.setCell ⟨G, k, none⟩ (.float .f32 (at0 zs k))) G n zs (k + 1) := by
  refine ⟨by have := h.size; simpa [World.setCell] using this, fun j hj => ?_, fun j => by rw [World.frozen?_setCell]; exact h.free j⟩
  by_cases e : j = k
  · subst e
    rw [World.cell?_setCell_same w _ _ (h.cell j hj), if_pos (by omega)]
  · rw [World.cell?_setCell_other w _ _ _ (by intro h; injection h with _ h2 _; omega), h.cell j hj]
    by_cases hjk : j < k
    · rw [if_pos hjk, if_pos (by omega)]
    · rw [if_neg hjk, if_neg (by omega)]



end Go.Proofs.YtckhdbnoihieeaaGreatDoor
