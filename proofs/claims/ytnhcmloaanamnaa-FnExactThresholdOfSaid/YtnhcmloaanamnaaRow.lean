/-
  What is proved here: copies and comparisons of lists of 32-bit numbers, as walks. Conditions: at most 1048576 numbers.
-/
import Derived.Test.YtnhcmloaanamnaaNum
import Derived.OwnWalk
import Derived.LoopTactic
import Derived.Laws.MakeOwn
import Derived.Laws.Entries
import Derived.Deep.Slices
import Derived.Outline
import Derived.Deep.RegionWith
import Derived.BigQuiet
import Derived.Deep.QuietTactic
namespace Go.Proofs.Ytnhcmloaanamnaa
open Flt Go.RowKit

theorem run_store_float (P : Program) (w : World) (a : Addr) (m : Mode) (k : FloatKind) (b : Nat) : (store a (.float k b) m).run P w = stored P w a (.float k b) m := run_store P w a _ m rfl
attribute [local go_sem] run_store_float

/-- the element at a place -/
def at0 (zs : List Nat) (j : Nat) : Nat := zs.getD j 0

/-- a slice of 32-bit numbers below a block -/
def RowF (w : World) (B : Nat) (A : Option Addr) (zs : List Nat) : Prop :=
  0 < zs.length → ∃ b off, A = some ⟨b, off, none⟩ ∧ b < B ∧ ∀ j, j < zs.length → w.cell? ⟨b, off + j, none⟩ = some (.float .f32 (at0 zs j))

theorem RowF.below {w w' : World} {B : Nat} {A : Option Addr} {zs : List Nat} (h : RowF w B A zs) (hb : Below B w w') : RowF w' B A zs := by
  intro h0
  obtain ⟨b, off, hA, hlt, hc⟩ := h h0
  exact ⟨b, off, hA, hlt, fun j hj => by rw [hb.cell hlt]; exact hc j hj⟩
theorem RowF.mono {w : World} {B B' : Nat} {A : Option Addr} {zs : List Nat} (h : RowF w B A zs) (hb : B ≤ B') : RowF w B' A zs := by
  intro h0
  obtain ⟨b, off, hA, hlt, hc⟩ := h h0
  exact ⟨b, off, hA, by omega, hc⟩
theorem RowF.drewN {w : World} {B n : Nat} {A : Option Addr} {zs : List Nat} (h : RowF w B A zs) : RowF (w.drewN n) B A zs := h

theorem info_f32 : (Try.prog.info? 34).map (fun i => (i.zero, i.size, i.bytes)) = some (some (.float .f32 0), 1, 4) := by kernel_rfl

theorem run_make_rowF {P : Program} (t e : TypeId) (i : TypeInfo) (z : Value) (ht : P.underlying t = some (.slice e)) (hi : P.info? e = some i) (hz : i.zero = some z)
    (kl kc : IntKind) (n c : Nat) (hnc : n ≤ c) (hbytes : i.bytes * c ≤ 281474976710656) (h63 : c ≤ 9223372036854775807) (w : World) :
    (Instr.makeSlice t (.int kl (n : Int)) (.int kc (c : Int))).run P w = .ok (.slice (some ⟨w.heap.size, 0, none⟩) n c) (w.alloc (.cells (madeCells z.cells (c * i.size)) e)) := by
  have hb : (i.bytes : Int) * (c : Int) ≤ 281474976710656 := by
    have h : ((i.bytes * c : Nat) : Int) ≤ 281474976710656 := by omega
    rwa [Int.natCast_mul] at h
  have hr := run_make (P := P) w t e i z ht hi hz kl kc n c (by omega) (by omega) hb (by omega)
  simp only [Int.toNat_natCast] at hr
  exact hr

/-- the new row's cells, k of them copied -/
structure Copied (w : World) (G n : Nat) (zs : List Nat) (k : Nat) : Prop where
  size : w.heap.size = G + 1
  cell : ∀ j, j < n → w.cell? ⟨G, j, none⟩ = some (.float .f32 (if j < k then at0 zs j else 0))
  free : ∀ j, w.frozen? ⟨G, j, none⟩ = false

theorem copied_start (w : World) (n : Nat) (zs : List Nat) : Copied (w.alloc (.cells (madeCells #[.float .f32 0] n) 34)) w.heap.size n zs 0 := by
  refine ⟨by simp, fun j hj => ?_, fun j => ?_⟩
  · have h : (madeCells #[.float .f32 0] n)[j]? = some (.float .f32 0) := by simp [madeCells, hj, Nat.mod_one]
    rw [if_neg (Nat.not_lt_zero _)]
    simp [World.cell?, World.alloc, -World.alloc_eq, h]
  · simp [World.frozen?, World.alloc, -World.alloc_eq]

theorem copied_step {w : World} {G n k : Nat} {zs : List Nat} (h : Copied w G n zs k) (hk : k < n) : Copied (w.setCell ⟨G, k, none⟩ (.float .f32 (at0 zs k))) G n zs (k + 1) := by
  refine ⟨by have := h.size; simpa [World.setCell] using this, fun j hj => ?_, fun j => by rw [World.frozen?_setCell]; exact h.free j⟩
  by_cases e : j = k
  · subst e
    rw [World.cell?_setCell_same w _ _ (h.cell j hj), if_pos (by omega)]
  · rw [World.cell?_setCell_other w _ _ _ (by intro h; injection h with _ h2 _; omega), h.cell j hj]
    by_cases hjk : j < k
    · rw [if_pos hjk, if_pos (by omega)]
    · rw [if_neg hjk, if_neg (by omega)]

theorem toF (A : Option Addr) (c : Nat) (zs : List Nat) (w : World) (hr : RowF w w.heap.size A zs) (hn : zs.length ≤ 1048576) :
    Calls Try.prog 10 #[.slice A zs.length c] w fun e w' => ∃ g, e = .returned (.slice (some ⟨g, 0, none⟩) zs.length zs.length) ∧ w.heap.size ≤ g ∧ g < w'.heap.size ∧ Hid (RowF w' w'.heap.size (some ⟨g, 0, none⟩) zs) ∧ Below w.heap.size w w' := by
  obtain ⟨i0, hi, hz0, hz1, hz2⟩ := info_parts info_f32
  have hmk := fun W => run_make_rowF (P := Try.prog) 22 34 i0 (.float .f32 0) Try.underlying22 hi hz0 .i64 .i64 zs.length zs.length (Nat.le_refl _) (by rw [hz2]; omega) (by omega) W
  rw [hz1, Nat.mul_one] at hmk
  have HR := Lib.hid hr
  have C0 := Lib.hid (copied_start w zs.length zs)
  have B0 : Hid (Below w.heap.size w (w.alloc (.cells (madeCells #[.float .f32 0] zs.length) 34))) := (Below.refl _ _).alloc (Nat.le_refl _) _
  clear hr hi hz0 hz1 hz2
  go_enter Try.func10, Try.ntmps10
  go_wp2
  clear hmk
  generalize w.alloc (.cells (madeCells #[.float .f32 0] zs.length) 34) = w1 at *
  generalize hG : w.heap.size = G at *
  have HG := Lib.hid hG
  clear hG
  go_loopw [4] (fun i wr => ∃ k : Nat, k ≤ zs.length ∧ i = .int .i64 k ∧ Hid (Copied wr G zs.length zs k) ∧ Hid (Below G w wr)) (fun i _ => zs.length - (intOf i).toNat)
  case atStart => exact ⟨0, Nat.zero_le _, rfl, C0, B0⟩
  case round =>
    obtain ⟨k, hk, rfl, hC, hB⟩ := hrel
    by_cases hlt : k < zs.length
    · obtain ⟨b, off, rfl, hb, hcell⟩ := HR.out (by omega)
      have hc := hcell k hlt
      rw [← hB.out.cell (p := ⟨b, off + k, none⟩) hb] at hc
      have hd := hC.out.cell k hlt
      rw [if_neg (Nat.lt_irrefl k)] at hd
      have hf := hC.out.free k
      have hs := Lib.hid (copied_step hC.out hlt)
      have hs2 : Hid (Below G w (wr.setCell ⟨G, k, none⟩ (.float .f32 (at0 zs k)))) := hB.out.setCell (Nat.le_refl _) _
      clear hcell hC hB
      go_wp2
      go_roundw
      case rel => exact ⟨k + 1, by omega, by go_num, hs, hs2⟩
      case measure => simp [intOf]; omega
    · have he : k = zs.length := by omega
      have HE := Lib.hid he
      clear he
      go_wp2
      go_ret
      refine ⟨G, rfl, by rw [HG.out]; exact Nat.le_refl _, by have := hC.out.size; omega, ?_, by rw [HG.out]; exact hB.out⟩
      show RowF wr wr.heap.size (some ⟨G, 0, none⟩) zs
      intro h0
      refine ⟨G, 0, rfl, by have := hC.out.size; omega, fun j hj => ?_⟩
      rw [Nat.zero_add, hC.out.cell j hj, if_pos (by have := HE.out; omega)]

set_option maxHeartbeats 8000000 in
theorem eqF (A B : Option Addr) (c d : Nat) (zs : List Nat) (w : World) (Z : Nat) (hr : RowF w Z A zs) (hq : RowF w Z B zs) (hn : zs.length ≤ 1048576) :
    Calls Try.prog 13 #[.slice A zs.length c, .slice B zs.length d] w fun e w' => e = .returned (.bool true) ∧ ∃ n, w' = w.drewN n := by
  have HR := Lib.hid hr
  have HQ := Lib.hid hq
  clear hr hq
  go_enter Try.func13, Try.ntmps13
  go_wp2
  go_loopw [5] (fun i wr => ∃ k : Nat, k ≤ zs.length ∧ i = .int .i64 k ∧ ∃ n, wr = w.drewN n) (fun i _ => zs.length - (intOf i).toNat)
  case atStart => exact ⟨0, Nat.zero_le _, rfl, 0, rfl⟩
  case round =>
    obtain ⟨k, hk, rfl, n, rfl⟩ := hrel
    by_cases hlt : k < zs.length
    · obtain ⟨b, off, rfl, hb, hcell⟩ := HR.out (by omega)
      obtain ⟨b2, off2, rfl, hb2, hcell2⟩ := HQ.out (by omega)
      have hc := hcell k hlt
      have hd := hcell2 k hlt
      clear hcell hcell2
      go_wp2_with fail
      go_region_with (first | (go_at_call 22; refine (sameFloat_any _ _ (wid_eq (by assumption) (by assumption)) _).mono ?_; rintro e w' ⟨rfl, n2, rfl⟩) | ((with_reducible refine upon_wid ?_ ?_ ?_); rotate_left 2; intro _ _ _ _; rotate_left 1; kernel_rfl; kernel_rfl))
      all_goals
        go_wp2
        go_roundw
        case rel => exact ⟨k + 1, by omega, by go_num, _, rfl⟩
        case measure => simp [intOf]; omega
    · go_wp2
      go_ret
      exact ⟨rfl, _, rfl⟩

end Go.Proofs.Ytnhcmloaanamnaa
