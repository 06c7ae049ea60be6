/-
  What is proved here: copies of sheets, of both packages, as walks. Conditions: at least one height and at most 1048576.
-/
import Derived.Test.YtnhcmloaanamnaaTfr
import Derived.Test.YtnhcmloaanamnaaLsk
import Derived.Deep.RegionHeld3
import Derived.Deep.AppendLies
import Derived.Deep.RegionHeldLaw
namespace Go.Proofs.Ytnhcmloaanamnaa
open Flt Go.RowKit
attribute [local go_sem] run_store_float

theorem map_one {zs : List Nat} : ∀ u ∈ zs.map (Value.float .f32), u.oneCell' = true := by
  intro u hu
  obtain ⟨z, _, rfl⟩ := List.mem_map.1 hu
  rfl

theorem news_of {w W : World} {b off : Nat} {zs : List Nat} (hb : b < w.heap.size) (hc : ∀ j, j < zs.length → w.cell? ⟨b, off + j, none⟩ = some (.float .f32 (at0 zs j))) (h : Below w.heap.size w W) :
    ∀ j u, (zs.map (Value.float .f32))[j]? = some u → W.cell? ((⟨b, off, none⟩ : Addr).add j) = some u := by
  intro j u hu
  rw [List.getElem?_map] at hu
  rcases Nat.lt_or_ge j zs.length with hj | hj
  · rw [List.getElem?_eq_getElem hj] at hu
    injection hu with hu
    subst hu
    rw [Go.WideShapes.add_plain, h.cell (p := ⟨b, off + j, none⟩) hb, hc j hj]
    simp [at0, List.getD, hj]
  · rw [List.getElem?_eq_none hj] at hu; cases hu

/-- what a row owns is a row of words -/
theorem owns_row {w : World} {G g c : Nat} {zs : List Nat} (h : w.ownsRow G 34 1 (.slice (some ⟨g, 0, none⟩) zs.length c) zs.length (zs.map (Value.float .f32))) : RowIn w G w.heap.size (some ⟨g, 0, none⟩) zs := by
  obtain ⟨h1, h2⟩ := World.ownsRow.lt h g rfl
  refine OwnF.rowIn (fun h0 => ⟨g, 0, rfl, h1, h2, fun j hj => ?_, fun j hj => World.ownsRow.frozenAt h _⟩) (fun a ha => by injection ha with ha; subst ha; exact ⟨h1, h2⟩)
  rw [Nat.zero_add, World.ownsRow.cellAt h j (by omega), List.getElem?_map]
  simp [at0, List.getD, hj]

theorem info_f32c : (Try.prog.info? 34).map (fun i => (i.zero, i.size, i.bytes)) = some (some (.float .f32 0), 1, 4) := by kernel_rfl

theorem clone_any (A : Option Addr) (c : Nat) (zs : List Nat) (w : World) (hr : RowF w w.heap.size A zs) (h0 : 0 < zs.length) (hn : zs.length ≤ 1048576) :
    Calls Try.prog 39 #[.slice A zs.length c] w fun e w' => ∃ g c', e = .returned (.slice (some ⟨g, 0, none⟩) zs.length c') ∧ Hid (RowIn w' w.heap.size w'.heap.size (some ⟨g, 0, none⟩) zs) ∧ Hid (Below w.heap.size w w') := by
  obtain ⟨i0, hi, hz0, hz1, hz2⟩ := info_parts info_f32c
  have HI := Lib.hid (And.intro hi (And.intro hz0 (And.intro hz1 hz2)))
  obtain ⟨b, off, rfl, hb, hc⟩ := hr h0
  have B0 : Below w.heap.size w (w.alloc (.cells #[] 34)) := (Below.refl _ _).alloc (Nat.le_refl _) _
  have HN := Lib.hid (news_of hb hc B0)
  have HB := Lib.hid B0
  have O0 : Hid ((w.alloc (.cells #[] 34)).ownsRow w.heap.size 34 1 (.slice (some ⟨w.heap.size, 0, none⟩) 0 0) 0 []) := World.ownsRow_lit w #[] 0 (Nat.le_refl _) (by decide) rfl
  have H0 := Lib.hid h0
  have M1 : Hid (0 + zs.length ≤ maxLen) := by show _ ≤ _; unfold maxLen; omega
  have M2 : Hid ((0 + zs.length) * 4 ≤ 140737488355328) := by show _ ≤ _; omega
  have M3 := Lib.hid B0.size
  have hnil : ∀ W, (binOp .eql 22 (.slice (some ⟨b, off, none⟩) zs.length c) (.slice none 0 0)).run Try.prog W = .ok (.bool false) W := fun W => Lib.run_eql_slice_nil (P := Try.prog) W 22 34 (some ⟨b, off, none⟩) zs.length c 0 0 Try.underlying22
  clear hi hz0 hz1 hz2 hr hc hb B0 h0
  go_enter Try.func39, Try.ntmps39
  go_wp2_with (at_builtin; refine wpList_append_lies _ rfl _ _ 22 rfl w.heap.size 34 i0 (.float .f32 0) 1 4 Try.underlying22 HI.out.1 HI.out.2.1 HI.out.2.2.1 HI.out.2.2.2 rfl (by decide) _ 0 [] rfl O0.out ⟨b, off, none⟩ zs.length c (zs.map (Value.float .f32)) rfl (by simp) HN.out map_one H0.out M1.out M2.out M3.out _ rfl ?_)
  intro g cap w1 hown hgrow hat hlt
  have HO := Lib.hid (owns_row hown)
  have HE : Hid (Below w.heap.size w w1) := ⟨hgrow.os.trans HB.out.os, hgrow.tape.trans HB.out.tape, hgrow.output.trans HB.out.output, Nat.le_trans HB.out.size hgrow.size, fun k hk => (hgrow.block k (by simp; omega) (by intro e; injection e with e; have e2 : k = w.heap.size := e; omega)).trans (HB.out.block k hk)⟩
  clear hown hgrow hat hlt
  go_wp2
  go_ret
  exact ⟨g, cap, rfl, HO, HE⟩

theorem RowIn.setLow {w : World} {lo : Nat} {A : Option Addr} {zs : List Nat} (r : RowIn w lo w.heap.size A zs) {q : Addr} (hq : q.block < lo) (u : Value) : RowIn (w.setCell q u) lo (w.setCell q u).heap.size A zs := by
  have es : (w.setCell q u).heap.size = w.heap.size := by simp [World.setCell]
  rw [es]
  refine ⟨by rw [es]; exact Nat.le_refl _, r.inn, fun h0 => ?_⟩
  obtain ⟨b, off, hA, h1, h2, hc, hf⟩ := r.row h0
  have e : (w.setCell q u).heap[b]? = w.heap[b]? := Below.heap_setCell _ _ _ _ (by omega)
  exact ⟨b, off, hA, h1, h2, fun j hj => by rw [World.cell?_of_block (w := w) e]; exact hc j hj, fun j hj => by rw [World.frozen?_of_block (w := w) e]; exact hf j hj⟩

/-- what a cell holds -/
def rd (w : World) (a : Addr) : Value := match w.cell? a with | some v => v | none => .bool false
theorem rd_of {w : World} {a : Addr} {v : Value} (h : w.cell? a = some v) : w.cell? a = some (rd w a) := by unfold rd; rw [h]

/-- what stands of two variables while one of them is written: the first one's cells, that the second one has cells that may be written, and all that lies lower -/
structure Two (b : World) (X Y : Nat) (x y : Int) (A : Option Addr) (n c : Nat) (w : World) : Prop where
  xy : X < Y
  yb : Y < w.heap.size
  lo : Below Y b w
  c0 : w.cell? ⟨X, 0, none⟩ = some (.int .i64 x)
  c1 : w.cell? ⟨X, 1, none⟩ = some (.int .i64 y)
  c2 : w.cell? ⟨X, 2, none⟩ = some (.slice A n c)
  d0 : w.cell? ⟨Y, 0, none⟩ = some (rd w ⟨Y, 0, none⟩)
  d1 : w.cell? ⟨Y, 1, none⟩ = some (rd w ⟨Y, 1, none⟩)
  d2 : w.cell? ⟨Y, 2, none⟩ = some (rd w ⟨Y, 2, none⟩)
  f0 : w.frozen? ⟨Y, 0, none⟩ = false
  f1 : w.frozen? ⟨Y, 1, none⟩ = false
  f2 : w.frozen? ⟨Y, 2, none⟩ = false

theorem Two.below {b w w' : World} {X Y n c : Nat} {x y : Int} {A : Option Addr} (h : Two b X Y x y A n c w) (hb : Below w.heap.size w w') : Two b X Y x y A n c w' := by
  have hX : X < w.heap.size := Nat.lt_trans h.xy h.yb
  refine ⟨h.xy, Nat.lt_of_lt_of_le h.yb hb.size, h.lo.trans (hb.mono (Nat.le_of_lt h.yb)), ?_, ?_, ?_, ?_, ?_, ?_, ?_, ?_, ?_⟩
  · rw [hb.cell (p := ⟨X, 0, none⟩) hX]; exact h.c0
  · rw [hb.cell (p := ⟨X, 1, none⟩) hX]; exact h.c1
  · rw [hb.cell (p := ⟨X, 2, none⟩) hX]; exact h.c2
  · exact rd_of ((hb.cell (p := ⟨Y, 0, none⟩) h.yb).trans h.d0)
  · exact rd_of ((hb.cell (p := ⟨Y, 1, none⟩) h.yb).trans h.d1)
  · exact rd_of ((hb.cell (p := ⟨Y, 2, none⟩) h.yb).trans h.d2)
  · rw [hb.frozen (p := ⟨Y, 0, none⟩) h.yb]; exact h.f0
  · rw [hb.frozen (p := ⟨Y, 1, none⟩) h.yb]; exact h.f1
  · rw [hb.frozen (p := ⟨Y, 2, none⟩) h.yb]; exact h.f2

theorem Two.set {b w : World} {X Y n c k : Nat} {x y : Int} {A : Option Addr} (h : Two b X Y x y A n c w) (hk : k = 0 ∨ k = 1 ∨ k = 2) (u : Value) : Two b X Y x y A n c (w.setCell ⟨Y, k, none⟩ u) := by
  have far : ∀ j, (⟨Y, k, none⟩ : Addr) ≠ ⟨X, j, none⟩ := fun j e => by injection e with e _ _; have := h.xy; omega
  have near : ∀ j v, w.cell? ⟨Y, j, none⟩ = some v → (w.setCell ⟨Y, k, none⟩ u).cell? ⟨Y, j, none⟩ = some (rd (w.setCell ⟨Y, k, none⟩ u) ⟨Y, j, none⟩) := fun j v hv => by
    by_cases e : j = k
    · subst e
      exact rd_of (World.cell?_setCell_same w _ _ hv)
    · exact rd_of ((World.cell?_setCell_other w _ _ _ (by intro h; injection h with _ h2 _; omega)).trans hv)
  refine ⟨h.xy, by have := h.yb; simpa [World.setCell] using this, h.lo.setCell (Nat.le_refl _) _, ?_, ?_, ?_, near 0 _ h.d0, near 1 _ h.d1, near 2 _ h.d2, ?_, ?_, ?_⟩
  · rw [World.cell?_setCell_other w _ _ _ (far 0)]; exact h.c0
  · rw [World.cell?_setCell_other w _ _ _ (far 1)]; exact h.c1
  · rw [World.cell?_setCell_other w _ _ _ (far 2)]; exact h.c2
  · rw [World.frozen?_setCell]; exact h.f0
  · rw [World.frozen?_setCell]; exact h.f1
  · rw [World.frozen?_setCell]; exact h.f2

/-- .. as the walk wants it -/
def TwoS (b : World) (X Y : Nat) (x y : Int) (A : Option Addr) (n c : Nat) (w : World) : Prop :=
  w.cell? ⟨X, 0, none⟩ = some (.int .i64 x) ∧ w.cell? ⟨X, 1, none⟩ = some (.int .i64 y) ∧ w.cell? ⟨X, 2, none⟩ = some (.slice A n c) ∧ w.cell? ⟨Y, 0, none⟩ = some (rd w ⟨Y, 0, none⟩) ∧ w.cell? ⟨Y, 1, none⟩ = some (rd w ⟨Y, 1, none⟩) ∧ w.cell? ⟨Y, 2, none⟩ = some (rd w ⟨Y, 2, none⟩) ∧ w.frozen? ⟨Y, 0, none⟩ = false ∧ w.frozen? ⟨Y, 1, none⟩ = false ∧ w.frozen? ⟨Y, 2, none⟩ = false ∧ Hid (Two b X Y x y A n c w)
theorem Two.s {b w : World} {X Y n c : Nat} {x y : Int} {A : Option Addr} (h : Two b X Y x y A n c w) : TwoS b X Y x y A n c w := ⟨h.c0, h.c1, h.c2, h.d0, h.d1, h.d2, h.f0, h.f1, h.f2, h⟩

/-- a fresh variable's cells -/
theorem fresh3 (w : World) (a0 a1 a2 : Value) (t : TypeId) : (w.alloc (.cells #[a0, a1, a2] t)).cell? ⟨w.heap.size, 0, none⟩ = some a0 ∧ (w.alloc (.cells #[a0, a1, a2] t)).cell? ⟨w.heap.size, 1, none⟩ = some a1 ∧ (w.alloc (.cells #[a0, a1, a2] t)).cell? ⟨w.heap.size, 2, none⟩ = some a2 ∧ (w.alloc (.cells #[a0, a1, a2] t)).frozen? ⟨w.heap.size, 0, none⟩ = false ∧ (w.alloc (.cells #[a0, a1, a2] t)).frozen? ⟨w.heap.size, 1, none⟩ = false ∧ (w.alloc (.cells #[a0, a1, a2] t)).frozen? ⟨w.heap.size, 2, none⟩ = false := by
  refine ⟨?_, ?_, ?_, ?_, ?_, ?_⟩ <;> simp [World.cell?, World.frozen?, World.alloc, -World.alloc_eq]


end Go.Proofs.Ytnhcmloaanamnaa
