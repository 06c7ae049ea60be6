/-
  What is proved here: sizes, copies, comparisons, marks and looks of sheets, as walks. Conditions: at most 1048576 heights.
-/
import Derived.Test.YtnhcmloaanamnaaOwnF
import Derived.ProofKit
import Derived.Lib.SmallJoins
import Derived.Deep.Fields
import Derived.ChangeSame
import Derived.Deep.RegionHeld3
namespace Go.Proofs.Ytnhcmloaanamnaa
open Flt Go.RowKit

theorem bcell {W w1 : World} (hb : Below W.heap.size W w1) : (∀ b o, b < W.heap.size → w1.cell? ⟨b, o, none⟩ = W.cell? ⟨b, o, none⟩) ∧ (∀ b o, b < W.heap.size → w1.frozen? ⟨b, o, none⟩ = W.frozen? ⟨b, o, none⟩) :=
  ⟨fun b o h => hb.cell (p := ⟨b, o, none⟩) h, fun b o h => hb.frozen (p := ⟨b, o, none⟩) h⟩
theorem RowF.carry {w w' : World} {A : Option Addr} {zs : List Nat} (h : RowF w w.heap.size A zs) (hb : Below w.heap.size w w') : RowF w' w'.heap.size A zs := (h.below hb).mono hb.size
theorem RowF.low {w : World} {B : Nat} {A : Option Addr} {zs : List Nat} (h : RowF w B A zs) {q : Addr} (hq : B ≤ q.block) (u : Value) : RowF (w.setCell q u) B A zs := by
  intro h0
  obtain ⟨b, off, hA, hlt, hc⟩ := h h0
  have e : (w.setCell q u).heap[b]? = w.heap[b]? := Below.heap_setCell _ _ _ _ (by omega)
  exact ⟨b, off, hA, hlt, fun j hj => by rw [World.cell?_of_block (w := w) e]; exact hc j hj⟩
theorem OwnF.setLow {w : World} {B : Nat} {A : Option Addr} {zs : List Nat} (h : OwnF w B A zs) {q : Addr} (hq : q.block < B) (u : Value) : OwnF (w.setCell q u) B A zs := by
  intro h0
  obtain ⟨b, off, hA, hle, hlt, hc, hf⟩ := h h0
  have e : (w.setCell q u).heap[b]? = w.heap[b]? := Below.heap_setCell _ _ _ _ (by omega)
  exact ⟨b, off, hA, hle, by simpa [World.setCell] using hlt, fun j hj => by rw [World.cell?_of_block (w := w) e]; exact hc j hj, fun j hj => by rw [World.frozen?_of_block (w := w) e]; exact hf j hj⟩

theorem RowF.other {w : World} {g off : Nat} {zs : List Nat} (h : RowF w w.heap.size (some ⟨g, off, none⟩) zs) {q : Addr} (hq : q.block ≠ g) (u : Value) : RowF (w.setCell q u) (w.setCell q u).heap.size (some ⟨g, off, none⟩) zs := by
  intro h0
  obtain ⟨b, off', hA, hlt, hc⟩ := h h0
  injection hA with hA
  injection hA with e1 e2 _
  subst e1 e2
  have e : (w.setCell q u).heap[g]? = w.heap[g]? := Below.heap_setCell _ _ _ _ (fun h => hq h.symm)
  exact ⟨g, off, rfl, by simpa [World.setCell] using hlt, fun j hj => by rw [World.cell?_of_block (w := w) e]; exact hc j hj⟩

/-- what is left behind so many -/
def szN (n left : Nat) : Int := if n ≤ left then (left : Int) - n else -1



theorem szN_lt {n left : Nat} (h : ¬ szN n left < 0) : n ≤ left := by
  unfold szN at h
  split at h
  · assumption
  · omega


theorem eqSheet_is (x y : Int) (A B : Option Addr) (c d : Nat) (zs : List Nat) (w : World) (Z : Nat) (hZ : Z ≤ w.heap.size) (hr : RowF w Z A zs) (hq : RowF w Z B zs) (hn : zs.length ≤ 1048576) :
    Calls Try.prog 29 #[.agg #[.int .i64 x, .int .i64 y, .slice A zs.length c], .agg #[.int .i64 x, .int .i64 y, .slice B zs.length d]] w fun e w' => e = .returned (.bool true) ∧ Hid (Below w.heap.size w w') := by
  have HC := fun (w' : World) (hb : Below w.heap.size w w') => eqF A B c d zs w' Z (hr.below (hb.mono hZ)) (hq.below (hb.mono hZ)) hn
  have H := Lib.hid HC
  have B0 : Hid (Below w.heap.size w ((w.alloc (.cells #[.int .i64 x, .int .i64 y, .slice A zs.length c] 46)).alloc (.cells #[.int .i64 x, .int .i64 y, .slice B zs.length d] 46))) := ((Below.refl _ _).alloc (Nat.le_refl _) _).alloc (by simp) _
  clear HC hr hq
  go_enter Try.func29, Try.ntmps29
  go_wp2_with fail
  refine (H.out _ B0.out).mono ?_
  rintro e w' ⟨rfl, n, rfl⟩
  have HB := Lib.hid (belowN (n := n) B0.out)
  clear B0 H
  go_wp2_with fail
  go_ret
  exact ⟨rfl, HB⟩

theorem markSheet_is (x y : Int) (g c m : Nat) (zs : List Nat) (w : World) (hg : g < w.heap.size) (hr : OwnF w g (some ⟨g, 0, none⟩) zs) (hn : zs.length ≤ 1048576) (hm : m ≤ 4) :
    Calls Try.prog 30 #[.agg #[.int .i64 x, .int .i64 y, .slice (some ⟨g, 0, none⟩) zs.length c], .int .i64 m] w fun e w' => e = .returned (.int .i64 (m + zs.length : Nat)) ∧ Hid (OwnF w' g (some ⟨g, 0, none⟩) (upF m zs.length)) ∧ Hid (Below g w w') := by
  have B0 : Below w.heap.size w (w.alloc (.cells #[.int .i64 x, .int .i64 y, .slice (some ⟨g, 0, none⟩) zs.length c] 46)) := (Below.refl _ _).alloc (Nat.le_refl _) _
  have HC := markF (some ⟨g, 0, none⟩) c m g zs _ (hr.below B0) hn (by omega)
  have H := Lib.hid HC
  have HB0 := Lib.hid B0
  clear HC hr B0
  go_enter Try.func30, Try.ntmps30
  go_wp2_with fail
  refine H.out.mono ?_
  rintro e w' ⟨rfl, ho, hb⟩
  have HB : Hid (Below g w w') := (HB0.out.mono (Nat.le_of_lt hg)).trans hb.out.toBelow
  clear hb HB0 H
  go_wp2_with fail
  go_ret
  exact ⟨rfl, ho, HB⟩

theorem heldSheet_is (x y : Int) (A : Option Addr) (n c m Z : Nat) (w : World) (hZ : Z ≤ w.heap.size) (hr : RowF w Z A (upF m n)) (hn : n ≤ 1048576) (hm : m ≤ 4) :
    Calls Try.prog 31 #[.agg #[.int .i64 x, .int .i64 y, .slice A n c], .int .i64 m] w fun e w' => e = .returned (.int .i64 (m + n : Nat)) ∧ Hid (Below w.heap.size w w') := by
  have B0 : Below w.heap.size w (w.alloc (.cells #[.int .i64 x, .int .i64 y, .slice A n c] 46)) := (Below.refl _ _).alloc (Nat.le_refl _) _
  have HC := heldF A c m Z n _ (hr.below (B0.mono hZ)) hn (by omega)
  have H := Lib.hid HC
  have HB0 := Lib.hid B0
  clear HC hr B0
  go_enter Try.func31, Try.ntmps31
  go_wp2_with fail
  refine H.out.mono ?_
  rintro e w' ⟨rfl, rfl⟩
  clear H
  go_wp2_with fail
  go_ret
  exact ⟨rfl, HB0⟩

end Go.Proofs.Ytnhcmloaanamnaa
