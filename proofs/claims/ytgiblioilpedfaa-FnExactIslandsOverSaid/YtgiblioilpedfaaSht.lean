/-
  What is proved here: sizes, copies, comparisons, marks and looks of sheets, as walks. Conditions: at most 1048576 heights.
-/
import Derived.Test.YtgiblioilpedfaaOwnF
import Derived.ProofKit
import Derived.Lib.SmallJoins
import Derived.Deep.Fields
import Derived.ChangeSame
import Derived.Deep.RegionHeld3
namespace Go.Proofs.Ytgiblioilpedfaa
open Flt Go.RowKit

theorem bcell {W w1 : World} (hb : Below W.heap.size W w1) : (∀ b o, b < W.heap.size → w1.cell? ⟨b, o, none⟩ = W.cell? ⟨b, o, none⟩) ∧ (∀ b o, b < W.heap.size → w1.frozen? ⟨b, o, none⟩ = W.frozen? ⟨b, o, none⟩) :=
  ⟨fun b o h => hb.cell (p := ⟨b, o, none⟩) h, fun b o h => hb.frozen (p := ⟨b, o, none⟩) h⟩
theorem RowF.carry {w w' : World} {A : Option Addr} {zs : List Nat} (h : RowF w w.heap.size A zs) (hb : Below w.heap.size w w') : RowF w' w'.heap.size A zs := (h.below hb).mono hb.size
theorem RowF.low {w : World} {B : Nat} {A : Option Addr} {zs : List Nat} (h : RowF w B A zs) {q : Addr} (hq : B ≤ q.block) (u : Value) : RowF (w.setCell q u) B A zs := by
  intro h0
  obtain ⟨b, off, hA, hlt, hc⟩ := h h0
  have e : (w.setCell q u).heap[b]? = w.heap[b]? := Below.heap_setCell _ _ _ _ (by omega)
  exact ⟨b, off, hA, hlt, fun j hj => by rw [World.cell?_of_block (w := w) e]; exact hc j hj⟩
theorem OwnF.setLow {w : World} {B : Nat} {A : Option Addr} {zs : List Nat} (h : OwnF w B A zs) {q : Addr} (hq : q.block < B) (u : Value) : OwnF (w.setCell q u) B A zs := by
  intro h0
  obtain ⟨b, off, hA, hle, hlt, hc, hf⟩ := h h0
  have e : (w.setCell q u).heap[b]? = w.heap[b]? := Below.heap_setCell _ _ _ _ (by omega)
  exact ⟨b, off, hA, hle, by simpa [World.setCell] using hlt, fun j hj => by rw [World.cell?_of_block (w := w) e]; exact hc j hj, fun j hj => by rw [World.frozen?_of_block (w := w) e]; exact hf j hj⟩

theorem RowF.other {w : World} {g off : Nat} {zs : List Nat} (h : RowF w w.heap.size (some ⟨g, off, none⟩) zs) {q : Addr} (hq : q.block ≠ g) (u : Value) : RowF (w.setCell q u) (w.setCell q u).heap.size (some ⟨g, off, none⟩) zs := by
  intro h0
  obtain ⟨b, off', hA, hlt, hc⟩ := h h0
  injection hA with hA
  injection hA with e1 e2 _
  subst e1 e2
  have e : (w.setCell q u).heap[g]? = w.heap[g]? := Below.heap_setCell _ _ _ _ (fun h => hq h.symm)
  exact ⟨g, off, rfl, by simpa [World.setCell] using hlt, fun j hj => by rw [World.cell?_of_block (w := w) e]; exact hc j hj⟩

/-- what is left behind so many -/
def szN (n left : Nat) : Int := if n ≤ left then (left : Int) - n else -1

theorem szF_is (A : Option Addr) (n c left : Nat) (hl : left ≤ 1048576) (hN : n ≤ 9223372036854775807) (w : World) :
    Calls Try.prog 60 #[.slice A n c, .int .i64 left] w fun e w' => e = .returned (.int .i64 (szN n left)) ∧ w = w' := by
  by_cases h : n ≤ left
  · have N : Hid (szN n left = (left : Int) - n) := if_pos h
    go_enter Try.func60, Try.ntmps60
    go_wp2
    go_ret
    exact ⟨by rw [N.out]; first | rfl | go_num, rfl⟩
  · have N : Hid (szN n left = -1) := if_neg h
    go_enter Try.func60, Try.ntmps60
    go_wp2
    go_ret
    exact ⟨by rw [N.out]; rfl, rfl⟩

theorem szSheet_is (x y : Int) (A : Option Addr) (n c left : Nat) (hl : left ≤ 1048576) (hN : n ≤ 9223372036854775807) (w : World) :
    Calls Try.prog 15 #[.agg #[.int .i64 x, .int .i64 y, .slice A n c], .int .i64 left] w fun e w' => e = .returned (.int .i64 (szN n left)) ∧ Below w.heap.size w w' := by
  by_cases h : n ≤ left
  · have N : Hid (szN n left = (left : Int) - n) := if_pos h
    have b1 : ¬ szN n left < 0 := by rw [N.out]; omega
    clear h
    go_enter Try.func15, Try.ntmps15
    go_wp2_with fail
    refine (szF_is _ _ _ _ hl hN _).mono ?_
    rintro e w' ⟨rfl, rfl⟩
    go_wp2_with fail
    go_ret
    exact ⟨rfl, (Below.refl _ _).alloc (Nat.le_refl _) _⟩
  · have N : Hid (szN n left = -1) := if_neg h
    have b1 : szN n left < 0 := by rw [N.out]; omega
    clear h
    go_enter Try.func15, Try.ntmps15
    go_wp2_with fail
    refine (szF_is _ _ _ _ hl hN _).mono ?_
    rintro e w' ⟨rfl, rfl⟩
    go_wp2_with fail
    go_ret
    exact ⟨by rw [N.out]; rfl, (Below.refl _ _).alloc (Nat.le_refl _) _⟩

theorem szN_lt {n left : Nat} (h : ¬ szN n left < 0) : n ≤ left := by
  unfold szN at h
  split at h
  · assumption
  · omega

set_option maxHeartbeats 2000000 in
theorem toSheet_is (x y : Int) (A : Option Addr) (c : Nat) (zs : List Nat) (w : World) (hr : RowF w w.heap.size A zs) (hn : zs.length ≤ 1048576) :
    Calls Try.prog 17 #[.agg #[.int .i64 x, .int .i64 y, .slice A zs.length c]] w fun e w' => ∃ g, e = .returned (.agg #[.int .i64 x, .int .i64 y, .slice (some ⟨g, 0, none⟩) zs.length zs.length]) ∧ w.heap.size ≤ g ∧ Hid (RowF w' w'.heap.size (some ⟨g, 0, none⟩) zs) ∧ Hid (Below w.heap.size w w') := by
  have HC := fun (w' : World) (hb : Below w.heap.size w w') => toF A c zs w' (hr.carry hb) hn
  have H := Lib.hid HC
  clear HC hr
  go_enter Try.func17, Try.ntmps17
  have B0 : Hid (Below w.heap.size w (((w.alloc (.cells #[.int .i64 x, .int .i64 y, .slice A zs.length c] 24)).alloc (.cells #[.int .i64 0, .int .i64 0, .slice none 0 0] 29)).alloc (.cells #[.int .i64 x, .int .i64 y, .slice none 0 0] 29))) := (((Below.refl _ _).alloc (Nat.le_refl _) _).alloc (by simp) _).alloc (by simp; omega) _
  go_wp2_with fail
  refine (H.out _ B0.out).mono ?_
  rintro e w2 ⟨g, rfl, hg, hl, hR, hb⟩
  have e3 : (((w.alloc (.cells #[.int .i64 x, .int .i64 y, .slice A zs.length c] 24)).alloc (.cells #[.int .i64 0, .int .i64 0, .slice none 0 0] 29)).alloc (.cells #[.int .i64 x, .int .i64 y, .slice none 0 0] 29)).heap.size = w.heap.size + 3 := by simp
  have HG : Hid (w.heap.size + 3 ≤ g) := by rw [← e3]; exact hg
  have HL := Lib.hid hl
  have HB : Hid (Below w.heap.size w w2) := B0.out.trans (hb.mono B0.out.size)
  obtain ⟨hc, hf⟩ := bcell hb
  have hz : w.heap.size + 2 < w2.heap.size := by have := HG.out; omega
  clear hb H B0 e3 hg hl
  go_wp2_with fail
  refine bodyPost_ret (v := .agg #[.int .i64 x, .int .i64 y, .slice (some ⟨g, 0, none⟩) zs.length zs.length]) (by simp [results, Try.results17, go_sem, hc]) rfl ⟨g, rfl, by have := HG.out; omega, ?_, ?_⟩
  · have := HG.out
    exact (((hR.out.other (by show w.heap.size + 1 + 1 ≠ g; omega) _).other (by show w.heap.size + 1 ≠ g; omega) _).other (by show w.heap.size + 1 ≠ g; omega) _).other (by show w.heap.size + 1 ≠ g; omega) _
  · exact (((HB.out.setCell (by show w.heap.size ≤ w.heap.size + 1 + 1; omega) _).setCell (by show w.heap.size ≤ w.heap.size + 1; omega) _).setCell (by show w.heap.size ≤ w.heap.size + 1; omega) _).setCell (by show w.heap.size ≤ w.heap.size + 1; omega) _

theorem eqSheet_is (x y : Int) (A B : Option Addr) (c d : Nat) (zs : List Nat) (w : World) (Z : Nat) (hZ : Z ≤ w.heap.size) (hr : RowF w Z A zs) (hq : RowF w Z B zs) (hn : zs.length ≤ 1048576) :
    Calls Try.prog 19 #[.agg #[.int .i64 x, .int .i64 y, .slice A zs.length c], .agg #[.int .i64 x, .int .i64 y, .slice B zs.length d]] w fun e w' => e = .returned (.bool true) ∧ Hid (Below w.heap.size w w') := by
  have HC := fun (w' : World) (hb : Below w.heap.size w w') => eqF A B c d zs w' Z (hr.below (hb.mono hZ)) (hq.below (hb.mono hZ)) hn
  have H := Lib.hid HC
  have B0 : Hid (Below w.heap.size w ((w.alloc (.cells #[.int .i64 x, .int .i64 y, .slice A zs.length c] 29)).alloc (.cells #[.int .i64 x, .int .i64 y, .slice B zs.length d] 29))) := ((Below.refl _ _).alloc (Nat.le_refl _) _).alloc (by simp) _
  clear HC hr hq
  go_enter Try.func19, Try.ntmps19
  go_wp2_with fail
  refine (H.out _ B0.out).mono ?_
  rintro e w' ⟨rfl, n, rfl⟩
  have HB := Lib.hid (belowN (n := n) B0.out)
  clear B0 H
  go_wp2_with fail
  go_ret
  exact ⟨rfl, HB⟩



end Go.Proofs.Ytgiblioilpedfaa
