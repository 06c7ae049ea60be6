/-
  What is proved here: sort.Search with ThresholdOf's closure: the first place from which on it is true. Conditions: weights of a field.
-/
import Derived.Test.YtnhcmloaanamnaaTh3
import Derived.Test.YtnhcmloaanamnaaSf7
import Derived.Test.YtnhcmloaanamnaaSdj
namespace Go.Proofs.Ytnhcmloaanamnaa
open Flt Go.RowKit
set_option linter.unusedVariables false
set_option linter.unusedSimpArgs false

/-- what the closure reads: four variables, the weights, the sorted ones -/
structure ThV (w : World) (b1 b2 b3 b4 g : Nat) (x y : Int) (A : Option Addr) (c c2 : Nat) (zs : List Nat) (h : Nat → Nat) : Prop where
  l1 : b1 < w.heap.size
  l2 : b2 < w.heap.size
  l3 : b3 < w.heap.size
  l4 : b4 < w.heap.size
  c1 : w.cell? ⟨b1, 0, none⟩ = some (.slice A zs.length c)
  c2' : w.cell? ⟨b2, 0, none⟩ = some (.int .i64 x)
  c3 : w.cell? ⟨b3, 0, none⟩ = some (.int .i64 y)
  c4 : w.cell? ⟨b4, 0, none⟩ = some (.slice (some ⟨g, 0, none⟩) zs.length c2)
  lg : g < w.heap.size
  srt : ∀ j, j < zs.length → w.cell? ⟨g, j, none⟩ = some (.float .f32 (at0 zs (h j)))
  row : RowF w w.heap.size A zs
theorem ThV.below {w w' : World} {b1 b2 b3 b4 g : Nat} {x y : Int} {A : Option Addr} {c c2 : Nat} {zs : List Nat} {h : Nat → Nat} (V : ThV w b1 b2 b3 b4 g x y A c c2 zs h) (hb : Below w.heap.size w w') : ThV w' b1 b2 b3 b4 g x y A c c2 zs h :=
  ⟨Nat.lt_of_lt_of_le V.l1 hb.size, Nat.lt_of_lt_of_le V.l2 hb.size, Nat.lt_of_lt_of_le V.l3 hb.size, Nat.lt_of_lt_of_le V.l4 hb.size, (hb.cell (p := ⟨b1, 0, none⟩) V.l1).trans V.c1, (hb.cell (p := ⟨b2, 0, none⟩) V.l2).trans V.c2', (hb.cell (p := ⟨b3, 0, none⟩) V.l3).trans V.c3, (hb.cell (p := ⟨b4, 0, none⟩) V.l4).trans V.c4, Nat.lt_of_lt_of_le V.lg hb.size, fun j hj => (hb.cell (p := ⟨g, j, none⟩) V.lg).trans (V.srt j hj), (V.row.below hb).mono hb.size⟩
set_option maxHeartbeats 4000000 in
set_option maxRecDepth 1000000 in
theorem cloThr (b1 b2 b3 b4 g : Nat) (x y : Int) (A : Option Addr) (c c2 : Nat) (zs : List Nat) (h : Nat → Nat) (i : Nat) (w : World) (V : ThV w b1 b2 b3 b4 g x y A c c2 zs h) (hi : i < zs.length) (hv : fvB x y zs.length = true) (hf : finAll zs = true) (hb : ∀ j, j < zs.length → h j < zs.length) :
    Calls Try.prog 55 #[.int .i64 (i : Int), .pointer (some ⟨b1, 0, none⟩), .pointer (some ⟨b2, 0, none⟩), .pointer (some ⟨b3, 0, none⟩), .pointer (some ⟨b4, 0, none⟩)] w fun e w' => e = .returned (.bool (thC x y zs (gK zs (h i)))) ∧ Hid (Below w.heap.size w w') := by
  have HC := Lib.hid (fun k => implCrs x y A c (at0 zs (h i)) zs (w.drewN k) V.row hv hf (finAll_at hf (hb i hi)))
  have a1 := V.c1
  have a2 := V.c2'
  have a3 := V.c3
  have a4 := V.c4
  have a5 := V.srt i hi
  have hi2 : (i : Int) < (zs.length : Int) := by omega
  have hi3 : (0 : Int) ≤ (i : Int) := by omega
  have HD : Hid (∀ k w', Below (w.drewN k).heap.size (w.drewN k) w' → Below w.heap.size w w') := fun k w' h => (belowN (Below.refl _ _)).trans h
  clear V hv hf hb
  go_enter Try.func55, Try.ntmps55
  go_wp2_with fail
  go_region_with (go_at_call 56; refine (HC.out _).mono ?_; rintro e w' ⟨rfl, hb5⟩; have HB5 := Lib.hid (HD.out _ _ hb5.out); clear hb5)
  all_goals
    go_wp2_with fail
    go_ret
    exact ⟨rfl, HB5⟩
end Go.Proofs.Ytnhcmloaanamnaa
