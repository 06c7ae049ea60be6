/-
  What is proved here: a row of bytes that grows one by one, from nothing, as steps of a walk. Conditions: at most 1048576 of them.
-/
import Derived.Test.YtnhcmloaanamnaaCel
import Derived.OwnWalk
import Derived.Deep.AppendLies
import Derived.Deep.RegionLaw
namespace Go.Proofs.Ytnhcmloaanamnaa
open Go.RowKit
set_option linter.unusedVariables false

def atU (zs : List UInt8) (j : Nat) : UInt8 := zs.getD j 0
def uv (f : Nat → UInt8) : Nat → Value := fun j => .int .u8 ((f j).toNat : Int)
theorem info_u8 : (Try.prog.info? 5).map (fun i => (i.zero, i.size, i.bytes)) = some (some (.int .u8 0), 1, 1) := by kernel_rfl
/-- a row that the call owns, and that grows -/
def GroU (w : World) (G : Nat) (L : List UInt8) (A : Option Addr) (c : Nat) : Prop := w.ownsRow G 5 1 (.slice A L.length c) L.length (L.map (fun b : UInt8 => Value.int .u8 (b.toNat : Int)))
theorem GroU.cases {w : World} {G c : Nat} {L : List UInt8} {A : Option Addr} (h : GroU w G L A c) : (A = none ∧ c = 0 ∧ L = []) ∨ ∃ g, A = some ⟨g, 0, none⟩ := by
  rcases h.2 with ⟨h1, _⟩ | ⟨g, cap, cur, h0, _⟩
  · injection h1 with e1 e2 e3
    exact .inl ⟨e1, e3, List.eq_nil_of_length_eq_zero e2⟩
  · injection h0 with e1 e2 e3
    exact .inr ⟨g, e1⟩
theorem GroU.nil (w : World) (G : Nat) : GroU w G [] none 0 := World.ownsRow_nil _ _ _ _
theorem GroU.lit (w : World) {G : Nat} (h : G ≤ w.heap.size) : GroU (w.alloc (.cells #[] 5)) G [] (some ⟨w.heap.size, 0, none⟩) 0 := World.ownsRow_lit w #[] 0 h (by decide) rfl
theorem GroU.lit1 (w : World) {G : Nat} (h : G ≤ w.heap.size) (y : UInt8) : GroU (w.alloc (.cells #[.int .u8 (y.toNat : Int)] 5)) G [y] (some ⟨w.heap.size, 0, none⟩) 1 := World.ownsRow_lit w #[.int .u8 (y.toNat : Int)] 1 h (by decide) rfl
theorem GroU.dn {w : World} {G c n : Nat} {L : List UInt8} {A : Option Addr} (h : GroU w G L A c) : GroU (w.drewN n) G L A c := h
theorem GroU.dr {w : World} {G c : Nat} {L : List UInt8} {A : Option Addr} (h : GroU w G L A c) : GroU w.drew G L A c := h
theorem GroU.but {w w' : World} {G c l h : Nat} {L : List UInt8} {A : Option Addr} (o : GroU w G L A c) (hb : ButIn l h w w') (hd : ∀ a, A = some a → a.block < l ∨ h ≤ a.block) : GroU w' G L A c := by
  refine ⟨o.1, ?_⟩
  rcases o.2 with h1 | ⟨g1, cap, cur, h0, h2, h3, h4⟩
  · exact .inl h1
  · refine .inr ⟨g1, cap, cur, h0, h2, ?_, h4⟩
    have hlt : g1 < w.heap.size := by
      rcases Nat.lt_or_ge g1 w.heap.size with h | h
      · exact h
      · rw [Array.getElem?_eq_none h] at h3; cases h3
    injection h0 with e1 e2 e3
    rw [hb.block _ hlt (hd _ e1)]; exact h3
theorem GroU.below {w w' : World} {G c : Nat} {L : List UInt8} {A : Option Addr} (o : GroU w G L A c) (hb : Below w.heap.size w w') : GroU w' G L A c := o.but (ButIn.of hb) fun a _ => .inr (Nat.zero_le _)
theorem GroU.lt {w : World} {G c : Nat} {L : List UInt8} {A : Option Addr} (h : GroU w G L A c) : ∀ a, A = some a → G ≤ a.block ∧ a.block < w.heap.size := by
  rcases h.cases with ⟨rfl, _, _⟩ | ⟨g, rfl⟩
  · intro a ha; cases ha
  · intro a ha
    injection ha with ha
    subst ha
    exact World.ownsRow.lt h g rfl
theorem GroU.rowW {w : World} {G c : Nat} {L : List UInt8} {A : Option Addr} (h : GroU w G L A c) : RowW w G w.heap.size A L.length (uv (atU L)) := by
  refine ⟨Nat.le_refl _, h.lt, fun h0 => ?_⟩
  rcases h.cases with ⟨_, _, rfl⟩ | ⟨g, rfl⟩
  · simp at h0
  · obtain ⟨h1, h2⟩ := h.lt _ rfl
    refine ⟨g, 0, rfl, h1, h2, fun j hj => ?_, fun j hj => World.ownsRow.frozenAt h _⟩
    rw [Nat.zero_add, World.ownsRow.cellAt h j (by omega), List.getElem?_map]
    simp [uv, atU, List.getD, hj]

theorem grownAtU {w0 w w' : World} {G : Nat} {o : Option Nat} (hb : Below w0.heap.size w0 w) (h : w.grownBy w' o) (hG : G ≤ w0.heap.size) (ho : ∀ k, o = some k → G ≤ k) : Below G w0 w' :=
  ⟨h.os.trans hb.os, h.tape.trans hb.tape, h.output.trans hb.output, Nat.le_trans hb.size h.size, fun k hk => by
    rw [h.block k (by have := hb.size; omega) (by intro e; have := ho _ e.symm; omega)]
    exact hb.block k (by omega)⟩




end Go.Proofs.Ytnhcmloaanamnaa
