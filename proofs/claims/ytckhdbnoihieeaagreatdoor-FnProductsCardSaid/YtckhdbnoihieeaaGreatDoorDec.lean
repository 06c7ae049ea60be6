/-
  What is proved here: the decimal text of an integer, as the model of the document writes it, as a walk. Conditions: the integer is a 64-bit one.
-/
import Derived.Test.YtckhdbnoihieeaaGreatDoorChecked
import Derived.WalkKit
import Derived.WalkLawsBesides
import Derived.WalkSpells
import Derived.IntWalk
import Derived.Lib.Hide
import Derived.OwnWalk
import Derived.LoopTactic
import Derived.Laws.MakeOwn
import Derived.Laws.AppendOwn
import Derived.Lib.ItoaMem
import Derived.Lib.ItoaLen
import Derived.Lib.ItoaNum
import Derived.Outline
namespace Go.Proofs.YtckhdbnoihieeaaGreatDoor
open Go.RowKit

def lenV : Value → Nat | .slice _ n _ => n | _ => 0
def bytesV (l : List UInt8) : List Value := l.map fun b => .int .u8 (b.toNat : Int)

/-- what has been written, and what is left -/
def DecSt (n : Int) (L : List UInt8) (r : Int) : Prop :=
  (L = [] ∧ r = n) ∨ (0 < L.length ∧ ((r = 0 ∧ L = Lib.decDigits n.natAbs) ∨ (r ≠ 0 ∧ Lib.decDigits r.natAbs ++ L = Lib.decDigits n.natAbs)))

theorem info_u8 : (Tryz.prog.info? 5).map (fun i => (i.zero, i.size, i.bytes)) = some (some (.int .u8 0), 1, 1) := by kernel_rfl

/-- bytes that the call owns -/
def OwnB (w : World) (G : Nat) (L : List UInt8) (g c : Nat) : Prop := w.ownsRow G 5 1 (.slice (some ⟨g, 0, none⟩) L.length c) L.length (bytesV L)

theorem bytesV_one (l : List UInt8) : ∀ u ∈ bytesV l, u.oneCell' = true := by
  intro u hu
  simp only [bytesV, List.mem_map] at hu
  obtain ⟨_, _, rfl⟩ := hu
  rfl
theorem bytesV_length (l : List UInt8) : (bytesV l).length = l.length := by simp [bytesV]

/-- a digit, as a byte -/
def digB (m : Nat) : UInt8 := UInt8.ofNat (48 + m % 10)
theorem digB_val (m : Nat) : ((digB m).toNat : Int) = 48 + (m : Int) % 10 := by
  unfold digB
  rw [UInt8.toNat_ofNat_of_lt' (by show 48 + m % 10 < 256; omega)]
  omega

theorem dd_small {m : Nat} (h : m < 10) : Lib.decDigits m = [digB m] := by
  rw [Lib.decDigits, dif_pos h]; unfold digB; rw [Nat.mod_eq_of_lt h]
theorem dd_big {m : Nat} (h : ¬ m < 10) : Lib.decDigits m = Lib.decDigits (m / 10) ++ [digB m] := by
  rw [Lib.decDigits, dif_neg h]; rfl
theorem dd_pos (m : Nat) : 0 < (Lib.decDigits m).length := by
  by_cases h : m < 10
  · rw [dd_small h]; simp
  · rw [dd_big h]; simp
theorem dd_len (n : Int) (h0 : -9223372036854775808 ≤ n) (h1 : n ≤ 9223372036854775807) : (Lib.decDigits n.natAbs).length ≤ 21 := by
  have := Lib.itoa_length_le n h0 h1
  unfold Lib.itoa at this
  split at this
  · simp at this; omega
  · rwa [show n.toNat = n.natAbs by omega] at this

theorem DecSt.pre {n r : Int} {L : List UInt8} (h : DecSt n L r) (hc : L = [] ∨ r ≠ 0) : Lib.decDigits r.natAbs ++ L = Lib.decDigits n.natAbs := by
  rcases h with ⟨rfl, rfl⟩ | ⟨hl, ⟨rfl, _⟩ | ⟨_, h⟩⟩
  · rw [List.append_nil]
  · rcases hc with rfl | hc
    · exact absurd hl (Nat.lt_irrefl 0)
    · exact absurd rfl hc
  · exact h

theorem DecSt.next {n r r' : Int} {L : List UInt8} {m : Nat} (h : DecSt n L r) (hc : L = [] ∨ r ≠ 0) (hm : r.natAbs = m) (hr : r'.natAbs = m / 10) : DecSt n (digB m :: L) r' := by
  have hp := h.pre hc
  rw [hm] at hp
  right
  refine ⟨by simp, ?_⟩
  by_cases h10 : m < 10
  · left
    rw [dd_small h10] at hp
    refine ⟨by omega, ?_⟩
    rw [← hp]; rfl
  · right
    refine ⟨by omega, ?_⟩
    rw [dd_big h10] at hp
    rw [hr, ← hp, List.append_assoc]; rfl

theorem DecSt.room {n r : Int} {L : List UInt8} (h : DecSt n L r) (hc : L = [] ∨ r ≠ 0) (h0 : -9223372036854775808 ≤ n) (h1 : n ≤ 9223372036854775807) : L.length + 1 ≤ 21 := by
  have hp := congrArg List.length (h.pre hc)
  have := dd_len n h0 h1
  have := dd_pos r.natAbs
  rw [List.length_append] at hp
  omega

theorem DecSt.end_ {n : Int} {L : List UInt8} (h : DecSt n L 0) (hl : ¬ L.length = 0) : L = Lib.decDigits n.natAbs := by
  rcases h with ⟨rfl, _⟩ | ⟨_, ⟨_, h⟩ | ⟨h, _⟩⟩
  · exact absurd rfl hl
  · exact h
  · exact absurd rfl h

theorem own_lit {w : World} {G : Nat} {b : UInt8} {x : Int} (h : G ≤ w.heap.size) (hx : x = (b.toNat : Int)) : OwnB (w.alloc (.cells #[.int .u8 x] 5)) G [b] w.heap.size 1 := by
  subst hx
  exact World.ownsRow_lit w #[.int .u8 (b.toNat : Int)] 1 h (by decide) rfl

theorem own_lit1 {w : World} {G : Nat} {b : UInt8} {x : Int} (h : G ≤ w.heap.size) (hx : x = (b.toNat : Int)) : (w.alloc (.cells #[.int .u8 x] 5)).ownsRow G 5 1 (.slice (some ⟨w.heap.size, 0, none⟩) 1 1) 1 (bytesV [b]) := own_lit h hx

theorem OwnB.cells {w : World} {G g c : Nat} {L : List UInt8} (h : OwnB w G L g c) : ∀ j u, (bytesV L)[j]? = some u → w.cell? ((⟨g, 0, none⟩ : Addr).add j) = some u := World.ownsRow.cells h rfl

theorem OwnB.of {w : World} {G n : Nat} {v : Value} {L : List UInt8} (h : w.ownsRow G 5 1 v n (bytesV L)) (hn : n = L.length) (hv : v ≠ .slice none 0 0) : ∃ g c, v = .slice (some ⟨g, 0, none⟩) L.length c ∧ OwnB w G L g c := by
  subst hn
  rcases h.2 with ⟨h1, _⟩ | ⟨g, cap, cur, rfl, _⟩
  · exact absurd h1 hv
  · exact ⟨g, cap, rfl, h⟩

theorem OwnB.str {w : World} {G g c : Nat} {L : List UInt8} (h : OwnB w G L g c) : (convert 22 9 (.slice (some ⟨g, 0, none⟩) L.length c)).run Tryz.prog w = .ok (.string ⟨L.toArray⟩) w :=
  run_convert_bytes_back w _ _ _ _ c L Tryz.underlying22 Tryz.underlying5 Tryz.underlying9 fun j hj => h.cells j _ (by simp [bytesV, hj])


end Go.Proofs.YtckhdbnoihieeaaGreatDoor
