/-
  What is proved here: how a list of bytes that came in is read; how a law chooses a number by a byte; how far two numbers are apart. Conditions: the list is one that a machine can hold.
-/
import Derived.Test.YtckhdbnoihieeaaGreatDoorChecked
import Derived.WalkKit
import Derived.WalkLawsBesides
import Derived.WalkSpells
import Derived.IntWalk
import Derived.Lib.Hide
import Derived.LoopTactic
import Derived.Laws.Entries
import Derived.Deep.Slices
import Derived.Outline
import Derived.ProofKit
import Derived.Below
namespace Go.Proofs.YtckhdbnoihieeaaGreatDoor
open Go.RowKit Go.ChangeShapes Go.WideShapes

/-- the byte at a place -/
def atB (zs : List Int) (j : Nat) : Int := zs.getD j 0
/-- a slice of bytes below a block -/
def RowB (w : World) (B : Nat) (A : Option Addr) (zs : List Int) : Prop :=
  0 < zs.length → ∃ b off, A = some ⟨b, off, none⟩ ∧ b < B ∧ ∀ j, j < zs.length → w.cell? ⟨b, off + j, none⟩ = some (.int .u8 (atB zs j))
theorem RowB.below {w w' : World} {B : Nat} {A : Option Addr} {zs : List Int} (h : RowB w B A zs) (hb : Below B w w') : RowB w' B A zs := by
  intro h0
  obtain ⟨b, off, hA, hlt, hc⟩ := h h0
  exact ⟨b, off, hA, hlt, fun j hj => by rw [hb.cell hlt]; exact hc j hj⟩
theorem RowB.mono {w : World} {B B' : Nat} {A : Option Addr} {zs : List Int} (h : RowB w B A zs) (hb : B ≤ B') : RowB w B' A zs := by
  intro h0
  obtain ⟨b, off, hA, hlt, hc⟩ := h h0
  exact ⟨b, off, hA, by omega, hc⟩
def AllB (zs : List Int) : Prop := ∀ z ∈ zs, 0 ≤ z ∧ z ≤ 255
theorem atB_bd {zs : List Int} (h : AllB zs) (j : Nat) : 0 ≤ atB zs j ∧ atB zs j ≤ 255 := by
  unfold atB
  by_cases hj : j < zs.length
  · rw [List.getD, List.getElem?_eq_getElem hj]; exact h _ (List.getElem_mem hj)
  · rw [List.getD, List.getElem?_eq_none (by omega)]; exact ⟨by decide, by decide⟩

/-- what is known of a list that came in -/
structure ListB (w : World) (A : Option Addr) (len : Nat) (zs : List Int) : Prop where
  size : zs.length = len
  row : RowB w w.heap.size A zs
  all : AllB zs
  small : len ≤ maxLen

theorem open_u8s {H : Type} {enc : TypeId × Value → H} {P : Program} {w : World} {spare : Nat → Bool} {held : Bool} {t e : TypeId} {A : Option Addr} {len cap : Nat} {d : DataW H} {ps : List MemPlace} (ht : P.underlying t = some (.slice e)) (he : P.underlying e = some (.int .u8)) (hc : P.cellsOf e = 1)
    (h : DataW.Trod enc P w 0 spare held t (.slice A len cap) d ps) : ∃ zs, ListB w A len zs := by
  obtain ⟨fuel, hf⟩ := h
  rcases Go.ChangeShapes.open_ints ht he hc hf with ⟨hcs, _⟩ | ⟨a, l, c, zs, hcs, _, hl, hm, hz, _, hx, hwf⟩
  · simp [Value.cells] at hcs
    obtain ⟨rfl, rfl, rfl⟩ := hcs
    exact ⟨[], rfl, fun h => by simp at h, fun z hz => by simp at hz, by unfold maxLen; omega⟩
  · simp [Value.cells] at hcs
    obtain ⟨rfl, rfl, rfl⟩ := hcs
    have hlz : len ≤ zs.length := by rw [hz]; split <;> omega
    refine ⟨zs.take len, by simp [hlz], ?_, fun z hz2 => ?_, by omega⟩
    · intro h0
      have hlen : 0 < len := by simp at h0; omega
      obtain ⟨b, off, spot⟩ := a
      have hspot : spot = none := by
        have := hx 0 (by omega)
        simpa [Addr.add] using World.cell?_spot this
      subst hspot
      refine ⟨b, off, rfl, ?_, fun j hj => ?_⟩
      · have h1 := hx 0 (by omega)
        rcases Nat.lt_or_ge b w.heap.size with hb | hb
        · exact hb
        · exfalso
          simp [World.cell?, Addr.add, Array.getElem?_eq_none hb] at h1
      · have hj' : j < len := by simp at hj; omega
        have h1 := hx j (by omega)
        rw [Go.WideShapes.add_plain] at h1
        rw [h1]
        simp [atB, List.getD, hj']
    · have hw := hwf z (List.mem_of_mem_take hz2)
      simp only [Lit.wf, Bool.and_eq_true] at hw
      exact ⟨of_decide_eq_true hw.1, of_decide_eq_true hw.2⟩

/-- a number less than n -/
def SomeLt (n : Nat) (w : World) (e : Ending) (w' : World) : Prop := ∃ i : Nat, i < n ∧ e = .returned (.int .i64 i) ∧ w = w'

theorem b10At_any (A : Option Addr) (c : Nat) (zs : List Int) (k n : Nat) (w : World) (Z : Nat) (hr : RowB w Z A zs) (ha : AllB zs) (hl : zs.length ≤ 1048576) (hk : k ≤ 1000) (h2 : 2 ≤ n) (hn : n ≤ 100000) :
    Calls Tryz.prog 15 #[.slice A zs.length c, .int .i64 k, .int .i64 n] w (SomeLt n w) := by
  have HR := Lib.hid hr
  have HA := Lib.hid ha
  clear hr ha
  have h2' : (2 : Int) ≤ n := by omega
  by_cases hlt : k < zs.length
  · obtain ⟨b, off, rfl, hb, hcell⟩ := HR.out (by omega)
    have hc := hcell k hlt
    obtain ⟨b0, b1⟩ := atB_bd HA.out k
    generalize atB zs k = z at *
    have hm0 := Int.emod_nonneg z (show (n : Int) ≠ 0 by omega)
    have hm1 := Int.emod_lt_of_pos z (show (0 : Int) < n by omega)
    have HM : Hid (z % (n : Int) = ((z % (n : Int)).toNat : Int) ∧ (z % (n : Int)).toNat < n) := ⟨by omega, by omega⟩
    clear hcell hm0 hm1
    go_enter Tryz.func15, Tryz.ntmps15
    go_wp2
    go_ret
    exact ⟨_, HM.out.2, by rw [← HM.out.1]; rfl, rfl⟩
  · obtain ⟨q, hq⟩ : ∃ q : Int, (k : Int) * 37 + 11 = q := ⟨_, rfl⟩
    have q0 : 0 ≤ q := by omega
    have q1 : q ≤ 100000 := by omega
    have hm0 := Int.emod_nonneg q (show (n : Int) ≠ 0 by omega)
    have hm1 := Int.emod_lt_of_pos q (show (0 : Int) < n by omega)
    have HM : Hid (q % (n : Int) = ((q % (n : Int)).toNat : Int) ∧ (q % (n : Int)).toNat < n) := ⟨by omega, by omega⟩
    have hge : (zs.length : Int) ≤ (k : Int) := by omega
    clear hlt hm0 hm1
    go_enter Tryz.func15, Tryz.ntmps15
    go_wp2_with fail
    go_ret
    exact ⟨_, HM.out.2, by rw [← HM.out.1]; rfl, rfl⟩

theorem long_any (A B : Option Addr) (n c m d : Nat) (hn : n ≤ 9223372036854775807) (hm : m ≤ 9223372036854775807) (w : World) :
    Calls Tryz.prog 4 #[.slice A n c, .slice B m d] w fun e w' => e = .returned (.bool (decide (1048576 < n) || decide (1048576 < m))) ∧ w = w' := by
  by_cases h : 1048576 < n
  · have h' : (1048576 : Int) < n := by omega
    have H := Lib.hid (decide_eq_true h)
    clear h
    go_enter Tryz.func4, Tryz.ntmps4
    go_wp2
    go_ret
    exact ⟨by rw [H.out]; rfl, rfl⟩
  · have h' : (n : Int) ≤ 1048576 := by omega
    have H := Lib.hid (decide_eq_false h)
    clear h
    by_cases g : 1048576 < m
    · have g' : (1048576 : Int) < m := by omega
      have G := Lib.hid (decide_eq_true g)
      clear g
      go_enter Tryz.func4, Tryz.ntmps4
      go_wp2
      go_ret
      exact ⟨by rw [H.out, G.out]; rfl, rfl⟩
    · have g' : (m : Int) ≤ 1048576 := by omega
      have G := Lib.hid (decide_eq_false g)
      have d1 : decide ((1048576 : Int) < (n : Int)) = false := decide_eq_false (by omega)
      have d2 : decide ((1048576 : Int) < (m : Int)) = false := decide_eq_false (by omega)
      clear g
      go_enter Tryz.func4, Tryz.ntmps4
      go_wp2
      go_ret
      exact ⟨by rw [H.out, G.out]; rfl, rfl⟩

end Go.Proofs.YtckhdbnoihieeaaGreatDoor
