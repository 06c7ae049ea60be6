/-
  What is proved here: the law SumNumbers as a walk, whatever is drawn; how a list of 32-bit numbers that came in is read. Conditions: the list is one that a machine can hold.
-/
import Derived.Test.YthnlcckogjfipacSum
import Derived.ProofKit
namespace Go.Proofs.Ythnlcckogjfipac
open Flt Go.RowKit Go.ChangeShapes Go.WideShapes

/-- what is known of a list that came in -/
structure ListF (w : World) (A : Option Addr) (len : Nat) (zs : List Nat) : Prop where
  size : zs.length = len
  row : RowF w w.heap.size A zs
  small : len ≤ maxLen

theorem float_cell {H : Type} {enc : TypeId × Value → H} {P : Program} {w : World} {base : Nat} {spare : Nat → Bool} {held : Bool} {n : Nat} {e : TypeId} {v : Value} {x : DataW H × List MemPlace} (he : P.underlying e = some (.float .f32)) (h : DataW.trod enc P w base spare held n e [v] = some x) : ∃ b, v = .float .f32 b := by
  cases n with
  | zero => simp [DataW.trod] at h
  | succ n =>
    simp only [DataW.trod, he] at h
    cases v <;> simp at h
    rename_i k b
    cases k
    · exact ⟨b, rfl⟩
    · simp at h

theorem open_floats {H : Type} {enc : TypeId × Value → H} {P : Program} {w : World} {spare : Nat → Bool} {held : Bool} {t e : TypeId} {A : Option Addr} {len cap : Nat} {d : DataW H} {ps : List MemPlace} (ht : P.underlying t = some (.slice e)) (he : P.underlying e = some (.float .f32)) (hc : P.cellsOf e = 1)
    (h : DataW.Trod enc P w 0 spare held t (.slice A len cap) d ps) : ∃ zs, ListF w A len zs := by
  obtain ⟨fuel, hf⟩ := h
  rcases Go.Deep.open_slice1 ht hc hf with ⟨hcs, _⟩ | ⟨a, l, c, m, n, V, D, Pl, hcs, _, hl, hm, hmm, _, hx⟩
  · simp [Value.cells] at hcs
    obtain ⟨rfl, rfl, rfl⟩ := hcs
    exact ⟨[], rfl, fun h => by simp at h, by unfold maxLen; omega⟩
  · simp [Value.cells] at hcs
    obtain ⟨rfl, rfl, rfl⟩ := hcs
    have hlm : len ≤ m := by rw [hmm]; split <;> omega
    have hV : ∀ i, i < len → ∃ b, V i = .float .f32 b := fun i hi => float_cell he (hx i (by omega)).2
    obtain ⟨f, hF⟩ := Go.Deep.choose_lt (α := Nat) (p := fun i b => V i = .float .f32 b) hV
    refine ⟨(List.range len).map f, by simp, ?_, by omega⟩
    intro h0
    have hlen : 0 < len := by simpa using h0
    obtain ⟨b, off, spot⟩ := a
    have hspot : spot = none := by
      have := (hx 0 (by omega)).1
      simpa [Addr.add] using World.cell?_spot this
    subst hspot
    refine ⟨b, off, rfl, ?_, fun j hj => ?_⟩
    · have h1 := (hx 0 (by omega)).1
      rcases Nat.lt_or_ge b w.heap.size with hb | hb
      · exact hb
      · exfalso
        simp [World.cell?, Addr.add, Array.getElem?_eq_none hb] at h1
    · have hj' : j < len := by simpa using hj
      have h1 := (hx j (by omega)).1
      rw [hF j hj', Go.WideShapes.add_plain] at h1
      rw [h1]
      simp [at0, List.getD, hj']

theorem lawSum (A : Option Addr) (len c : Nat) (zs : List Nat) {w : World} (hl : ListF w A len zs) :
    Calls Try.prog 3 #[.slice A len c] w fun e w' => e = .returned (.bool true) ∧ Below w.heap.size w w' := by
  obtain ⟨hsz, hrow, hmax⟩ := hl
  subst hsz
  unfold maxLen at hmax
  by_cases hbig : 1048576 < zs.length
  · go_enter Try.func3, Try.ntmps3
    go_wp2
    go_ret
    exact ⟨rfl, Below.refl _ _⟩
  · have hn : zs.length ≤ 1048576 := by omega
    have R0 := Lib.hid hrow
    clear hrow hbig
    go_enter Try.func3, Try.ntmps3
    go_wp2_with fail
    refine (toF A c zs _ R0.out hn).mono ?_
    rintro e w1 ⟨g1, rfl, hg1, hl1, R1, B1⟩
    go_wp2_with fail
    refine (specSumN _ _ zs _ _ R1.out hn).mono ?_
    rintro e w' ⟨s1, n1, rfl, rfl, hs1⟩
    go_wp2_with fail
    have B1' : Below w.heap.size w (w1.drewN n1) := ⟨B1.os, B1.tape, B1.output, B1.size, B1.block⟩
    have Ra := Lib.hid ((R0.out.below B1').mono (Nat.le_trans hg1 (Nat.le_of_lt hl1)))
    have H1 : (w1.drewN n1).heap.size = w1.heap.size := rfl
    refine (toF A c zs (w1.drewN n1) Ra.out hn).mono ?_
    rintro e w2 ⟨g2, rfl, hg2, hl2, R2, B2⟩
    rw [H1] at hg2 B2
    go_wp2_with fail
    refine (implSumN _ _ zs _ _ R2.out hn).mono ?_
    rintro e w' ⟨s2, n2, rfl, rfl, hs2⟩
    go_wp2_with (first | (go_at_call 10; refine (sameFloat_any _ _ (wid_eq2 (by assumption) (by assumption) (by assumption) (by assumption)) _).mono ?_; rintro e w' ⟨rfl, n3, rfl⟩) | ((with_reducible refine upon_wid ?_ ?_ ?_); rotate_left 2; intro _ _ _ _; rotate_left 1; kernel_rfl; kernel_rfl))
    generalize hm : n2 + _ + _ + n3 = m
    have B2' : Below w1.heap.size (w1.drewN n1) (w2.drewN m) := ⟨B2.os, B2.tape, B2.output, B2.size, B2.block⟩
    have B3 : Below w.heap.size w (w2.drewN m) := B1'.trans (B2'.mono (Nat.le_trans hg1 (Nat.le_of_lt hl1)))
    have Rb := Lib.hid ((R0.out.below B3).mono (Nat.le_trans hg1 (Nat.le_trans (Nat.le_of_lt hl1) B2.size)))
    have Rc : RowF (w2.drewN m) w2.heap.size (some ⟨g2, 0, none⟩) zs := R2.out
    have H2 : (w2.drewN m).heap.size = w2.heap.size := rfl
    refine (toF A c zs (w2.drewN m) Rb.out hn).mono ?_
    rintro e w3 ⟨g3, rfl, hg3, hl3, R3, B4⟩
    rw [H2] at B4
    have Rd := Lib.hid ((Rc.below B4).mono B4.size)
    have B5 : Below w.heap.size w w3 := B3.trans (B4.mono (Nat.le_trans hg1 (Nat.le_trans (Nat.le_of_lt hl1) B2.size)))
    clear hm B3 B4 Rb Rc H2 B2' B2 Ra B1' B1 R1 R2
    go_wp2_with fail
    refine (eqF _ _ _ _ zs w3 w3.heap.size Rd.out R3.out hn).mono ?_
    rintro e w' ⟨rfl, n4, rfl⟩
    go_wp2_with fail
    go_ret
    exact ⟨rfl, ⟨B5.os, B5.tape, B5.output, B5.size, B5.block⟩⟩

end Go.Proofs.Ythnlcckogjfipac
