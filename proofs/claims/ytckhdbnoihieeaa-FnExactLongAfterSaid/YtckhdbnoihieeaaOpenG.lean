/-
  What is proved here: how a grammar that came in is read. Conditions: it is one that a machine can hold.
-/
import Derived.Test.YtckhdbnoihieeaaRlB
import Derived.ProofKit
import Derived.Lib.SmallJoins
import Derived.Deep.Fields
import Derived.ChangeSame
namespace Go.Proofs.Ytckhdbnoihieeaa
open Go.RowKit Go.ChangeShapes Go.WideShapes

/-- what is known of a grammar that came in -/
structure GramIn (w : World) (st : ByteArray) (A : Option Addr) (n : Nat) (ss : List ByteArray) : Prop where
  row : RowU w w.heap.size A ss
  len : ss.length = 2 * n
  small : n ≤ 9223372036854775807
  start : st.size ≤ 9223372036854775807
  texts : ∀ j, j < ss.length → (atS ss j).size ≤ 9223372036854775807

set_option maxRecDepth 1000000 in
theorem rule_cells {H : Type} {enc : TypeId × Value → H} {w : World} {base : Nat} {spare : Nat → Bool} {held : Bool} {fuel : Nat} {cs : List Value} {x : DataW H × List MemPlace}
    (h : DataW.trod enc Try.prog w base spare held fuel 110 cs = some x) : ∃ a b : ByteArray, cs = [.string a, .string b] ∧ a.size ≤ maxLen ∧ b.size ≤ maxLen := by
  obtain ⟨y0, y1, n, _, hlen, t0, t1⟩ := trod_struct2 Try.underlying110 h
  have e2 : Try.prog.cellsOf 110 = 2 := by kernel_rfl
  have e1 : Try.prog.cellsOf 9 = 1 := by kernel_rfl
  rw [e2] at hlen
  match cs, hlen with
  | [c0, c1], _ =>
    simp only [e1, List.drop, List.take] at t0 t1
    obtain ⟨a, ha, _, sa⟩ := DataW.trod_string Try.underlying9 t0
    obtain ⟨b, hb, _, sb⟩ := DataW.trod_string Try.underlying9 t1
    simp only [List.cons.injEq, and_true] at ha hb
    subst ha hb
    exact ⟨a, b, rfl, sa, sb⟩

/-- texts in a row, told by a function -/
def rowOf (f : Nat → ByteArray × ByteArray) (n : Nat) : List ByteArray := (List.range (2 * n)).map fun j => if j % 2 = 0 then (f (j / 2)).1 else (f (j / 2)).2
theorem rowOf_length (f : Nat → ByteArray × ByteArray) (n : Nat) : (rowOf f n).length = 2 * n := by simp [rowOf]
theorem at_rowOf {f : Nat → ByteArray × ByteArray} {n j : Nat} (h : j < 2 * n) : atS (rowOf f n) j = if j % 2 = 0 then (f (j / 2)).1 else (f (j / 2)).2 := by simp [atS, rowOf, List.getD, h]

set_option maxRecDepth 1000000 in
theorem open_rules {H : Type} {enc : TypeId × Value → H} {w : World} {spare : Nat → Bool} {held : Bool} {fuel : Nat} {v : Value} {x : DataW H × List MemPlace}
    (h : DataW.trod enc Try.prog w 0 spare held fuel 47 [v] = some x) :
    ∃ A n c ss, v = .slice A n c ∧ RowU w w.heap.size A ss ∧ ss.length = 2 * n ∧ n ≤ 9223372036854775807 ∧ ∀ j, j < ss.length → (atS ss j).size ≤ 9223372036854775807 := by
  have e2 : Try.prog.cellsOf 110 = 2 := by kernel_rfl
  rcases Go.Deep.open_slice Try.underlying47 h with ⟨hcs, _⟩ | ⟨a, len, cap, m, n, D, Pl, hcs, _, hl, hm, hmm, _, hi⟩
  · simp only [List.cons.injEq, and_true] at hcs
    subst hcs
    exact ⟨none, 0, 0, [], rfl, fun h => absurd h (by decide), rfl, by omega, fun j hj => absurd hj (Nat.not_lt_zero _)⟩
  · simp only [List.cons.injEq, and_true] at hcs
    subst hcs
    have hlm : len ≤ m := by rw [hmm]; split <;> omega
    have each : ∀ i, ∃ ab : ByteArray × ByteArray, i < len → w.cell? (a.add (i * 2)) = some (.string ab.1) ∧ w.cell? ((a.add (i * 2)).add 1) = some (.string ab.2) ∧ ab.1.size ≤ maxLen ∧ ab.2.size ≤ maxLen := by
      intro i
      by_cases h : i < len
      · obtain ⟨cs', hc, ht⟩ := hi i (by omega)
        rw [e2] at hc
        obtain ⟨p, q, rfl, hp, hq⟩ := rule_cells ht
        obtain ⟨_, _, hat⟩ := World.cells?_some hc
        refine ⟨(p, q), fun _ => ⟨?_, ?_, hp, hq⟩⟩
        · have := hat 0 (by omega)
          rw [show (a.add (i * 2)).add 0 = a.add (i * 2) by rw [Go.Deep.add_add]; rfl] at this
          exact this
        · exact hat 1 (by omega)
      · exact ⟨(ByteArray.empty, ByteArray.empty), fun g => absurd g h⟩
    refine ⟨some a, len, cap, rowOf (fun i => Classical.choose (each i)) len, rfl, ?_, rowOf_length _ _, by unfold maxLen at hm; omega, ?_⟩
    · intro h0
      rw [rowOf_length] at h0
      have hx := fun i (g : i < len) => Classical.choose_spec (each i) g
      obtain ⟨b, off, spot⟩ := a
      have hspot : spot = none := by
        have := (hx 0 (by omega)).1
        simpa [Addr.add] using World.cell?_spot this
      subst hspot
      refine ⟨b, off, rfl, ?_, fun j hj => ?_⟩
      · have h1 := (hx 0 (by omega)).1
        rcases Nat.lt_or_ge b w.heap.size with hb | hb
        · exact hb
        · exfalso
          simp [World.cell?, Addr.add, Array.getElem?_eq_none hb] at h1
      · rw [rowOf_length] at hj
        rw [at_rowOf hj]
        have h1 := hx (j / 2) (by omega)
        by_cases e : j % 2 = 0
        · rw [if_pos e, ← h1.1, Go.WideShapes.add_plain, show j / 2 * 2 = j by omega]
        · rw [if_neg e, ← h1.2.1, Go.WideShapes.add_plain, Go.WideShapes.add_plain, show off + j = off + j / 2 * 2 + 1 by omega]
    · intro j hj
      rw [rowOf_length] at hj
      rw [at_rowOf hj]
      have h1 := Classical.choose_spec (each (j / 2)) (by omega)
      unfold maxLen at h1
      split
      · exact h1.2.2.1
      · exact h1.2.2.2

set_option maxRecDepth 1000000 in
theorem open_grammar {H : Type} {enc : TypeId × Value → H} {w : World} {spare : Nat → Bool} {held : Bool} {r : Reach} {b0 : Nat} {v : Value} {d : DataW H} {p : List MemPlace}
    (hv : Value.okWide Try.prog w r b0 49 v) (h : DataW.Trod enc Try.prog w 0 spare held 49 v d p) :
    ∃ st A n c ss, v = .agg #[.string st, .slice A n c] ∧ GramIn w st A n ss := by
  obtain ⟨v0, v1, y0, y1, k, rfl, _, _, t0, t1⟩ := Go.Joins.open_agg2 Try.underlying49 (by kernel_rfl) (by kernel_rfl) hv h
  obtain ⟨st, hst, _, ss⟩ := DataW.trod_string Try.underlying9 t0
  simp only [List.cons.injEq, and_true] at hst
  subst hst
  obtain ⟨A, n, c, rs, rfl, hr, hl, hn, hs⟩ := open_rules t1
  exact ⟨st, A, n, c, rs, rfl, hr, hl, hn, by unfold maxLen at ss; omega, hs⟩

end Go.Proofs.Ytckhdbnoihieeaa
