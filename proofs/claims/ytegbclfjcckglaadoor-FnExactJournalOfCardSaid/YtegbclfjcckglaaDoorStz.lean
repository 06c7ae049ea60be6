/-
  What is proved here: sizes and copies of lists of texts, as walks, and how a list of texts that came in is read. Conditions: the list is one that a machine can hold.
-/
import Derived.Test.YtegbclfjcckglaaDoorStk
import Derived.ProofKit
import Derived.Deep.Fields
import Derived.Deep.Slices
import Derived.ChangeSame
namespace Go.Proofs.YtegbclfjcckglaaDoor
open Go.RowKit

/-- sizes that are known to be small -/
def SzT (left : Nat) (ss : List ByteArray) (r : Int) : Prop := (0 ≤ r → ss.length ≤ left ∧ ∀ j, j < ss.length → (atT ss j).size ≤ left) ∧ -1 ≤ r ∧ r ≤ left

theorem szStr_is (A : Option Addr) (c : Nat) (ss : List ByteArray) (left : Nat) (w : World) (hr : RowT w w.heap.size A ss) (hN : ss.length ≤ 9223372036854775807) (hS : ∀ j, j < ss.length → (atT ss j).size ≤ 9223372036854775807) (hl : left ≤ 1048576) :
    Calls Tryd.prog 26 #[.slice A ss.length c, .int .i64 left] w fun e w' => ∃ r : Int, e = .returned (.int .i64 r) ∧ SzT left ss r ∧ w' = w := by
  have HR := Lib.hid hr
  have HS := Lib.hid hS
  clear hr hS
  by_cases h1 : ss.length ≤ left
  · go_enter Tryd.func26, Tryd.ntmps26
    go_wp2
    go_loop [1, 5] (fun l i => ∃ k r : Nat, k ≤ ss.length ∧ i = .int .i64 k ∧ l = .int .i64 r ∧ r ≤ left ∧ Hid (∀ j, j < k → (atT ss j).size ≤ left)) (fun _ i => ss.length - (intOf i).toNat)
    case atStart => exact ⟨0, left - ss.length, Nat.zero_le _, rfl, by rw [Int.ofNat_sub h1], by omega, fun j h => absurd h (by omega)⟩
    case round =>
      obtain ⟨k, r, hk, rfl, rfl, hrl, hJ⟩ := hrel
      by_cases hlt : k < ss.length
      · obtain ⟨b, off, rfl, hb, hcell⟩ := HR.out (by omega)
        have hc := hcell k hlt
        have g1 := HS.out k hlt
        by_cases h2 : (atT ss k).size ≤ r
        · have HJ : Hid (∀ j, j < k + 1 → (atT ss j).size ≤ left) := fun j hj => by
            by_cases e1 : j = k
            · rw [e1]; omega
            · exact hJ.out j (by omega)
          have e1 : (r : Int) - ((atT ss k).size : Int) = ((r - (atT ss k).size : Nat) : Int) := by omega
          have hql : r - (atT ss k).size ≤ left := by omega
          clear hJ hcell
          generalize atT ss k = x at *
          generalize hq : r - x.size = q at *
          have e2 : decide ((r : Int) - (x.size : Int) < 0) = false := decide_eq_false (by omega)
          go_wp2_with fail
          go_round
          case rel => exact ⟨k + 1, q, by omega, by go_num, by first | rfl | (rw [← e1]; rfl) | (rw [e1]), hql, HJ⟩
          case measure => simp [intOf]; omega
        · have e2 : decide ((r : Int) - ((atT ss k).size : Int) < 0) = true := decide_eq_true (by omega)
          clear hJ hcell
          generalize atT ss k = x at *
          go_wp2_with fail
          go_ret
          exact ⟨-1, rfl, ⟨fun h => absurd h (by decide), by omega, by omega⟩, rfl⟩
      · have HJ : Hid (SzT left ss r) := ⟨fun _ => ⟨h1, fun j hj => hJ.out j (by omega)⟩, by omega, by omega⟩
        go_wp2
        go_ret
        exact ⟨r, rfl, HJ.out, rfl⟩
  · go_enter Tryd.func26, Tryd.ntmps26
    go_wp2
    go_ret
    exact ⟨-1, rfl, ⟨fun h => absurd h (by decide), by omega, by omega⟩, rfl⟩

theorem info_strT : (Tryd.prog.info? 9).map (fun i => (i.zero, i.size, i.bytes)) = some (some (.string ByteArray.empty), 1, 16) := by kernel_rfl

/-- a block of texts of its own -/
structure OneT (w : World) (G n : Nat) (f : Nat → ByteArray) : Prop where
  size : G < w.heap.size
  cell : ∀ j, j < n → w.cell? ⟨G, j, none⟩ = some (.string (f j))
  free : ∀ j, w.frozen? ⟨G, j, none⟩ = false
theorem oneT_new (w : World) (n : Nat) (t : TypeId) : OneT (w.alloc (.cells (madeCells #[.string ByteArray.empty] n) t)) w.heap.size n (fun _ => ByteArray.empty) := by
  refine ⟨by simp, fun j hj => ?_, fun j => ?_⟩
  · have h : (madeCells #[.string ByteArray.empty] n)[j]? = some (.string ByteArray.empty) := by simp [madeCells, hj, Nat.mod_one]
    simp [World.cell?, World.alloc, -World.alloc_eq, h]
  · simp [World.frozen?, World.alloc, -World.alloc_eq]
theorem OneT.step {w : World} {G n k : Nat} {f g : Nat → ByteArray} {x : ByteArray} (h : OneT w G n f) (hg : g = fun j => if j = k then x else f j) (hk : k < n) : OneT (w.setCell ⟨G, k, none⟩ (.string x)) G n g := by
  subst hg
  refine ⟨by have := h.size; simpa [World.setCell] using this, fun j hj => ?_, fun j => by rw [World.frozen?_setCell]; exact h.free j⟩
  by_cases e : j = k
  · subst e
    rw [World.cell?_setCell_same w _ _ (h.cell j hj), if_pos rfl]
  · rw [World.cell?_setCell_other w _ _ _ (by intro h; injection h with _ h2 _; omega), h.cell j hj, if_neg e]
def copT (ss : List ByteArray) (k : Nat) (j : Nat) : ByteArray := if j < k then atT ss j else ByteArray.empty
theorem copT_succ (ss : List ByteArray) (k : Nat) : copT ss (k + 1) = fun j => if j = k then atT ss k else copT ss k j := by
  funext j
  unfold copT
  by_cases e : j = k
  · subst e; rw [if_pos (by omega), if_pos rfl]
  · rw [if_neg e]
    by_cases h : j < k
    · rw [if_pos h, if_pos (by omega)]
    · rw [if_neg h, if_neg (by omega)]

theorem toStr_is (A : Option Addr) (c : Nat) (ss : List ByteArray) (w : World) (hr : RowT w w.heap.size A ss) (hN : ss.length ≤ 1048576) :
    Calls Tryd.prog 28 #[.slice A ss.length c] w fun e w' => ∃ g, e = .returned (.slice (some ⟨g, 0, none⟩) ss.length ss.length) ∧ Hid (OwnT w' w.heap.size (some ⟨g, 0, none⟩) ss) ∧ Hid (Below w.heap.size w w') := by
  obtain ⟨i0, hi, hz0, hz1, hz2⟩ := info_parts info_strT
  have hmk := fun W => run_make_rowN (P := Tryd.prog) 44 9 i0 (.string ByteArray.empty) Tryd.underlying44 hi hz0 .i64 .i64 ss.length ss.length (Nat.le_refl _) (by rw [hz2]; omega) (by omega) W
  rw [hz1, Nat.mul_one] at hmk
  have HR := Lib.hid hr
  have C0 : Hid (OneT _ _ _ (copT ss 0)) := oneT_new w ss.length 9
  have B0 : Hid (Below w.heap.size w (w.alloc (.cells (madeCells #[.string ByteArray.empty] ss.length) 9))) := (Below.refl _ _).alloc (Nat.le_refl _) _
  clear hr hi hz0 hz1 hz2
  go_enter Tryd.func28, Tryd.ntmps28
  go_wp2
  clear hmk
  generalize w.alloc (.cells (madeCells #[.string ByteArray.empty] ss.length) 9) = w1 at *
  generalize hG : w.heap.size = G at *
  have HG := Lib.hid hG
  clear hG
  go_loopw [4] (fun i wr => ∃ k : Nat, k ≤ ss.length ∧ i = .int .i64 k ∧ Hid (OneT wr G ss.length (copT ss k)) ∧ Hid (Below G w wr)) (fun i _ => ss.length - (intOf i).toNat)
  case atStart => exact ⟨0, Nat.zero_le _, rfl, C0, B0⟩
  case round =>
    obtain ⟨k, hk, rfl, hC, hB⟩ := hrel
    by_cases hlt : k < ss.length
    · obtain ⟨b, off, rfl, hb, hcell⟩ := HR.out (by omega)
      have hc := hcell k hlt
      rw [← hB.out.cell (p := ⟨b, _, none⟩) hb] at hc
      have hd := hC.out.cell k hlt
      have hf := hC.out.free k
      have S1 := Lib.hid (hC.out.step (x := atT ss k) (copT_succ ss k) hlt)
      have S2 : Hid (Below G w (wr.setCell ⟨G, k, none⟩ (.string (atT ss k)))) := hB.out.setCell (Nat.le_refl _) _
      clear hcell hC hB
      go_wp2_with fail
      go_roundw
      case rel => exact ⟨k + 1, by omega, by go_num, S1, S2⟩
      case measure => simp [intOf]; omega
    · have HE : Hid (k = ss.length) := by show k = _; omega
      go_wp2
      go_ret
      refine ⟨G, by first | rfl | (rw [HG.out]), ?_, by rw [HG.out]; exact hB⟩
      rw [HG.out]
      intro h0
      refine ⟨G, 0, rfl, Nat.le_refl _, hC.out.size, fun j hj => ?_, fun j _ => hC.out.free _⟩
      rw [Nat.zero_add, hC.out.cell j hj]
      unfold copT
      rw [if_pos (by have := HE.out; omega)]

/-- what is known of a list of texts that came in -/
structure StrsIn (w : World) (A : Option Addr) (len : Nat) (ss : List ByteArray) : Prop where
  row : RowT w w.heap.size A ss
  many : ss.length = len
  small : len ≤ 9223372036854775807
  texts : ∀ j, j < ss.length → (atT ss j).size ≤ 9223372036854775807

open Go.ChangeShapes Go.WideShapes in
theorem open_strs {H : Type} {enc : TypeId × Value → H} {w : World} {spare : Nat → Bool} {held : Bool} {A : Option Addr} {len cap : Nat} {d : DataW H} {ps : List MemPlace}
    (h : DataW.Trod enc Tryd.prog w 0 spare held 44 (.slice A len cap) d ps) : ∃ ss, StrsIn w A len ss := by
  obtain ⟨fuel, h⟩ := h
  have e2 : Tryd.prog.cellsOf 9 = 1 := by kernel_rfl
  rcases Go.Deep.open_slice Tryd.underlying44 h with ⟨hcs, _⟩ | ⟨a, l, c, m, n, D, Pl, hcs, _, hl, hm, hmm, _, hi⟩
  · simp [Value.cells] at hcs
    obtain ⟨rfl, rfl, rfl⟩ := hcs
    exact ⟨[], fun h => absurd h (by decide), rfl, by omega, fun j hj => absurd hj (Nat.not_lt_zero _)⟩
  · simp [Value.cells] at hcs
    obtain ⟨rfl, rfl, rfl⟩ := hcs
    have hlm : len ≤ m := by rw [hmm]; split <;> omega
    have each : ∀ i, ∃ x : ByteArray, i < len → w.cell? (a.add i) = some (.string x) ∧ x.size ≤ maxLen := by
      intro i
      by_cases h : i < len
      · obtain ⟨cs', hc, ht⟩ := hi i (by omega)
        rw [e2] at hc
        obtain ⟨p, hp, _, sp⟩ := DataW.trod_string Tryd.underlying9 ht
        obtain ⟨_, _, hat⟩ := World.cells?_some hc
        refine ⟨p, fun _ => ⟨?_, sp⟩⟩
        have h0 := hat 0 (by omega)
        rw [Nat.mul_one] at h0
        rw [show (a.add i).add 0 = a.add i by rw [Go.Deep.add_add]; rfl] at h0
        rw [h0, hp]; rfl
      · exact ⟨ByteArray.empty, fun g => absurd g h⟩
    have hx := fun i (g : i < len) => Classical.choose_spec (each i) g
    have hat : ∀ j, j < len → atT ((List.range len).map fun i => Classical.choose (each i)) j = Classical.choose (each j) := fun j hj => by simp [atT, List.getD, hj]
    refine ⟨(List.range len).map fun i => Classical.choose (each i), ?_, by simp, by unfold maxLen at hm; omega, ?_⟩
    · intro h0
      have hlen : 0 < len := by simpa using h0
      obtain ⟨b, off, spot⟩ := a
      have hspot : spot = none := by
        have := (hx 0 hlen).1
        simpa [Addr.add] using World.cell?_spot this
      subst hspot
      refine ⟨b, off, rfl, ?_, fun j hj => ?_⟩
      · have h1 := (hx 0 hlen).1
        rcases Nat.lt_or_ge b w.heap.size with hb | hb
        · exact hb
        · exfalso
          simp [World.cell?, Addr.add, Array.getElem?_eq_none hb] at h1
      · have hj' : j < len := by simpa using hj
        rw [hat j hj', ← (hx j hj').1, Go.WideShapes.add_plain]
    · intro j hj
      have hj' : j < len := by simpa using hj
      rw [hat j hj']
      have := (hx j hj').2
      unfold maxLen at this
      exact this

end Go.Proofs.YtegbclfjcckglaaDoor
