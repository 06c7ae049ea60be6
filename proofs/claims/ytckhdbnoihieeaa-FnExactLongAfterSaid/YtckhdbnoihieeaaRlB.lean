/-
  What is proved here: rows of texts, and sizes, copies, comparisons, marks and looks of lists of rules, as walks. Conditions: at most 1048576 rules.
-/
import Derived.Test.YtckhdbnoihieeaaRlA
import Derived.Test.YtckhdbnoihieeaaInts
import Derived.Deep.RegionHeld3
namespace Go.Proofs.Ytckhdbnoihieeaa
open Go.RowKit

/-- the text at a place -/
def atS (ss : List ByteArray) (j : Nat) : ByteArray := ss.getD j ByteArray.empty
theorem atS_eq {ss : List ByteArray} {j : Nat} (h : j < ss.length) : atS ss j = ss[j] := by simp [atS, List.getD, h]
theorem ext_atS {ss ts : List ByteArray} (h : ss.length = ts.length) (e : ∀ j, j < ss.length → atS ss j = atS ts j) : ss = ts := by
  apply List.ext_getElem h
  intro j h1 h2
  have := e j h1
  rwa [atS_eq h1, atS_eq h2] at this

/-- a row of texts below a block -/
def RowU (w : World) (B : Nat) (A : Option Addr) (ss : List ByteArray) : Prop :=
  0 < ss.length → ∃ b off, A = some ⟨b, off, none⟩ ∧ b < B ∧ ∀ j, j < ss.length → w.cell? ⟨b, off + j, none⟩ = some (.string (atS ss j))

/-- a row of texts from a block on, that may be written -/
def OwnU (w : World) (B : Nat) (A : Option Addr) (ss : List ByteArray) : Prop :=
  0 < ss.length → ∃ b off, A = some ⟨b, off, none⟩ ∧ B ≤ b ∧ b < w.heap.size ∧ (∀ j, j < ss.length → w.cell? ⟨b, off + j, none⟩ = some (.string (atS ss j))) ∧ ∀ j, j < ss.length → w.frozen? ⟨b, off + j, none⟩ = false

theorem RowU.below {w w' : World} {B : Nat} {A : Option Addr} {ss : List ByteArray} (h : RowU w B A ss) (hb : Below B w w') : RowU w' B A ss := by
  intro h0
  obtain ⟨b, off, hA, hlt, hc⟩ := h h0
  exact ⟨b, off, hA, hlt, fun j hj => by rw [hb.cell hlt]; exact hc j hj⟩
theorem RowU.mono {w : World} {B B' : Nat} {A : Option Addr} {ss : List ByteArray} (h : RowU w B A ss) (hb : B ≤ B') : RowU w B' A ss := by
  intro h0
  obtain ⟨b, off, hA, hlt, hc⟩ := h h0
  exact ⟨b, off, hA, by omega, hc⟩
theorem RowU.carry {w w' : World} {A : Option Addr} {ss : List ByteArray} (h : RowU w w.heap.size A ss) (hb : Below w.heap.size w w') : RowU w' w'.heap.size A ss := (h.below hb).mono hb.size
theorem OwnU.row {w : World} {B : Nat} {A : Option Addr} {ss : List ByteArray} (h : OwnU w B A ss) : RowU w w.heap.size A ss := by
  intro h0
  obtain ⟨b, off, hA, _, hlt, hc, _⟩ := h h0
  exact ⟨b, off, hA, hlt, hc⟩
theorem OwnU.below {w w' : World} {B : Nat} {A : Option Addr} {ss : List ByteArray} (h : OwnU w B A ss) (hb : Below w.heap.size w w') : OwnU w' B A ss := by
  intro h0
  obtain ⟨b, off, hA, hle, hlt, hc, hf⟩ := h h0
  exact ⟨b, off, hA, hle, Nat.lt_of_lt_of_le hlt hb.size, fun j hj => by rw [hb.cell hlt]; exact hc j hj, fun j hj => by rw [hb.frozen hlt]; exact hf j hj⟩
theorem OwnU.mono {w : World} {B B' : Nat} {A : Option Addr} {ss : List ByteArray} (h : OwnU w B A ss) (hb : B' ≤ B) : OwnU w B' A ss := by
  intro h0
  obtain ⟨b, off, hA, hle, hlt, hc, hf⟩ := h h0
  exact ⟨b, off, hA, by omega, hlt, hc, hf⟩

theorem OwnU.setLow {w : World} {B : Nat} {A : Option Addr} {ss : List ByteArray} (h : OwnU w B A ss) {q : Addr} (hq : q.block < B) (u : Value) : OwnU (w.setCell q u) B A ss := by
  intro h0
  obtain ⟨b, off, hA, hle, hlt, hc, hf⟩ := h h0
  have e : (w.setCell q u).heap[b]? = w.heap[b]? := Below.heap_setCell _ _ _ _ (by omega)
  exact ⟨b, off, hA, hle, by simpa [World.setCell] using hlt, fun j hj => by rw [World.cell?_of_block (w := w) e]; exact hc j hj, fun j hj => by rw [World.frozen?_of_block (w := w) e]; exact hf j hj⟩

/-- sizes that are known to be small -/
def SzOk (left : Nat) (n : Nat) (ss : List ByteArray) (r : Int) : Prop := (0 ≤ r → r + n ≤ left ∧ ∀ j, j < ss.length → (atS ss j).size ≤ left) ∧ -1 ≤ r ∧ r ≤ left

/-- what is left behind a rule -/
def szV (a b : ByteArray) (left : Nat) : Int := if a.size + b.size ≤ left then (left : Int) - a.size - b.size else -1

theorem szRule_is (a b : ByteArray) (left : Nat) (hl : left ≤ 1048576) (ha : a.size ≤ 9223372036854775807) (hb : b.size ≤ 9223372036854775807) (w : World) :
    Calls Try.prog 94 #[.agg #[.string a, .string b], .int .i64 left] w fun e w' => e = .returned (.int .i64 (szV a b left)) ∧ Below w.heap.size w w' := by
  by_cases h1 : a.size ≤ left
  · by_cases h2 : a.size + b.size ≤ left
    · have N : Hid (szV a b left = (left : Int) - a.size - b.size) := if_pos h2
      go_enter Try.func94, Try.ntmps94
      go_wp2
      go_ret
      exact ⟨by rw [N.out]; rfl, (Below.refl _ _).alloc (Nat.le_refl _) _⟩
    · have N : Hid (szV a b left = -1) := if_neg h2
      go_enter Try.func94, Try.ntmps94
      go_wp2
      go_ret
      exact ⟨by rw [N.out]; rfl, (Below.refl _ _).alloc (Nat.le_refl _) _⟩
  · have N : Hid (szV a b left = -1) := if_neg (by omega)
    go_enter Try.func94, Try.ntmps94
    go_wp2
    go_ret
    exact ⟨by rw [N.out]; rfl, (Below.refl _ _).alloc (Nat.le_refl _) _⟩

/-- both texts of a rule -/
theorem RowU.pair {w : World} {B : Nat} {A : Option Addr} {ss : List ByteArray} (h : RowU w B A ss) {n k : Nat} (hn : ss.length = 2 * n) (hk : k < n) :
    ∃ b off, A = some ⟨b, off, none⟩ ∧ b < B ∧ w.cell? ⟨b, off + k * 2, none⟩ = some (.string (atS ss (k * 2))) ∧ w.cell? ⟨b, off + k * 2 + 1, none⟩ = some (.string (atS ss (k * 2 + 1))) := by
  obtain ⟨b, off, hA, hb, hc⟩ := h (by omega)
  refine ⟨b, off, hA, hb, hc _ (by omega), ?_⟩
  have := hc (k * 2 + 1) (by omega)
  rwa [← Nat.add_assoc] at this

theorem szRuleS_is (A : Option Addr) (n c : Nat) (ss : List ByteArray) (left : Nat) (w : World) (hr : RowU w w.heap.size A ss) (hn : ss.length = 2 * n) (hN : n ≤ 9223372036854775807) (hS : ∀ j, j < ss.length → (atS ss j).size ≤ 9223372036854775807) (hl : left ≤ 1048576) :
    Calls Try.prog 75 #[.slice A n c, .int .i64 left] w fun e w' => ∃ r : Int, e = .returned (.int .i64 r) ∧ SzOk left n ss r ∧ Below w.heap.size w w' := by
  have HR := Lib.hid hr
  have HS := Lib.hid hS
  clear hr hS
  by_cases h1 : n ≤ left
  · go_enter Try.func75, Try.ntmps75
    go_wp2
    go_loopw [1, 5] (fun l i wr => ∃ k r : Nat, k ≤ n ∧ i = .int .i64 k ∧ l = .int .i64 r ∧ r + n ≤ left ∧ Hid (∀ j, j < k * 2 → (atS ss j).size ≤ left) ∧ Hid (Below w.heap.size w wr)) (fun _ i _ => n - (intOf i).toNat)
    case atStart => exact ⟨0, left - n, Nat.zero_le _, rfl, by rw [Int.ofNat_sub h1], by omega, fun j h => absurd h (by omega), Below.refl _ _⟩
    case round =>
      obtain ⟨k, r, hk, rfl, rfl, hrl, hJ, hB⟩ := hrel
      by_cases hlt : k < n
      · obtain ⟨b, off, rfl, hb, hc, hd⟩ := HR.out.pair hn hlt
        rw [← hB.out.cell (p := ⟨b, _, none⟩) hb] at hc hd
        have g1 := HS.out (k * 2) (by omega)
        have g2 := HS.out (k * 2 + 1) (by omega)
        by_cases h2 : (atS ss (k * 2)).size + (atS ss (k * 2 + 1)).size ≤ r
        · have HJ : Hid (∀ j, j < (k + 1) * 2 → (atS ss j).size ≤ left) := fun j hj => by
            by_cases e1 : j = k * 2
            · rw [e1]; omega
            · by_cases e2 : j = k * 2 + 1
              · rw [e2]; omega
              · exact hJ.out j (by omega)
          have C := szRule_is (atS ss (k * 2)) (atS ss (k * 2 + 1)) r (by omega) g1 g2 wr
          rw [show szV (atS ss (k * 2)) (atS ss (k * 2 + 1)) r = ((r - (atS ss (k * 2)).size - (atS ss (k * 2 + 1)).size : Nat) : Int) by unfold szV; rw [if_pos h2]; omega] at C
          generalize hq : r - (atS ss (k * 2)).size - (atS ss (k * 2 + 1)).size = q at *
          have hql : q + n ≤ left := by omega
          have HC := Lib.hid C
          clear C hJ hq h2 g1 g2
          go_wp2_with fail
          refine HC.out.mono ?_
          rintro e w' ⟨rfl, hb2⟩
          have HB : Hid (Below w.heap.size w w') := hB.out.trans (hb2.mono hB.out.size)
          clear hb2 hB
          go_wp2_with fail
          go_roundw
          case rel => exact ⟨k + 1, q, by omega, by go_num, rfl, hql, HJ, HB⟩
          case measure => simp [intOf]; omega
        · have C := szRule_is (atS ss (k * 2)) (atS ss (k * 2 + 1)) r (by omega) g1 g2 wr
          rw [show szV (atS ss (k * 2)) (atS ss (k * 2 + 1)) r = -1 by unfold szV; rw [if_neg h2]] at C
          have HC := Lib.hid C
          clear C hJ h2 g1 g2
          go_wp2_with fail
          refine HC.out.mono ?_
          rintro e w' ⟨rfl, hb2⟩
          have HB : Hid (Below w.heap.size w w') := hB.out.trans (hb2.mono hB.out.size)
          clear hb2 hB
          go_wp2_with fail
          go_ret
          exact ⟨-1, rfl, ⟨fun h => absurd h (by decide), by omega, by omega⟩, HB.out⟩
      · have HJ : Hid (SzOk left n ss r) := ⟨fun _ => ⟨by omega, fun j hj => hJ.out j (by omega)⟩, by omega, by omega⟩
        go_wp2
        go_ret
        exact ⟨r, rfl, HJ.out, hB.out⟩
  · go_enter Try.func75, Try.ntmps75
    go_wp2
    go_ret
    exact ⟨-1, rfl, ⟨fun h => absurd h (by decide), by omega, by omega⟩, Below.refl _ _⟩

theorem info_rule : (Try.prog.info? 114).map (fun i => (i.zero, i.size, i.bytes)) = some (some (.agg #[.string ByteArray.empty, .string ByteArray.empty]), 2, 32) := by kernel_rfl

/-- a block of texts of its own -/
structure OneS (w : World) (G n : Nat) (f : Nat → ByteArray) : Prop where
  size : G < w.heap.size
  cell : ∀ j, j < n → w.cell? ⟨G, j, none⟩ = some (.string (f j))
  free : ∀ j, w.frozen? ⟨G, j, none⟩ = false

theorem oneS_start (w : World) (n : Nat) (t : TypeId) : OneS (w.alloc (.cells (madeCells #[.string ByteArray.empty, .string ByteArray.empty] (n * 2)) t)) w.heap.size (n * 2) (fun _ => ByteArray.empty) := by
  refine ⟨by simp, fun j hj => ?_, fun j => ?_⟩
  · have h : (madeCells #[.string ByteArray.empty, .string ByteArray.empty] (n * 2))[j]? = some (.string ByteArray.empty) := by
      simp [madeCells, hj]
      have : j % 2 = 0 ∨ j % 2 = 1 := by omega
      rcases this with h | h <;> rw [h] <;> rfl
    simp [World.cell?, World.alloc, -World.alloc_eq, h]
  · simp [World.frozen?, World.alloc, -World.alloc_eq]

theorem OneS.below {w w' : World} {G n : Nat} {f : Nat → ByteArray} (h : OneS w G n f) (hb : Below w.heap.size w w') : OneS w' G n f :=
  ⟨Nat.lt_of_lt_of_le h.size hb.size, fun j hj => by rw [hb.cell h.size]; exact h.cell j hj, fun j => by rw [hb.frozen h.size]; exact h.free j⟩

theorem OneS.step {w : World} {G n k : Nat} {f g : Nat → ByteArray} {x : ByteArray} (h : OneS w G n f) (hk : k < n) (hg : g = fun j => if j = k then x else f j) : OneS (w.setCell ⟨G, k, none⟩ (.string x)) G n g := by
  subst hg
  refine ⟨by have := h.size; simpa [World.setCell] using this, fun j hj => ?_, fun j => by rw [World.frozen?_setCell]; exact h.free j⟩
  by_cases e : j = k
  · subst e
    rw [World.cell?_setCell_same w _ _ (h.cell j hj), if_pos rfl]
  · rw [World.cell?_setCell_other w _ _ _ (by intro h; injection h with _ h2 _; omega), h.cell j hj, if_neg e]

theorem OneS.own {w : World} {G n : Nat} {f : Nat → ByteArray} {ss : List ByteArray} (h : OneS w G n f) (hn : ss.length = n) (hf : ∀ j, j < n → f j = atS ss j) : OwnU w G (some ⟨G, 0, none⟩) ss := by
  intro h0
  refine ⟨G, 0, rfl, Nat.le_refl _, h.size, fun j hj => ?_, fun j hj => h.free _⟩
  rw [Nat.zero_add, h.cell j (by omega), hf j (by omega)]

/-- what a copy holds after k steps -/
def copS (ss : List ByteArray) (k : Nat) (j : Nat) : ByteArray := if j < k then atS ss j else ByteArray.empty
theorem copS_succ (ss : List ByteArray) (k : Nat) : copS ss (k + 1) = fun j => if j = k then atS ss k else copS ss k j := by
  funext j
  unfold copS
  by_cases e : j = k
  · subst e; rw [if_pos (by omega), if_pos rfl]
  · rw [if_neg e]
    by_cases h : j < k
    · rw [if_pos h, if_pos (by omega)]
    · rw [if_neg h, if_neg (by omega)]

theorem toRuleS_is (A : Option Addr) (n c : Nat) (ss : List ByteArray) (w : World) (hr : RowU w w.heap.size A ss) (hn : ss.length = 2 * n) (hN : n ≤ 1048576) :
    Calls Try.prog 78 #[.slice A n c] w fun e w' => e = .returned (.slice (some ⟨w.heap.size, 0, none⟩) n n) ∧ OwnU w' w.heap.size (some ⟨w.heap.size, 0, none⟩) ss ∧ w.heap.size < w'.heap.size ∧ Below w.heap.size w w' := by
  obtain ⟨i0, hi, hz0, hz1, hz2⟩ := info_parts info_rule
  have hmk := fun W => run_make_rowN (P := Try.prog) 54 114 i0 (.agg #[.string ByteArray.empty, .string ByteArray.empty]) Try.underlying54 hi hz0 .i64 .i64 n n (Nat.le_refl _) (by rw [hz2]; omega) (by omega) W
  rw [hz1] at hmk
  have HR := Lib.hid hr
  have C0 : Hid (OneS _ _ _ (copS ss 0)) := oneS_start w n 114
  have B0 : Hid (Below w.heap.size w (w.alloc (.cells (madeCells #[.string ByteArray.empty, .string ByteArray.empty] (n * 2)) 114))) := (Below.refl _ _).alloc (Nat.le_refl _) _
  clear hr hi hz0 hz1 hz2
  go_enter Try.func78, Try.ntmps78
  go_wp2
  clear hmk
  generalize w.alloc (.cells (madeCells #[.string ByteArray.empty, .string ByteArray.empty] (n * 2)) 114) = w1 at *
  generalize hG : w.heap.size = G at *
  have HG := Lib.hid hG
  clear hG
  go_loopw [4] (fun i wr => ∃ k : Nat, k ≤ n ∧ i = .int .i64 k ∧ Hid (OneS wr G (n * 2) (copS ss (k * 2))) ∧ Hid (Below G w wr)) (fun i _ => n - (intOf i).toNat)
  case atStart => exact ⟨0, Nat.zero_le _, rfl, C0, B0⟩
  case round =>
    obtain ⟨k, hk, rfl, hC, hB⟩ := hrel
    by_cases hlt : k < n
    · obtain ⟨b, off, rfl, hb, hc, hd⟩ := HR.out.pair hn hlt
      rw [← hB.out.cell (p := ⟨b, _, none⟩) hb] at hc hd
      go_wp2_with fail
      refine (toRule_is _ _ _).mono ?_
      rintro e w' ⟨rfl, hb2⟩
      have hC2 := hC.out.below hb2
      have e1 := hC2.cell (k * 2) (by omega)
      have e2 := hC2.cell (k * 2 + 1) (by omega)
      have f1 := hC2.free (k * 2)
      have f2 := hC2.free (k * 2 + 1)
      have hb3 := hB.out.trans (hb2.mono (by rw [← HG.out]; exact hB.out.size))
      have S1 := Lib.hid ((hC2.step (x := atS ss (k * 2)) (by omega : k * 2 < n * 2) (copS_succ ss (k * 2))).step (x := atS ss (k * 2 + 1)) (by omega : k * 2 + 1 < n * 2) (copS_succ ss (k * 2 + 1)))
      have S2 : Hid (Below G w ((w'.setCell ⟨G, k * 2, none⟩ (.string (atS ss (k * 2)))).setCell ⟨G, k * 2 + 1, none⟩ (.string (atS ss (k * 2 + 1))))) := (hb3.setCell (Nat.le_refl _) _).setCell (Nat.le_refl _) _
      clear hc hd hC hB hb2 hC2 hb3
      go_wp2_with fail
      go_roundw
      case rel => exact ⟨k + 1, by omega, by go_num, by rw [show (k + 1) * 2 = k * 2 + 1 + 1 by omega]; exact S1, S2⟩
      case measure => simp [intOf]; omega
    · have he : k = n := by omega
      have HE := Lib.hid he
      clear he
      go_wp2
      go_ret
      refine ⟨by rw [HG.out]; rfl, ?_, by rw [HG.out]; exact hC.out.size, by rw [HG.out]; exact hB.out⟩
      rw [HG.out]
      exact hC.out.own (by omega) fun j hj => by unfold copS; rw [if_pos (by have := HE.out; omega)]

/-- a comparison of two rows that read the same -/
theorem eqRuleS_is (A B : Option Addr) (n c d : Nat) (ss : List ByteArray) (w : World) (Z : Nat) (hZ : Z ≤ w.heap.size) (hr : RowU w Z A ss) (hq : RowU w Z B ss) (hn : ss.length = 2 * n) (hN : n ≤ 1048576) :
    Calls Try.prog 81 #[.slice A n c, .slice B n d] w fun e w' => e = .returned (.bool true) ∧ Hid (Below w.heap.size w w') := by
  have HR := Lib.hid hr
  have HQ := Lib.hid hq
  clear hr hq
  go_enter Try.func81, Try.ntmps81
  go_wp2
  go_loopw [5] (fun i wr => ∃ k : Nat, k ≤ n ∧ i = .int .i64 k ∧ Hid (Below w.heap.size w wr)) (fun i _ => n - (intOf i).toNat)
  case atStart => exact ⟨0, Nat.zero_le _, rfl, Below.refl _ _⟩
  case round =>
    obtain ⟨k, hk, rfl, hB⟩ := hrel
    by_cases hlt : k < n
    · obtain ⟨b, off, rfl, hb, hc, hd⟩ := HR.out.pair hn hlt
      obtain ⟨b2, off2, rfl, hb2, hc2, hd2⟩ := HQ.out.pair hn hlt
      rw [← hB.out.cell (p := ⟨b, _, none⟩) (Nat.lt_of_lt_of_le hb hZ)] at hc hd
      rw [← hB.out.cell (p := ⟨b2, _, none⟩) (Nat.lt_of_lt_of_le hb2 hZ)] at hc2 hd2
      have hS := Lib.hid hB.out.size
      go_wp2_with fail
      go_region_with (go_at_call 104; refine (eqRule_is _ _ _).mono ?_; rintro e w' ⟨rfl, hb3⟩)
      all_goals
        have HB : Hid (Below w.heap.size w w') := by refine hB.out.trans (Below.trans ?_ (hb3.mono hS.out)); exact ⟨rfl, rfl, rfl, Nat.le_refl _, fun _ _ => rfl⟩
        clear hb3 hB hc hd hc2 hd2 hS
        go_wp2_with fail
        go_roundw
        case rel => exact ⟨k + 1, by omega, by go_num, HB⟩
        case measure => simp [intOf]; omega
    · go_wp2
      go_ret
      exact ⟨rfl, hB⟩

theorem markText_any (q : Int) (k : Nat) (hq : q = k) (h0 : 0 < k) (h1 : k < 4194304) (w : World) :
    Calls Try.prog 105 #[.int .i64 q] w fun e w' => e = .returned (.string (mtx k)) ∧ Below w.heap.size w w' := by subst hq; exact markText_is k h0 h1 w

/-- all that was stands but one block, and more may lie behind -/
structure ButG (B : Nat) (A : Option Addr) (w w' : World) : Prop where
  os : w'.os = w.os
  tape : w'.tape = w.tape
  output : w'.output = w.output
  size : w.heap.size ≤ w'.heap.size
  block : ∀ k, k < w.heap.size → (∀ a, A = some a → k ≠ a.block) → w'.heap[k]? = w.heap[k]?
  low : ∀ k, k < B → w'.heap[k]? = w.heap[k]?

theorem ButG.refl (B : Nat) (A : Option Addr) (w : World) : ButG B A w w := ⟨rfl, rfl, rfl, Nat.le_refl _, fun _ _ _ => rfl, fun _ _ => rfl⟩
theorem ButG.setCell {B : Nat} {A : Option Addr} {a w : World} (h : ButG B A a w) {p q : Addr} (hA : A = some p) (hp : q.block = p.block) (hB : B ≤ p.block) (u : Value) : ButG B A a (w.setCell q u) :=
  ⟨h.os, h.tape, h.output, by have := h.size; simpa [World.setCell] using this, fun k hl hk => by rw [Below.heap_setCell _ _ _ _ (by rw [hp]; exact hk p hA)]; exact h.block k hl hk, fun k hk => by rw [Below.heap_setCell _ _ _ _ (by rw [hp]; omega)]; exact h.low k hk⟩
theorem ButG.more {B : Nat} {A : Option Addr} {a w w' : World} (h : ButG B A a w) (hb : Below w.heap.size w w') (hB : B ≤ a.heap.size) : ButG B A a w' :=
  ⟨hb.os.trans h.os, hb.tape.trans h.tape, hb.output.trans h.output, Nat.le_trans h.size hb.size, fun k hl hk => (hb.block k (Nat.lt_of_lt_of_le hl h.size)).trans (h.block k hl hk), fun k hk => (hb.block k (by have := h.size; omega)).trans (h.low k hk)⟩
theorem ButG.joinLow {B : Nat} {A : Option Addr} {a b c : World} (h : Below a.heap.size a b) (k : ButG B A b c) (hB : B ≤ a.heap.size) : ButG B A a c :=
  ⟨k.os.trans h.os, k.tape.trans h.tape, k.output.trans h.output, Nat.le_trans h.size k.size, fun i hl hk => (k.block i (Nat.lt_of_lt_of_le hl h.size) hk).trans (h.block i hl), fun i hi => (k.low i hi).trans (h.block i (by omega))⟩
theorem ButG.toBelow {B : Nat} {A : Option Addr} {a w : World} (h : ButG B A a w) : Below B a w := ⟨h.os, h.tape, h.output, h.size, h.low⟩
theorem RowU.butG {w w' : World} {B B' : Nat} {A C : Option Addr} {ss : List ByteArray} (h : RowU w B' C ss) (hb : ButG B A w w') (hB : B' ≤ B) : RowU w' B' C ss := h.below (hb.toBelow.mono hB)
theorem OwnU.butG {w w' : World} {B B' : Nat} {A C : Option Addr} {ss : List ByteArray} (h : OwnU w B' C ss) (hb : ButG B A w w') (hA : ∀ a, A = some a → a.block < B') : OwnU w' B' C ss := by
  intro h0
  obtain ⟨b, off, hC, hle, hlt, hc, hf⟩ := h h0
  have e : w'.heap[b]? = w.heap[b]? := hb.block b hlt fun a ha => by have := hA a ha; omega
  exact ⟨b, off, hC, hle, Nat.lt_of_lt_of_le hlt hb.size, fun j hj => by rw [World.cell?_of_block (w := w) e]; exact hc j hj, fun j hj => by rw [World.frozen?_of_block (w := w) e]; exact hf j hj⟩

theorem OwnU.set {w : World} {B k b off : Nat} {ss ts : List ByteArray} {x : ByteArray} (h : OwnU w B (some ⟨b, off, none⟩) ss) (hk : k < ss.length) (hl : ts.length = ss.length) (hz : ∀ j, j < ss.length → atS ts j = if j = k then x else atS ss j) :
    OwnU (w.setCell ⟨b, off + k, none⟩ (.string x)) B (some ⟨b, off, none⟩) ts := by
  intro _
  obtain ⟨b', off', e, hle, hlt, hc, hf⟩ := h (by omega)
  injection e with e
  injection e with e1 e2 _
  subst e1 e2
  refine ⟨b, off, rfl, hle, by simpa [World.setCell] using hlt, fun j hj => ?_, fun j hj => by rw [World.frozen?_setCell]; exact hf j (by omega)⟩
  rw [hz j (by omega)]
  by_cases e : j = k
  · subst e
    rw [World.cell?_setCell_same w _ _ (hc j (by omega)), if_pos rfl]
  · rw [World.cell?_setCell_other w _ _ _ (by intro h; injection h with _ h2 _; omega), hc j (by omega), if_neg e]

/-- marks from one on -/
def upS (m n : Nat) : List ByteArray := (List.range n).map fun j => mtx (m + j)
theorem upS_length (m n : Nat) : (upS m n).length = n := by simp [upS]
theorem at_upS {m n j : Nat} (h : j < n) : atS (upS m n) j = mtx (m + j) := by simp [atS, upS, List.getD, h]
/-- k of them, and then what was -/
def mixS (ss : List ByteArray) (m k : Nat) : List ByteArray := (List.range ss.length).map fun j => if j < k then mtx (m + j) else atS ss j
theorem mixS_length (ss : List ByteArray) (m k : Nat) : (mixS ss m k).length = ss.length := by simp [mixS]
theorem at_mixS {ss : List ByteArray} {m k j : Nat} (h : j < ss.length) : atS (mixS ss m k) j = if j < k then mtx (m + j) else atS ss j := by simp [atS, mixS, List.getD, h]
theorem mixS_zero (ss : List ByteArray) (m : Nat) : mixS ss m 0 = ss := by
  apply List.ext_getElem (by simp [mixS])
  intro j h1 h2
  simp [mixS, atS, List.getD, h2]
theorem mixS_all (ss : List ByteArray) (m : Nat) : mixS ss m ss.length = upS m ss.length := by
  apply List.ext_getElem (by simp [mixS, upS])
  intro j h1 h2
  simp [upS] at h2
  simp [mixS, upS, h2]
theorem mixS_succ {ss : List ByteArray} {m k j : Nat} (h : j < ss.length) : atS (mixS ss m (k + 1)) j = if j = k then mtx (m + k) else atS (mixS ss m k) j := by
  rw [at_mixS h, at_mixS h]
  by_cases e : j = k
  · subst e; rw [if_pos (by omega), if_pos rfl]
  · rw [if_neg e]
    by_cases h : j < k
    · rw [if_pos h, if_pos (by omega)]
    · rw [if_neg h, if_neg (by omega)]

set_option maxRecDepth 1000000 in
theorem markRuleS_is (A : Option Addr) (n c m B : Nat) (ss : List ByteArray) (w : World) (hB0 : B ≤ w.heap.size) (hr : OwnU w B A ss) (hn : ss.length = 2 * n) (hN : n ≤ 1048576) (hm : m ≤ 4) (hm0 : 0 < m) :
    Calls Try.prog 82 #[.slice A n c, .int .i64 m] w fun e w' => e = .returned (.int .i64 (m + n * 2 : Nat)) ∧ Hid (OwnU w' B A (upS m (2 * n))) ∧ Hid (ButG B A w w') := by
  have HR : Hid (OwnU w B A (mixS ss m 0)) := by rw [mixS_zero]; exact hr
  clear hr
  go_enter Try.func82, Try.ntmps82
  go_wp2
  go_loopw [1, 5] (fun q i wr => ∃ k : Nat, k ≤ n ∧ i = .int .i64 k ∧ q = .int .i64 (m + k * 2 : Nat) ∧ Hid (OwnU wr B A (mixS ss m (k * 2))) ∧ Hid (ButG B A w wr)) (fun _ i _ => n - (intOf i).toNat)
  case atStart => exact ⟨0, Nat.zero_le _, rfl, rfl, HR, ButG.refl _ _ _⟩
  case round =>
    obtain ⟨k, hk, rfl, rfl, hC, hB⟩ := hrel
    by_cases hlt : k < n
    · have O1 := hC.out
      obtain ⟨b, off, rfl, hle, hb, hcell, hfree⟩ := hC.out (by rw [mixS_length]; omega)
      clear hcell hfree
      go_wp2_with fail
      refine (markText_any _ (m + k * 2) (by omega) (by omega) (by omega) _).mono ?_
      rintro e w1 ⟨rfl, hb1⟩
      have O2 := O1.below hb1
      have G2 := hB.out.more hb1 hB0
      obtain ⟨b', off', e, _, _, hcell, hfree⟩ := O2 (by rw [mixS_length]; omega)
      injection e with e
      injection e with e1 e2 _
      subst e1 e2
      have hc := hcell (k * 2) (by rw [mixS_length]; omega)
      have hf := hfree (k * 2) (by rw [mixS_length]; omega)
      have N1 := Lib.hid (O2.set (k := k * 2) (ts := mixS ss m (k * 2 + 1)) (x := mtx (m + k * 2)) (by rw [mixS_length]; omega) (by rw [mixS_length, mixS_length]) fun j hj => mixS_succ (by rwa [mixS_length] at hj))
      have N2 := Lib.hid (G2.setCell (p := ⟨b, off, none⟩) (q := ⟨b, off + k * 2, none⟩) rfl rfl hle (.string (mtx (m + k * 2))))
      clear O1 O2 G2 hb1 hcell hfree hC hB
      go_wp2_with fail
      clear hc hf
      generalize w1.setCell ⟨b, off + k * 2, none⟩ (.string (mtx (m + k * 2))) = w2 at *
      refine (markText_any _ (m + (k * 2 + 1)) (by omega) (by omega) (by omega) _).mono ?_
      rintro e w3 ⟨rfl, hb1⟩
      have O2 := N1.out.below hb1
      have G2 := N2.out.more hb1 hB0
      obtain ⟨b', off', e, _, _, hcell, hfree⟩ := O2 (by rw [mixS_length]; omega)
      injection e with e
      injection e with e1 e2 _
      subst e1 e2
      have hc : w3.cell? ⟨b, off + k * 2 + 1, none⟩ = _ := hcell (k * 2 + 1) (by rw [mixS_length]; omega)
      have hf : w3.frozen? ⟨b, off + k * 2 + 1, none⟩ = _ := hfree (k * 2 + 1) (by rw [mixS_length]; omega)
      have N3 : Hid (OwnU (w3.setCell ⟨b, off + k * 2 + 1, none⟩ (.string (mtx (m + (k * 2 + 1))))) B (some ⟨b, off, none⟩) (mixS ss m ((k + 1) * 2))) := by
        rw [show (k + 1) * 2 = k * 2 + 1 + 1 by omega]
        exact O2.set (k := k * 2 + 1) (ts := mixS ss m (k * 2 + 1 + 1)) (x := mtx (m + (k * 2 + 1))) (by rw [mixS_length]; omega) (by rw [mixS_length, mixS_length]) fun j hj => mixS_succ (by rwa [mixS_length] at hj)
      have N4 := Lib.hid (G2.setCell (p := ⟨b, off, none⟩) (q := ⟨b, off + k * 2 + 1, none⟩) rfl rfl hle (.string (mtx (m + (k * 2 + 1)))))
      clear O2 G2 hb1 hcell hfree N1 N2
      go_wp2_with fail
      go_roundw
      case rel => exact ⟨k + 1, by omega, by go_num, by rw [show m + (k + 1) * 2 = m + k * 2 + 1 + 1 by omega]; go_num, N3, N4⟩
      case measure => simp [intOf]; omega
    · have HE : Hid (mixS ss m (k * 2) = upS m (2 * n)) := by rw [show k * 2 = ss.length by omega, mixS_all, hn]; exact rfl
      have HK : Hid (k = n) := by show k = n; omega
      go_wp2
      go_ret
      exact ⟨by rw [HK.out]; rfl, by rw [← HE.out]; exact hC, hB⟩

theorem keepS {w wa wb : World} {b o : Nat} {v : Value} (hb : Below wa.heap.size wa wb) (hc : wa.cell? ⟨b, o, none⟩ = some v) (hB : Hid (Below w.heap.size w wa)) (hlt : b < w.heap.size) : wb.cell? ⟨b, o, none⟩ = some v ∧ Hid (Below w.heap.size w wb) :=
  ⟨by rw [hb.cell (p := ⟨b, o, none⟩) (Nat.lt_of_lt_of_le hlt hB.out.size)]; exact hc, hB.out.trans (hb.mono hB.out.size)⟩


end Go.Proofs.Ytckhdbnoihieeaa
