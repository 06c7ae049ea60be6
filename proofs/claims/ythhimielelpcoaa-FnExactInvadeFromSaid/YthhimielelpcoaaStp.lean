/-
  What is proved here: the cell to which a way leads, as the program comes to it, as a walk. Conditions: sides of a field, a cell of it.
-/
import Derived.Test.YthhimielelpcoaaSdk
import Derived.Deep.RegionHeld3
namespace Go.Proofs.Ythhimielelpcoaa
open Go.RowKit
set_option linter.unusedVariables false

/-- the cell to which a way leads, or the cell itself -/
def nxtC (x y i : Int) : Nat → Int
  | 0 => if x ≤ i then i - x else i
  | 1 => if 0 < i % x then i - 1 else i
  | 2 => if i % x + 1 < x then i + 1 else i
  | _ => if i + x < x * y then i + x else i
theorem nxtC_mem (x y i : Int) (k : Nat) : nxtC x y i k = i ∨ nxtC x y i k ∈ sidL x y i := by
  unfold sidL
  match k with
  | 0 => show (if x ≤ i then i - x else i) = i ∨ (if x ≤ i then i - x else i) ∈ _; by_cases h : x ≤ i <;> simp [h]
  | 1 => show (if 0 < i % x then i - 1 else i) = i ∨ (if 0 < i % x then i - 1 else i) ∈ _; by_cases h : 0 < i % x <;> simp [h]
  | 2 => show (if i % x + 1 < x then i + 1 else i) = i ∨ (if i % x + 1 < x then i + 1 else i) ∈ _; by_cases h : i % x + 1 < x <;> simp [h]
  | k + 3 => show (if i + x < x * y then i + x else i) = i ∨ (if i + x < x * y then i + x else i) ∈ _; by_cases h : i + x < x * y <;> simp [h]
theorem nxtC_bd {x y i : Int} (hx : 1 ≤ x) (h0 : 0 ≤ i) (hi : i < x * y) (k : Nat) : 0 ≤ nxtC x y i k ∧ nxtC x y i k < x * y := by
  rcases nxtC_mem x y i k with h | h
  · rw [h]; exact ⟨h0, hi⟩
  · exact sidL_mem hx h0 hi _ h
theorem kepL_none {p : Nat → Bool} {L : List Int} : ∀ {j : Nat}, (kepL p L j).length = 0 → ∀ t, t < j → fulD p L t = false
  | 0, _, t, ht => absurd ht (Nat.not_lt_zero _)
  | j + 1, h, t, ht => by
    cases e : fulD p L j with
    | true => rw [kepL_yes e, List.length_append] at h; simp at h
    | false =>
      rw [kepL_no e] at h
      by_cases g : t = j
      · rw [g]; exact e
      · exact kepL_none h t (by omega)
/-- where no side is full, and the cell isn't, no way leads to a full cell -/
theorem nxtC_free {p : Nat → Bool} {x y i : Int} {k : Nat} (h : fulS p x y i = 0) (hp : p i.toNat = false) : p (nxtC x y i k).toNat = false := by
  rcases nxtC_mem x y i k with e | e
  · rw [e]; exact hp
  · obtain ⟨j, hj, e2⟩ := List.getElem_of_mem e
    have := kepL_none h j hj
    unfold fulD atI at this
    rw [List.getD_eq_getElem?_getD, List.getElem?_eq_getElem hj, Option.getD_some, e2] at this
    exact this

set_option maxHeartbeats 4000000 in
theorem implPl0 (x y i : Int) (g c : Nat) (hx : 1 ≤ x ∧ x ≤ 16) (hy : 1 ≤ y ∧ y ≤ 16) (h0 : 0 ≤ i) (hi : i < x * y) (hm : x * y ≤ 256) (w : World) (hg : g < w.heap.size) (g0 : w.cell? ⟨g, 0, none⟩ = some (.int .i64 (0))) (g1 : w.cell? ⟨g, 1, none⟩ = some (.int .i64 (-1))) :
    Calls Try.prog 146 #[.int .i64 x, .int .i64 y, .int .i64 i, .int .i64 1, .slice (some ⟨g, 0, none⟩) 1 c] w fun e w' => ∃ A c, e = .returned (.slice A (if x ≤ i then [i - x] else []).length c) ∧ Hid (GroI w' w.heap.size (if x ≤ i then [i - x] else []) A c) ∧ Hid (Below w.heap.size w w') := by
  obtain ⟨e1, q0, q1, r0, r1⟩ := div_facts hx.1 h0 hi
  have hup := up_iff hx.1 h0 hi
  have hdn := down_iff hx.1 h0 hi
  have hz : x ≠ 0 := by omega
  obtain ⟨hx1, hx2⟩ := hx
  obtain ⟨hy1, hy2⟩ := hy
  have HG0 := Lib.hid g0
  have HG1 := Lib.hid g1
  have HE := Lib.hid e1
  obtain ⟨t, ht⟩ : ∃ t, t = (i / x + -1) * x := ⟨_, rfl⟩
  have ht2 : t = i - i % x - x := by
    have := HE.out
    rw [ht]
    rw [Int.add_mul, Int.mul_comm (i / x) x]
    omega
  have hw : IntKind.i64.wrap ((i / x + -1) * x) = t := by rw [← ht]; exact IntWalk.i64_in _ (by omega)
  clear e1 ht g0 g1
  by_cases hc1 : x ≤ i
  · rw [if_pos hc1]
    have hq1 : 1 ≤ i / x := hup.1 hc1
    clear hup hdn
    go_enter Try.func146, Try.ntmps146
    go_wp2
    go_loopw [11, 18] (fun o j wr => Hid (Below w.heap.size w wr) ∧ ((j = .int .i64 0 ∧ o = .slice none 0 0) ∨ ∃ (A' : Option Addr) (c' : Nat), j = .int .i64 1 ∧ o = .slice A' 1 c' ∧ Hid (GroI wr w.heap.size [i - x] A' c'))) (fun _ j _ => 1 - (intOf j).toNat)
    case atStart => exact ⟨Below.refl _ _, .inl ⟨rfl, rfl⟩⟩
    case round =>
      obtain ⟨hB, ⟨rfl, rfl⟩ | ⟨A', c', rfl, rfl, hO⟩⟩ := hrel
      · have hsz : Hid (w.heap.size ≤ wr.heap.size) := hB.out.size
        have g0 := (hB.out.cell (p := ⟨g, 0, none⟩) hg).trans HG0.out
        have g1 := (hB.out.cell (p := ⟨g, 1, none⟩) hg).trans HG1.out
        have hgr : g < wr.heap.size := Nat.lt_of_lt_of_le hg hsz.out
        have hbA : Below wr.heap.size wr (wr.alloc (.cells #[.int .i64 (0), .int .i64 (-1)] 190)) := (Below.refl _ _).alloc (Nat.le_refl _) _
        have HBA := Lib.hid (hB.out.trans (hbA.mono hsz.out))
        clear hbA
        go_wp2_with fail
        go_quiet (fail)
        have HBB : Hid (Below w.heap.size w ((wr.alloc (.cells #[.int .i64 (0), .int .i64 (-1)] 190)).drewN nq)) := belowN HBA.out
        have HSB : Hid (w.heap.size ≤ ((wr.alloc (.cells #[.int .i64 (0), .int .i64 (-1)] 190)).drewN nq).heap.size) := HBB.out.size
        clear HBA
        generalize (wr.alloc (.cells #[.int .i64 (0), .int .i64 (-1)] 190)).drewN nq = wq at *
        go_wp2_with (first | (go_at_call 53; refine (within_any _ _ _ _).mono ?_; rintro e w' ⟨rfl, rfl⟩; first | (rw [inB_in]; rotate_left 1; omega; omega) | (rw [inB_out]; rotate_left 1; omega)) | (at_builtin; refine isAppI _ _ rfl ?_; refine wpGroI rfl _ _ rfl (w0 := wq) (y := i - x) (L := []) (GroI.nil _ _) (by rw [show i - i % x - x + i % x = i - x by omega]) rfl rfl (by decide) HSB.out ?_; intro g2 c2 w4 O4 B4; have HO4 := Lib.hid O4; have HB4 := Lib.hid (HBB.out.trans B4); clear O4 B4))
        go_roundw
        case rel => exact ⟨HB4, .inr ⟨_, _, rfl, rfl, HO4⟩⟩
        case measure => simp [intOf]
      · go_wp2_with fail
        go_ret
        exact ⟨A', c', rfl, hO, hB⟩
  · rw [if_neg hc1]
    have hq1 : ¬ 1 ≤ i / x := fun h => hc1 (hup.2 h)
    clear hup hdn
    go_enter Try.func146, Try.ntmps146
    go_wp2
    go_loopw [11, 18] (fun o j wr => Hid (Below w.heap.size w wr) ∧ o = .slice none 0 0 ∧ (j = .int .i64 0 ∨ j = .int .i64 1)) (fun _ j _ => 1 - (intOf j).toNat)
    case atStart => exact ⟨Below.refl _ _, rfl, .inl rfl⟩
    case round =>
      obtain ⟨hB, rfl, rfl | rfl⟩ := hrel
      · have hsz : Hid (w.heap.size ≤ wr.heap.size) := hB.out.size
        have g0 := (hB.out.cell (p := ⟨g, 0, none⟩) hg).trans HG0.out
        have g1 := (hB.out.cell (p := ⟨g, 1, none⟩) hg).trans HG1.out
        have hgr : g < wr.heap.size := Nat.lt_of_lt_of_le hg hsz.out
        have hbA : Below wr.heap.size wr (wr.alloc (.cells #[.int .i64 (0), .int .i64 (-1)] 190)) := (Below.refl _ _).alloc (Nat.le_refl _) _
        have HBA := Lib.hid (hB.out.trans (hbA.mono hsz.out))
        clear hbA
        go_wp2_with fail
        go_quiet (fail)
        have HBB : Hid (Below w.heap.size w ((wr.alloc (.cells #[.int .i64 (0), .int .i64 (-1)] 190)).drewN nq)) := belowN HBA.out
        clear HBA
        generalize (wr.alloc (.cells #[.int .i64 (0), .int .i64 (-1)] 190)).drewN nq = wq at *
        go_wp2_with (go_at_call 53; refine (within_any _ _ _ _).mono ?_; rintro e w' ⟨rfl, rfl⟩; first | (rw [inB_in]; rotate_left 1; omega; omega) | (rw [inB_out]; rotate_left 1; omega))
        go_roundw
        case rel => exact ⟨HBB, rfl, .inr rfl⟩
        case measure => simp [intOf]
      · go_wp2_with fail
        go_ret
        exact ⟨none, 0, rfl, GroI.nil _ _, hB⟩

set_option maxHeartbeats 4000000 in
theorem implPl1 (x y i : Int) (g c : Nat) (hx : 1 ≤ x ∧ x ≤ 16) (hy : 1 ≤ y ∧ y ≤ 16) (h0 : 0 ≤ i) (hi : i < x * y) (hm : x * y ≤ 256) (w : World) (hg : g < w.heap.size) (g0 : w.cell? ⟨g, 2, none⟩ = some (.int .i64 (-1))) (g1 : w.cell? ⟨g, 3, none⟩ = some (.int .i64 (0))) :
    Calls Try.prog 146 #[.int .i64 x, .int .i64 y, .int .i64 i, .int .i64 1, .slice (some ⟨g, 2, none⟩) 1 c] w fun e w' => ∃ A c, e = .returned (.slice A (if 0 < i % x then [i - 1] else []).length c) ∧ Hid (GroI w' w.heap.size (if 0 < i % x then [i - 1] else []) A c) ∧ Hid (Below w.heap.size w w') := by
  obtain ⟨e1, q0, q1, r0, r1⟩ := div_facts hx.1 h0 hi
  have hup := up_iff hx.1 h0 hi
  have hdn := down_iff hx.1 h0 hi
  have hz : x ≠ 0 := by omega
  obtain ⟨hx1, hx2⟩ := hx
  obtain ⟨hy1, hy2⟩ := hy
  have HG0 := Lib.hid g0
  have HG1 := Lib.hid g1
  have HE := Lib.hid e1
  obtain ⟨t, ht⟩ : ∃ t, t = (i / x) * x := ⟨_, rfl⟩
  have ht2 : t = i - i % x := by
    have := HE.out
    rw [ht]
    rw [Int.mul_comm]
    omega
  have hw : IntKind.i64.wrap ((i / x) * x) = t := by rw [← ht]; exact IntWalk.i64_in _ (by omega)
  clear e1 ht g0 g1
  by_cases hc1 : 0 < i % x
  · rw [if_pos hc1]
    skip
    clear hup hdn
    go_enter Try.func146, Try.ntmps146
    go_wp2
    go_loopw [11, 18] (fun o j wr => Hid (Below w.heap.size w wr) ∧ ((j = .int .i64 0 ∧ o = .slice none 0 0) ∨ ∃ (A' : Option Addr) (c' : Nat), j = .int .i64 1 ∧ o = .slice A' 1 c' ∧ Hid (GroI wr w.heap.size [i - 1] A' c'))) (fun _ j _ => 1 - (intOf j).toNat)
    case atStart => exact ⟨Below.refl _ _, .inl ⟨rfl, rfl⟩⟩
    case round =>
      obtain ⟨hB, ⟨rfl, rfl⟩ | ⟨A', c', rfl, rfl, hO⟩⟩ := hrel
      · have hsz : Hid (w.heap.size ≤ wr.heap.size) := hB.out.size
        have g0 := (hB.out.cell (p := ⟨g, 2, none⟩) hg).trans HG0.out
        have g1 := (hB.out.cell (p := ⟨g, 3, none⟩) hg).trans HG1.out
        have hgr : g < wr.heap.size := Nat.lt_of_lt_of_le hg hsz.out
        have hbA : Below wr.heap.size wr (wr.alloc (.cells #[.int .i64 (-1), .int .i64 (0)] 190)) := (Below.refl _ _).alloc (Nat.le_refl _) _
        have HBA := Lib.hid (hB.out.trans (hbA.mono hsz.out))
        clear hbA
        go_wp2_with fail
        go_quiet (fail)
        have HBB : Hid (Below w.heap.size w ((wr.alloc (.cells #[.int .i64 (-1), .int .i64 (0)] 190)).drewN nq)) := belowN HBA.out
        have HSB : Hid (w.heap.size ≤ ((wr.alloc (.cells #[.int .i64 (-1), .int .i64 (0)] 190)).drewN nq).heap.size) := HBB.out.size
        clear HBA
        generalize (wr.alloc (.cells #[.int .i64 (-1), .int .i64 (0)] 190)).drewN nq = wq at *
        go_wp2_with (first | (go_at_call 53; refine (within_any _ _ _ _).mono ?_; rintro e w' ⟨rfl, rfl⟩; first | (rw [inB_in]; rotate_left 1; omega; omega) | (rw [inB_out]; rotate_left 1; omega)) | (at_builtin; refine isAppI _ _ rfl ?_; refine wpGroI rfl _ _ rfl (w0 := wq) (y := i - 1) (L := []) (GroI.nil _ _) (by rw [show i - i % x + (i % x + -1) = i - 1 by omega]) rfl rfl (by decide) HSB.out ?_; intro g2 c2 w4 O4 B4; have HO4 := Lib.hid O4; have HB4 := Lib.hid (HBB.out.trans B4); clear O4 B4))
        go_roundw
        case rel => exact ⟨HB4, .inr ⟨_, _, rfl, rfl, HO4⟩⟩
        case measure => simp [intOf]
      · go_wp2_with fail
        go_ret
        exact ⟨A', c', rfl, hO, hB⟩
  · rw [if_neg hc1]
    skip
    clear hup hdn
    go_enter Try.func146, Try.ntmps146
    go_wp2
    go_loopw [11, 18] (fun o j wr => Hid (Below w.heap.size w wr) ∧ o = .slice none 0 0 ∧ (j = .int .i64 0 ∨ j = .int .i64 1)) (fun _ j _ => 1 - (intOf j).toNat)
    case atStart => exact ⟨Below.refl _ _, rfl, .inl rfl⟩
    case round =>
      obtain ⟨hB, rfl, rfl | rfl⟩ := hrel
      · have hsz : Hid (w.heap.size ≤ wr.heap.size) := hB.out.size
        have g0 := (hB.out.cell (p := ⟨g, 2, none⟩) hg).trans HG0.out
        have g1 := (hB.out.cell (p := ⟨g, 3, none⟩) hg).trans HG1.out
        have hgr : g < wr.heap.size := Nat.lt_of_lt_of_le hg hsz.out
        have hbA : Below wr.heap.size wr (wr.alloc (.cells #[.int .i64 (-1), .int .i64 (0)] 190)) := (Below.refl _ _).alloc (Nat.le_refl _) _
        have HBA := Lib.hid (hB.out.trans (hbA.mono hsz.out))
        clear hbA
        go_wp2_with fail
        go_quiet (fail)
        have HBB : Hid (Below w.heap.size w ((wr.alloc (.cells #[.int .i64 (-1), .int .i64 (0)] 190)).drewN nq)) := belowN HBA.out
        clear HBA
        generalize (wr.alloc (.cells #[.int .i64 (-1), .int .i64 (0)] 190)).drewN nq = wq at *
        go_wp2_with (go_at_call 53; refine (within_any _ _ _ _).mono ?_; rintro e w' ⟨rfl, rfl⟩; first | (rw [inB_in]; rotate_left 1; omega; omega) | (rw [inB_out]; rotate_left 1; omega))
        go_roundw
        case rel => exact ⟨HBB, rfl, .inr rfl⟩
        case measure => simp [intOf]
      · go_wp2_with fail
        go_ret
        exact ⟨none, 0, rfl, GroI.nil _ _, hB⟩

set_option maxHeartbeats 4000000 in
theorem implPl2 (x y i : Int) (g c : Nat) (hx : 1 ≤ x ∧ x ≤ 16) (hy : 1 ≤ y ∧ y ≤ 16) (h0 : 0 ≤ i) (hi : i < x * y) (hm : x * y ≤ 256) (w : World) (hg : g < w.heap.size) (g0 : w.cell? ⟨g, 4, none⟩ = some (.int .i64 (1))) (g1 : w.cell? ⟨g, 5, none⟩ = some (.int .i64 (0))) :
    Calls Try.prog 146 #[.int .i64 x, .int .i64 y, .int .i64 i, .int .i64 1, .slice (some ⟨g, 4, none⟩) 1 c] w fun e w' => ∃ A c, e = .returned (.slice A (if i % x + 1 < x then [i + 1] else []).length c) ∧ Hid (GroI w' w.heap.size (if i % x + 1 < x then [i + 1] else []) A c) ∧ Hid (Below w.heap.size w w') := by
  obtain ⟨e1, q0, q1, r0, r1⟩ := div_facts hx.1 h0 hi
  have hup := up_iff hx.1 h0 hi
  have hdn := down_iff hx.1 h0 hi
  have hz : x ≠ 0 := by omega
  obtain ⟨hx1, hx2⟩ := hx
  obtain ⟨hy1, hy2⟩ := hy
  have HG0 := Lib.hid g0
  have HG1 := Lib.hid g1
  have HE := Lib.hid e1
  obtain ⟨t, ht⟩ : ∃ t, t = (i / x) * x := ⟨_, rfl⟩
  have ht2 : t = i - i % x := by
    have := HE.out
    rw [ht]
    rw [Int.mul_comm]
    omega
  have hw : IntKind.i64.wrap ((i / x) * x) = t := by rw [← ht]; exact IntWalk.i64_in _ (by omega)
  clear e1 ht g0 g1
  by_cases hc1 : i % x + 1 < x
  · rw [if_pos hc1]
    skip
    clear hup hdn
    go_enter Try.func146, Try.ntmps146
    go_wp2
    go_loopw [11, 18] (fun o j wr => Hid (Below w.heap.size w wr) ∧ ((j = .int .i64 0 ∧ o = .slice none 0 0) ∨ ∃ (A' : Option Addr) (c' : Nat), j = .int .i64 1 ∧ o = .slice A' 1 c' ∧ Hid (GroI wr w.heap.size [i + 1] A' c'))) (fun _ j _ => 1 - (intOf j).toNat)
    case atStart => exact ⟨Below.refl _ _, .inl ⟨rfl, rfl⟩⟩
    case round =>
      obtain ⟨hB, ⟨rfl, rfl⟩ | ⟨A', c', rfl, rfl, hO⟩⟩ := hrel
      · have hsz : Hid (w.heap.size ≤ wr.heap.size) := hB.out.size
        have g0 := (hB.out.cell (p := ⟨g, 4, none⟩) hg).trans HG0.out
        have g1 := (hB.out.cell (p := ⟨g, 5, none⟩) hg).trans HG1.out
        have hgr : g < wr.heap.size := Nat.lt_of_lt_of_le hg hsz.out
        have hbA : Below wr.heap.size wr (wr.alloc (.cells #[.int .i64 (1), .int .i64 (0)] 190)) := (Below.refl _ _).alloc (Nat.le_refl _) _
        have HBA := Lib.hid (hB.out.trans (hbA.mono hsz.out))
        clear hbA
        go_wp2_with fail
        go_quiet (fail)
        have HBB : Hid (Below w.heap.size w ((wr.alloc (.cells #[.int .i64 (1), .int .i64 (0)] 190)).drewN nq)) := belowN HBA.out
        have HSB : Hid (w.heap.size ≤ ((wr.alloc (.cells #[.int .i64 (1), .int .i64 (0)] 190)).drewN nq).heap.size) := HBB.out.size
        clear HBA
        generalize (wr.alloc (.cells #[.int .i64 (1), .int .i64 (0)] 190)).drewN nq = wq at *
        go_wp2_with (first | (go_at_call 53; refine (within_any _ _ _ _).mono ?_; rintro e w' ⟨rfl, rfl⟩; first | (rw [inB_in]; rotate_left 1; omega; omega) | (rw [inB_out]; rotate_left 1; omega)) | (at_builtin; refine isAppI _ _ rfl ?_; refine wpGroI rfl _ _ rfl (w0 := wq) (y := i + 1) (L := []) (GroI.nil _ _) (by rw [show i - i % x + (i % x + 1) = i + 1 by omega]) rfl rfl (by decide) HSB.out ?_; intro g2 c2 w4 O4 B4; have HO4 := Lib.hid O4; have HB4 := Lib.hid (HBB.out.trans B4); clear O4 B4))
        go_roundw
        case rel => exact ⟨HB4, .inr ⟨_, _, rfl, rfl, HO4⟩⟩
        case measure => simp [intOf]
      · go_wp2_with fail
        go_ret
        exact ⟨A', c', rfl, hO, hB⟩
  · rw [if_neg hc1]
    skip
    clear hup hdn
    go_enter Try.func146, Try.ntmps146
    go_wp2
    go_loopw [11, 18] (fun o j wr => Hid (Below w.heap.size w wr) ∧ o = .slice none 0 0 ∧ (j = .int .i64 0 ∨ j = .int .i64 1)) (fun _ j _ => 1 - (intOf j).toNat)
    case atStart => exact ⟨Below.refl _ _, rfl, .inl rfl⟩
    case round =>
      obtain ⟨hB, rfl, rfl | rfl⟩ := hrel
      · have hsz : Hid (w.heap.size ≤ wr.heap.size) := hB.out.size
        have g0 := (hB.out.cell (p := ⟨g, 4, none⟩) hg).trans HG0.out
        have g1 := (hB.out.cell (p := ⟨g, 5, none⟩) hg).trans HG1.out
        have hgr : g < wr.heap.size := Nat.lt_of_lt_of_le hg hsz.out
        have hbA : Below wr.heap.size wr (wr.alloc (.cells #[.int .i64 (1), .int .i64 (0)] 190)) := (Below.refl _ _).alloc (Nat.le_refl _) _
        have HBA := Lib.hid (hB.out.trans (hbA.mono hsz.out))
        clear hbA
        go_wp2_with fail
        go_quiet (fail)
        have HBB : Hid (Below w.heap.size w ((wr.alloc (.cells #[.int .i64 (1), .int .i64 (0)] 190)).drewN nq)) := belowN HBA.out
        clear HBA
        generalize (wr.alloc (.cells #[.int .i64 (1), .int .i64 (0)] 190)).drewN nq = wq at *
        go_wp2_with (go_at_call 53; refine (within_any _ _ _ _).mono ?_; rintro e w' ⟨rfl, rfl⟩; first | (rw [inB_in]; rotate_left 1; omega; omega) | (rw [inB_out]; rotate_left 1; omega))
        go_roundw
        case rel => exact ⟨HBB, rfl, .inr rfl⟩
        case measure => simp [intOf]
      · go_wp2_with fail
        go_ret
        exact ⟨none, 0, rfl, GroI.nil _ _, hB⟩

set_option maxHeartbeats 4000000 in
theorem implPl3 (x y i : Int) (g c : Nat) (hx : 1 ≤ x ∧ x ≤ 16) (hy : 1 ≤ y ∧ y ≤ 16) (h0 : 0 ≤ i) (hi : i < x * y) (hm : x * y ≤ 256) (w : World) (hg : g < w.heap.size) (g0 : w.cell? ⟨g, 6, none⟩ = some (.int .i64 (0))) (g1 : w.cell? ⟨g, 7, none⟩ = some (.int .i64 (1))) :
    Calls Try.prog 146 #[.int .i64 x, .int .i64 y, .int .i64 i, .int .i64 1, .slice (some ⟨g, 6, none⟩) 1 c] w fun e w' => ∃ A c, e = .returned (.slice A (if i + x < x * y then [i + x] else []).length c) ∧ Hid (GroI w' w.heap.size (if i + x < x * y then [i + x] else []) A c) ∧ Hid (Below w.heap.size w w') := by
  obtain ⟨e1, q0, q1, r0, r1⟩ := div_facts hx.1 h0 hi
  have hup := up_iff hx.1 h0 hi
  have hdn := down_iff hx.1 h0 hi
  have hz : x ≠ 0 := by omega
  obtain ⟨hx1, hx2⟩ := hx
  obtain ⟨hy1, hy2⟩ := hy
  have HG0 := Lib.hid g0
  have HG1 := Lib.hid g1
  have HE := Lib.hid e1
  obtain ⟨t, ht⟩ : ∃ t, t = (i / x + 1) * x := ⟨_, rfl⟩
  have ht2 : t = i - i % x + x := by
    have := HE.out
    rw [ht]
    rw [Int.add_mul, Int.mul_comm (i / x) x]
    omega
  have hw : IntKind.i64.wrap ((i / x + 1) * x) = t := by rw [← ht]; exact IntWalk.i64_in _ (by omega)
  clear e1 ht g0 g1
  by_cases hc1 : i + x < x * y
  · rw [if_pos hc1]
    have hq1 : i / x + 1 < y := hdn.1 hc1
    clear hup hdn
    go_enter Try.func146, Try.ntmps146
    go_wp2
    go_loopw [11, 18] (fun o j wr => Hid (Below w.heap.size w wr) ∧ ((j = .int .i64 0 ∧ o = .slice none 0 0) ∨ ∃ (A' : Option Addr) (c' : Nat), j = .int .i64 1 ∧ o = .slice A' 1 c' ∧ Hid (GroI wr w.heap.size [i + x] A' c'))) (fun _ j _ => 1 - (intOf j).toNat)
    case atStart => exact ⟨Below.refl _ _, .inl ⟨rfl, rfl⟩⟩
    case round =>
      obtain ⟨hB, ⟨rfl, rfl⟩ | ⟨A', c', rfl, rfl, hO⟩⟩ := hrel
      · have hsz : Hid (w.heap.size ≤ wr.heap.size) := hB.out.size
        have g0 := (hB.out.cell (p := ⟨g, 6, none⟩) hg).trans HG0.out
        have g1 := (hB.out.cell (p := ⟨g, 7, none⟩) hg).trans HG1.out
        have hgr : g < wr.heap.size := Nat.lt_of_lt_of_le hg hsz.out
        have hbA : Below wr.heap.size wr (wr.alloc (.cells #[.int .i64 (0), .int .i64 (1)] 190)) := (Below.refl _ _).alloc (Nat.le_refl _) _
        have HBA := Lib.hid (hB.out.trans (hbA.mono hsz.out))
        clear hbA
        go_wp2_with fail
        go_quiet (fail)
        have HBB : Hid (Below w.heap.size w ((wr.alloc (.cells #[.int .i64 (0), .int .i64 (1)] 190)).drewN nq)) := belowN HBA.out
        have HSB : Hid (w.heap.size ≤ ((wr.alloc (.cells #[.int .i64 (0), .int .i64 (1)] 190)).drewN nq).heap.size) := HBB.out.size
        clear HBA
        generalize (wr.alloc (.cells #[.int .i64 (0), .int .i64 (1)] 190)).drewN nq = wq at *
        go_wp2_with (first | (go_at_call 53; refine (within_any _ _ _ _).mono ?_; rintro e w' ⟨rfl, rfl⟩; first | (rw [inB_in]; rotate_left 1; omega; omega) | (rw [inB_out]; rotate_left 1; omega)) | (at_builtin; refine isAppI _ _ rfl ?_; refine wpGroI rfl _ _ rfl (w0 := wq) (y := i + x) (L := []) (GroI.nil _ _) (by rw [show i - i % x + x + i % x = i + x by omega]) rfl rfl (by decide) HSB.out ?_; intro g2 c2 w4 O4 B4; have HO4 := Lib.hid O4; have HB4 := Lib.hid (HBB.out.trans B4); clear O4 B4))
        go_roundw
        case rel => exact ⟨HB4, .inr ⟨_, _, rfl, rfl, HO4⟩⟩
        case measure => simp [intOf]
      · go_wp2_with fail
        go_ret
        exact ⟨A', c', rfl, hO, hB⟩
  · rw [if_neg hc1]
    have hq1 : ¬ i / x + 1 < y := fun h => hc1 (hdn.2 h)
    clear hup hdn
    go_enter Try.func146, Try.ntmps146
    go_wp2
    go_loopw [11, 18] (fun o j wr => Hid (Below w.heap.size w wr) ∧ o = .slice none 0 0 ∧ (j = .int .i64 0 ∨ j = .int .i64 1)) (fun _ j _ => 1 - (intOf j).toNat)
    case atStart => exact ⟨Below.refl _ _, rfl, .inl rfl⟩
    case round =>
      obtain ⟨hB, rfl, rfl | rfl⟩ := hrel
      · have hsz : Hid (w.heap.size ≤ wr.heap.size) := hB.out.size
        have g0 := (hB.out.cell (p := ⟨g, 6, none⟩) hg).trans HG0.out
        have g1 := (hB.out.cell (p := ⟨g, 7, none⟩) hg).trans HG1.out
        have hgr : g < wr.heap.size := Nat.lt_of_lt_of_le hg hsz.out
        have hbA : Below wr.heap.size wr (wr.alloc (.cells #[.int .i64 (0), .int .i64 (1)] 190)) := (Below.refl _ _).alloc (Nat.le_refl _) _
        have HBA := Lib.hid (hB.out.trans (hbA.mono hsz.out))
        clear hbA
        go_wp2_with fail
        go_quiet (fail)
        have HBB : Hid (Below w.heap.size w ((wr.alloc (.cells #[.int .i64 (0), .int .i64 (1)] 190)).drewN nq)) := belowN HBA.out
        clear HBA
        generalize (wr.alloc (.cells #[.int .i64 (0), .int .i64 (1)] 190)).drewN nq = wq at *
        go_wp2_with (go_at_call 53; refine (within_any _ _ _ _).mono ?_; rintro e w' ⟨rfl, rfl⟩; first | (rw [inB_in]; rotate_left 1; omega; omega) | (rw [inB_out]; rotate_left 1; omega))
        go_roundw
        case rel => exact ⟨HBB, rfl, .inr rfl⟩
        case measure => simp [intOf]
      · go_wp2_with fail
        go_ret
        exact ⟨none, 0, rfl, GroI.nil _ _, hB⟩

/-- a row of the four ways -/
structure WayR (w : World) (g : Nat) : Prop where
  lt : g < w.heap.size
  c : ∀ k, k < 4 → w.cell? ⟨g, k * 2, none⟩ = some (.int .i64 (wX k)) ∧ w.cell? ⟨g, k * 2 + 1, none⟩ = some (.int .i64 (wY k))
theorem waysW (w : World) : Calls Try.prog 147 #[] w fun e w' => ∃ g, e = .returned (.slice (some ⟨g, 0, none⟩) 4 4) ∧ Hid (WayR w' g) ∧ Hid (Below w.heap.size w w') := by
  refine (implWays w).mono ?_
  rintro e w' ⟨rfl, rfl⟩
  refine ⟨_, rfl, ⟨by simp, fun k hk => ?_⟩, (Below.refl _ _).alloc (Nat.le_refl _) _⟩
  match k, hk with
  | 0, _ => exact ⟨by simp [World.cell?, World.alloc, -World.alloc_eq, wayRow, wX], by simp [World.cell?, World.alloc, -World.alloc_eq, wayRow, wY]⟩
  | 1, _ => exact ⟨by simp [World.cell?, World.alloc, -World.alloc_eq, wayRow, wX], by simp [World.cell?, World.alloc, -World.alloc_eq, wayRow, wY]⟩
  | 2, _ => exact ⟨by simp [World.cell?, World.alloc, -World.alloc_eq, wayRow, wX], by simp [World.cell?, World.alloc, -World.alloc_eq, wayRow, wY]⟩
  | 3, _ => exact ⟨by simp [World.cell?, World.alloc, -World.alloc_eq, wayRow, wX], by simp [World.cell?, World.alloc, -World.alloc_eq, wayRow, wY]⟩






end Go.Proofs.Ythhimielelpcoaa
