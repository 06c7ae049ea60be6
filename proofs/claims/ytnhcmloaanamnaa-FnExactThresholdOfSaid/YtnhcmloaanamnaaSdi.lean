/-
  What is proved here: the sides of a cell, as the program tells them, as walks. Conditions: sides of a field, a cell of it.
-/
import Derived.Test.YtnhcmloaanamnaaSds
namespace Go.Proofs.Ytnhcmloaanamnaa
open Go.RowKit
set_option linter.unusedVariables false

/-- the ways to sides -/
def wX (k : Nat) : Int := match k with | 1 => -1 | 2 => 1 | _ => 0
def wY (k : Nat) : Int := match k with | 0 => -1 | 3 => 1 | _ => 0
def sidU (x y i : Int) : Nat → List Int
  | 0 => []
  | 1 => (if x ≤ i then [i - x] else [])
  | 2 => (if x ≤ i then [i - x] else []) ++ (if 0 < i % x then [i - 1] else [])
  | 3 => ((if x ≤ i then [i - x] else []) ++ (if 0 < i % x then [i - 1] else [])) ++ (if i % x + 1 < x then [i + 1] else [])
  | _ + 4 => sidL x y i
theorem sidU_len (x y i : Int) (k : Nat) : (sidU x y i k).length ≤ 4 := by
  match k with
  | 0 => exact Nat.zero_le _
  | 1 => show (if x ≤ i then [i - x] else []).length ≤ 4; split <;> simp
  | 2 => show ((if x ≤ i then [i - x] else []) ++ (if 0 < i % x then [i - 1] else [])).length ≤ 4; rw [List.length_append]; repeat' split
         all_goals simp
  | 3 => show (((if x ≤ i then [i - x] else []) ++ (if 0 < i % x then [i - 1] else [])) ++ (if i % x + 1 < x then [i + 1] else [])).length ≤ 4; rw [List.length_append, List.length_append]; repeat' split
         all_goals simp
  | k + 4 => exact sidL_len x y i

theorem div_facts {x y i : Int} (hx : 1 ≤ x) (h0 : 0 ≤ i) (hi : i < x * y) : i = x * (i / x) + i % x ∧ 0 ≤ i / x ∧ i / x < y ∧ 0 ≤ i % x ∧ i % x < x := by
  have e := (Int.mul_ediv_add_emod i x).symm
  have r0 := Int.emod_nonneg i (show x ≠ 0 by omega)
  have r1 := Int.emod_lt_of_pos i (show 0 < x by omega)
  refine ⟨e, Int.ediv_nonneg h0 (by omega), ?_, r0, r1⟩
  exact Int.ediv_lt_of_lt_mul (by omega) (by rw [Int.mul_comm]; exact hi)
theorem up_iff {x y i : Int} (hx : 1 ≤ x) (h0 : 0 ≤ i) (hi : i < x * y) : x ≤ i ↔ 1 ≤ i / x := by
  constructor
  · intro h
    have := Int.le_ediv_of_mul_le (show 0 < x by omega) (show 1 * x ≤ i by omega)
    exact this
  · intro h
    have := Int.mul_le_of_le_ediv (show 0 < x by omega) h
    omega
theorem down_iff {x y i : Int} (hx : 1 ≤ x) (h0 : 0 ≤ i) (hi : i < x * y) : i + x < x * y ↔ i / x + 1 < y := by
  have e : (i + x) / x = i / x + 1 := Int.add_ediv_of_dvd_right (Int.dvd_refl x) |>.trans (by rw [Int.ediv_self (by omega)])
  constructor
  · intro h
    rw [← e]
    exact Int.ediv_lt_of_lt_mul (by omega) (by rw [Int.mul_comm]; exact h)
  · intro h
    rw [← e] at h
    have := Int.lt_mul_of_ediv_lt (show 0 < x by omega) h
    rw [Int.mul_comm]; exact this

set_option maxHeartbeats 4000000 in
theorem implPla (x y i : Int) (g c : Nat) (hx : 1 ≤ x ∧ x ≤ 16) (hy : 1 ≤ y ∧ y ≤ 16) (h0 : 0 ≤ i) (hi : i < x * y) (hm : x * y ≤ 256) (w : World) (hg : g < w.heap.size) (hc : ∀ k, k < 4 → w.cell? ⟨g, k * 2, none⟩ = some (.int .i64 (wX k)) ∧ w.cell? ⟨g, k * 2 + 1, none⟩ = some (.int .i64 (wY k))) :
    Calls Try.prog 123 #[.int .i64 x, .int .i64 y, .int .i64 i, .int .i64 1, .slice (some ⟨g, 0, none⟩) 4 c] w fun e w' => ∃ A c, e = .returned (.slice A (sidL x y i).length c) ∧ Hid (GroI w' w.heap.size (sidL x y i) A c) ∧ Hid (Below w.heap.size w w') := by
  obtain ⟨e1, q0, q1, r0, r1⟩ := div_facts hx.1 h0 hi
  have hup := up_iff hx.1 h0 hi
  have hdn := down_iff hx.1 h0 hi
  have hz : x ≠ 0 := by omega
  obtain ⟨hx1, hx2⟩ := hx
  obtain ⟨hy1, hy2⟩ := hy
  have HC := Lib.hid hc
  have H0 : Hid (GroI w w.heap.size (sidU x y i 0) none 0) := GroI.nil _ _
  have HE := Lib.hid e1
  clear e1 hc
  go_enter Try.func123, Try.ntmps123
  go_wp2
  go_loopw [11, 18] (fun o j wr => ∃ (k : Nat) (A' : Option Addr) (c' : Nat), k ≤ 4 ∧ j = .int .i64 k ∧ o = .slice A' (sidU x y i k).length c' ∧ Hid (GroI wr w.heap.size (sidU x y i k) A' c') ∧ Hid (Below w.heap.size w wr)) (fun _ j _ => 4 - (intOf j).toNat)
  case atStart => exact ⟨0, none, 0, Nat.zero_le _, rfl, rfl, H0, Below.refl _ _⟩
  case round =>
    obtain ⟨k, A', c', hk, rfl, rfl, hO, hB⟩ := hrel
    have hsz : Hid (w.heap.size ≤ wr.heap.size) := hB.out.size
    by_cases hlt : k < 4
    · obtain ⟨g0, g1⟩ := HC.out k hlt
      rw [← hB.out.cell (p := ⟨g, k * 2, none⟩) hg] at g0
      rw [← hB.out.cell (p := ⟨g, k * 2 + 1, none⟩) hg] at g1
      have hgr : g < wr.heap.size := Nat.lt_of_lt_of_le hg hsz.out
      have hl := sidU_len x y i k
      match k, hlt with
      | 0, _ =>
        rw [show wX 0 = 0 from rfl] at g0
        rw [show wY 0 = -1 from rfl] at g1
        obtain ⟨t, ht⟩ : ∃ t, t = (i / x + -1) * x := ⟨_, rfl⟩
        have ht2 : t = i - i % x - x := by
          have := HE.out
          rw [ht]
          rw [Int.add_mul, Int.mul_comm (i / x) x]
          omega
        have hw : IntKind.i64.wrap ((i / x + -1) * x) = t := by rw [← ht]; exact IntWalk.i64_in _ (by omega)
        have hbA : Below wr.heap.size wr (wr.alloc (.cells #[.int .i64 0, .int .i64 (-1)] 120)) := (Below.refl _ _).alloc (Nat.le_refl _) _
        have HOA := Lib.hid (hO.out.below hbA)
        have HBA := Lib.hid (hB.out.trans (hbA.mono hsz.out))
        clear hbA ht
        by_cases hc1 : x ≤ i
        · have E : Hid (sidU x y i 1 = sidU x y i 0 ++ [i - x]) := Lib.hid (by show (if x ≤ i then [i - x] else []) = [] ++ [i - x]; rw [if_pos hc1]; rfl)
          have hq1 : 1 ≤ i / x := hup.1 hc1
          clear hup hdn
          go_wp2_with fail
          go_quiet (fail)
          have HOB := Lib.hid (HOA.out.dn (n := nq))
          have HBB : Hid (Below w.heap.size w ((wr.alloc (.cells #[.int .i64 0, .int .i64 (-1)] 120)).drewN nq)) := belowN HBA.out
          have HSB : Hid (w.heap.size ≤ ((wr.alloc (.cells #[.int .i64 0, .int .i64 (-1)] 120)).drewN nq).heap.size) := HBB.out.size
          clear HOA HBA
          generalize (wr.alloc (.cells #[.int .i64 0, .int .i64 (-1)] 120)).drewN nq = wq at *
          go_wp2_with (first | (go_at_call 46; refine (within_any _ _ _ _).mono ?_; rintro e w' ⟨rfl, rfl⟩; first | (rw [inB_in]; rotate_left 1; omega; omega) | (rw [inB_out]; rotate_left 1; omega)) | (at_builtin; refine isAppI _ _ rfl ?_; refine wpGroI rfl _ _ rfl (w0 := wq) (y := i - x) HOB.out (by rw [show i - i % x - x + i % x = i - x by omega]) rfl rfl (by omega) HSB.out ?_; intro g2 c2 w4 O4 B4; have HO4 := Lib.hid O4; have HB4 := Lib.hid (HBB.out.trans B4); clear O4 B4))
          go_roundw
          case rel => exact ⟨1, _, _, by omega, rfl, by rw [E.out, List.length_append]; rfl, by rw [E.out]; exact HO4, HB4⟩
          case measure => simp [intOf]
        · have E : Hid (sidU x y i 1 = sidU x y i 0) := Lib.hid (by show (if x ≤ i then [i - x] else []) = []; rw [if_neg hc1])
          have hq1 : ¬ 1 ≤ i / x := fun h => hc1 (hup.2 h)
          clear hup hdn
          go_wp2_with fail
          go_quiet (fail)
          have HOB := Lib.hid (HOA.out.dn (n := nq))
          have HBB : Hid (Below w.heap.size w ((wr.alloc (.cells #[.int .i64 0, .int .i64 (-1)] 120)).drewN nq)) := belowN HBA.out
          have HSB : Hid (w.heap.size ≤ ((wr.alloc (.cells #[.int .i64 0, .int .i64 (-1)] 120)).drewN nq).heap.size) := HBB.out.size
          clear HOA HBA
          generalize (wr.alloc (.cells #[.int .i64 0, .int .i64 (-1)] 120)).drewN nq = wq at *
          go_wp2_with (go_at_call 46; refine (within_any _ _ _ _).mono ?_; rintro e w' ⟨rfl, rfl⟩; first | (rw [inB_in]; rotate_left 1; omega; omega) | (rw [inB_out]; rotate_left 1; omega))
          go_roundw
          case rel => exact ⟨1, _, _, by omega, rfl, by rw [E.out], by rw [E.out]; exact HOB, HBB⟩
          case measure => simp [intOf]
      | 1, _ =>
        rw [show wX 1 = -1 from rfl] at g0
        rw [show wY 1 = 0 from rfl] at g1
        obtain ⟨t, ht⟩ : ∃ t, t = (i / x) * x := ⟨_, rfl⟩
        have ht2 : t = i - i % x := by
          have := HE.out
          rw [ht]
          rw [Int.mul_comm]
          omega
        have hw : IntKind.i64.wrap ((i / x) * x) = t := by rw [← ht]; exact IntWalk.i64_in _ (by omega)
        have hbA : Below wr.heap.size wr (wr.alloc (.cells #[.int .i64 (-1), .int .i64 0] 120)) := (Below.refl _ _).alloc (Nat.le_refl _) _
        have HOA := Lib.hid (hO.out.below hbA)
        have HBA := Lib.hid (hB.out.trans (hbA.mono hsz.out))
        clear hbA ht
        by_cases hc1 : 0 < i % x
        · have E : Hid (sidU x y i 2 = sidU x y i 1 ++ [i - 1]) := Lib.hid (by show (if x ≤ i then [i - x] else []) ++ (if 0 < i % x then [i - 1] else []) = (if x ≤ i then [i - x] else []) ++ [i - 1]; rw [if_pos hc1])
          clear hup hdn
          go_wp2_with fail
          go_quiet (fail)
          have HOB := Lib.hid (HOA.out.dn (n := nq))
          have HBB : Hid (Below w.heap.size w ((wr.alloc (.cells #[.int .i64 (-1), .int .i64 0] 120)).drewN nq)) := belowN HBA.out
          have HSB : Hid (w.heap.size ≤ ((wr.alloc (.cells #[.int .i64 (-1), .int .i64 0] 120)).drewN nq).heap.size) := HBB.out.size
          clear HOA HBA
          generalize (wr.alloc (.cells #[.int .i64 (-1), .int .i64 0] 120)).drewN nq = wq at *
          go_wp2_with (first | (go_at_call 46; refine (within_any _ _ _ _).mono ?_; rintro e w' ⟨rfl, rfl⟩; first | (rw [inB_in]; rotate_left 1; omega; omega) | (rw [inB_out]; rotate_left 1; omega)) | (at_builtin; refine isAppI _ _ rfl ?_; refine wpGroI rfl _ _ rfl (w0 := wq) (y := i - 1) HOB.out (by rw [show i - i % x + (i % x + -1) = i - 1 by omega]) rfl rfl (by omega) HSB.out ?_; intro g2 c2 w4 O4 B4; have HO4 := Lib.hid O4; have HB4 := Lib.hid (HBB.out.trans B4); clear O4 B4))
          go_roundw
          case rel => exact ⟨2, _, _, by omega, rfl, by rw [E.out, List.length_append]; rfl, by rw [E.out]; exact HO4, HB4⟩
          case measure => simp [intOf]
        · have E : Hid (sidU x y i 2 = sidU x y i 1) := Lib.hid (by show (if x ≤ i then [i - x] else []) ++ (if 0 < i % x then [i - 1] else []) = (if x ≤ i then [i - x] else []); rw [if_neg hc1, List.append_nil])
          clear hup hdn
          go_wp2_with fail
          go_quiet (fail)
          have HOB := Lib.hid (HOA.out.dn (n := nq))
          have HBB : Hid (Below w.heap.size w ((wr.alloc (.cells #[.int .i64 (-1), .int .i64 0] 120)).drewN nq)) := belowN HBA.out
          have HSB : Hid (w.heap.size ≤ ((wr.alloc (.cells #[.int .i64 (-1), .int .i64 0] 120)).drewN nq).heap.size) := HBB.out.size
          clear HOA HBA
          generalize (wr.alloc (.cells #[.int .i64 (-1), .int .i64 0] 120)).drewN nq = wq at *
          go_wp2_with (go_at_call 46; refine (within_any _ _ _ _).mono ?_; rintro e w' ⟨rfl, rfl⟩; first | (rw [inB_in]; rotate_left 1; omega; omega) | (rw [inB_out]; rotate_left 1; omega))
          go_roundw
          case rel => exact ⟨2, _, _, by omega, rfl, by rw [E.out], by rw [E.out]; exact HOB, HBB⟩
          case measure => simp [intOf]
      | 2, _ =>
        rw [show wX 2 = 1 from rfl] at g0
        rw [show wY 2 = 0 from rfl] at g1
        obtain ⟨t, ht⟩ : ∃ t, t = (i / x) * x := ⟨_, rfl⟩
        have ht2 : t = i - i % x := by
          have := HE.out
          rw [ht]
          rw [Int.mul_comm]
          omega
        have hw : IntKind.i64.wrap ((i / x) * x) = t := by rw [← ht]; exact IntWalk.i64_in _ (by omega)
        have hbA : Below wr.heap.size wr (wr.alloc (.cells #[.int .i64 1, .int .i64 0] 120)) := (Below.refl _ _).alloc (Nat.le_refl _) _
        have HOA := Lib.hid (hO.out.below hbA)
        have HBA := Lib.hid (hB.out.trans (hbA.mono hsz.out))
        clear hbA ht
        by_cases hc1 : i % x + 1 < x
        · have E : Hid (sidU x y i 3 = sidU x y i 2 ++ [i + 1]) := Lib.hid (by show ((if x ≤ i then [i - x] else []) ++ (if 0 < i % x then [i - 1] else [])) ++ (if i % x + 1 < x then [i + 1] else []) = ((if x ≤ i then [i - x] else []) ++ (if 0 < i % x then [i - 1] else [])) ++ [i + 1]; rw [if_pos hc1])
          clear hup hdn
          go_wp2_with fail
          go_quiet (fail)
          have HOB := Lib.hid (HOA.out.dn (n := nq))
          have HBB : Hid (Below w.heap.size w ((wr.alloc (.cells #[.int .i64 1, .int .i64 0] 120)).drewN nq)) := belowN HBA.out
          have HSB : Hid (w.heap.size ≤ ((wr.alloc (.cells #[.int .i64 1, .int .i64 0] 120)).drewN nq).heap.size) := HBB.out.size
          clear HOA HBA
          generalize (wr.alloc (.cells #[.int .i64 1, .int .i64 0] 120)).drewN nq = wq at *
          go_wp2_with (first | (go_at_call 46; refine (within_any _ _ _ _).mono ?_; rintro e w' ⟨rfl, rfl⟩; first | (rw [inB_in]; rotate_left 1; omega; omega) | (rw [inB_out]; rotate_left 1; omega)) | (at_builtin; refine isAppI _ _ rfl ?_; refine wpGroI rfl _ _ rfl (w0 := wq) (y := i + 1) HOB.out (by rw [show i - i % x + (i % x + 1) = i + 1 by omega]) rfl rfl (by omega) HSB.out ?_; intro g2 c2 w4 O4 B4; have HO4 := Lib.hid O4; have HB4 := Lib.hid (HBB.out.trans B4); clear O4 B4))
          go_roundw
          case rel => exact ⟨3, _, _, by omega, rfl, by rw [E.out, List.length_append]; rfl, by rw [E.out]; exact HO4, HB4⟩
          case measure => simp [intOf]
        · have E : Hid (sidU x y i 3 = sidU x y i 2) := Lib.hid (by show ((if x ≤ i then [i - x] else []) ++ (if 0 < i % x then [i - 1] else [])) ++ (if i % x + 1 < x then [i + 1] else []) = ((if x ≤ i then [i - x] else []) ++ (if 0 < i % x then [i - 1] else [])); rw [if_neg hc1, List.append_nil])
          clear hup hdn
          go_wp2_with fail
          go_quiet (fail)
          have HOB := Lib.hid (HOA.out.dn (n := nq))
          have HBB : Hid (Below w.heap.size w ((wr.alloc (.cells #[.int .i64 1, .int .i64 0] 120)).drewN nq)) := belowN HBA.out
          have HSB : Hid (w.heap.size ≤ ((wr.alloc (.cells #[.int .i64 1, .int .i64 0] 120)).drewN nq).heap.size) := HBB.out.size
          clear HOA HBA
          generalize (wr.alloc (.cells #[.int .i64 1, .int .i64 0] 120)).drewN nq = wq at *
          go_wp2_with (go_at_call 46; refine (within_any _ _ _ _).mono ?_; rintro e w' ⟨rfl, rfl⟩; first | (rw [inB_in]; rotate_left 1; omega; omega) | (rw [inB_out]; rotate_left 1; omega))
          go_roundw
          case rel => exact ⟨3, _, _, by omega, rfl, by rw [E.out], by rw [E.out]; exact HOB, HBB⟩
          case measure => simp [intOf]
      | 3, _ =>
        rw [show wX 3 = 0 from rfl] at g0
        rw [show wY 3 = 1 from rfl] at g1
        obtain ⟨t, ht⟩ : ∃ t, t = (i / x + 1) * x := ⟨_, rfl⟩
        have ht2 : t = i - i % x + x := by
          have := HE.out
          rw [ht]
          rw [Int.add_mul, Int.mul_comm (i / x) x]
          omega
        have hw : IntKind.i64.wrap ((i / x + 1) * x) = t := by rw [← ht]; exact IntWalk.i64_in _ (by omega)
        have hbA : Below wr.heap.size wr (wr.alloc (.cells #[.int .i64 0, .int .i64 1] 120)) := (Below.refl _ _).alloc (Nat.le_refl _) _
        have HOA := Lib.hid (hO.out.below hbA)
        have HBA := Lib.hid (hB.out.trans (hbA.mono hsz.out))
        clear hbA ht
        by_cases hc1 : i + x < x * y
        · have E : Hid (sidU x y i 4 = sidU x y i 3 ++ [i + x]) := Lib.hid (by show sidL x y i = (((if x ≤ i then [i - x] else []) ++ (if 0 < i % x then [i - 1] else [])) ++ (if i % x + 1 < x then [i + 1] else [])) ++ [i + x]; unfold sidL; rw [if_pos hc1])
          have hq1 : i / x + 1 < y := hdn.1 hc1
          clear hup hdn
          go_wp2_with fail
          go_quiet (fail)
          have HOB := Lib.hid (HOA.out.dn (n := nq))
          have HBB : Hid (Below w.heap.size w ((wr.alloc (.cells #[.int .i64 0, .int .i64 1] 120)).drewN nq)) := belowN HBA.out
          have HSB : Hid (w.heap.size ≤ ((wr.alloc (.cells #[.int .i64 0, .int .i64 1] 120)).drewN nq).heap.size) := HBB.out.size
          clear HOA HBA
          generalize (wr.alloc (.cells #[.int .i64 0, .int .i64 1] 120)).drewN nq = wq at *
          go_wp2_with (first | (go_at_call 46; refine (within_any _ _ _ _).mono ?_; rintro e w' ⟨rfl, rfl⟩; first | (rw [inB_in]; rotate_left 1; omega; omega) | (rw [inB_out]; rotate_left 1; omega)) | (at_builtin; refine isAppI _ _ rfl ?_; refine wpGroI rfl _ _ rfl (w0 := wq) (y := i + x) HOB.out (by rw [show i - i % x + x + i % x = i + x by omega]) rfl rfl (by omega) HSB.out ?_; intro g2 c2 w4 O4 B4; have HO4 := Lib.hid O4; have HB4 := Lib.hid (HBB.out.trans B4); clear O4 B4))
          go_roundw
          case rel => exact ⟨4, _, _, by omega, rfl, by rw [E.out, List.length_append]; rfl, by rw [E.out]; exact HO4, HB4⟩
          case measure => simp [intOf]
        · have E : Hid (sidU x y i 4 = sidU x y i 3) := Lib.hid (by show sidL x y i = (((if x ≤ i then [i - x] else []) ++ (if 0 < i % x then [i - 1] else [])) ++ (if i % x + 1 < x then [i + 1] else [])); unfold sidL; rw [if_neg hc1, List.append_nil])
          have hq1 : ¬ i / x + 1 < y := fun h => hc1 (hdn.2 h)
          clear hup hdn
          go_wp2_with fail
          go_quiet (fail)
          have HOB := Lib.hid (HOA.out.dn (n := nq))
          have HBB : Hid (Below w.heap.size w ((wr.alloc (.cells #[.int .i64 0, .int .i64 1] 120)).drewN nq)) := belowN HBA.out
          have HSB : Hid (w.heap.size ≤ ((wr.alloc (.cells #[.int .i64 0, .int .i64 1] 120)).drewN nq).heap.size) := HBB.out.size
          clear HOA HBA
          generalize (wr.alloc (.cells #[.int .i64 0, .int .i64 1] 120)).drewN nq = wq at *
          go_wp2_with (go_at_call 46; refine (within_any _ _ _ _).mono ?_; rintro e w' ⟨rfl, rfl⟩; first | (rw [inB_in]; rotate_left 1; omega; omega) | (rw [inB_out]; rotate_left 1; omega))
          go_roundw
          case rel => exact ⟨4, _, _, by omega, rfl, by rw [E.out], by rw [E.out]; exact HOB, HBB⟩
          case measure => simp [intOf]
    · obtain rfl : k = 4 := by omega
      go_wp2_with fail
      go_ret
      exact ⟨A', c', rfl, hO, hB⟩

def wayRow : Array Value := #[.int .i64 0, .int .i64 (-1), .int .i64 (-1), .int .i64 0, .int .i64 1, .int .i64 0, .int .i64 0, .int .i64 1]
theorem implWays (w : World) : Calls Try.prog 105 #[] w fun e w' => e = .returned (.slice (some ⟨w.heap.size, 0, none⟩) 4 4) ∧ w' = w.alloc (.cells wayRow 120) := by
  go_enter Try.func105, Try.ntmps105
  go_wp2_with fail
  go_ret
  exact ⟨rfl, rfl⟩
theorem implSid (x y i : Int) (hv : sidB x y = true) (h0 : 0 ≤ i) (hi : i < x * y) (w : World) :
    Calls Try.prog 135 #[.int .i64 x, .int .i64 y, .int .i64 i] w fun e w' => ∃ A c, e = .returned (.slice A (sidL x y i).length c) ∧ Hid (GroI w' (w.heap.size + 1) (sidL x y i) A c) ∧ Hid (Below w.heap.size w w') := by
  obtain ⟨hx, hy⟩ := sidB_yes hv
  have hm := (sid_bd hv).2
  have hb0 : Below w.heap.size w (w.alloc (.cells wayRow 120)) := (Below.refl _ _).alloc (Nat.le_refl _) _
  have hsz : (w.alloc (.cells wayRow 120)).heap.size = w.heap.size + 1 := by simp
  have hcell : ∀ k, k < 4 → (w.alloc (.cells wayRow 120)).cell? ⟨w.heap.size, k * 2, none⟩ = some (.int .i64 (wX k)) ∧ (w.alloc (.cells wayRow 120)).cell? ⟨w.heap.size, k * 2 + 1, none⟩ = some (.int .i64 (wY k)) := by
    intro k hk
    match k, hk with
    | 0, _ => exact ⟨by simp [World.cell?, World.alloc, -World.alloc_eq, wayRow, wX], by simp [World.cell?, World.alloc, -World.alloc_eq, wayRow, wY]⟩
    | 1, _ => exact ⟨by simp [World.cell?, World.alloc, -World.alloc_eq, wayRow, wX], by simp [World.cell?, World.alloc, -World.alloc_eq, wayRow, wY]⟩
    | 2, _ => exact ⟨by simp [World.cell?, World.alloc, -World.alloc_eq, wayRow, wX], by simp [World.cell?, World.alloc, -World.alloc_eq, wayRow, wY]⟩
    | 3, _ => exact ⟨by simp [World.cell?, World.alloc, -World.alloc_eq, wayRow, wX], by simp [World.cell?, World.alloc, -World.alloc_eq, wayRow, wY]⟩
  have HP := Lib.hid (implPla x y i w.heap.size 4 hx hy h0 hi hm (w.alloc (.cells wayRow 120)) (by rw [hsz]; exact Nat.lt_succ_self _) hcell)
  rw [hsz] at HP
  have HB := Lib.hid hb0
  have HSZ := Lib.hid hsz
  clear hcell hsz hb0 hx hy
  go_enter Try.func135, Try.ntmps135
  go_wp2_with fail
  refine (implWays w).mono ?_
  rintro e w' ⟨rfl, rfl⟩
  go_wp2_with fail
  refine HP.out.mono ?_
  rintro e w2 ⟨A, c, rfl, hO, hb⟩
  have HB2 : Hid (Below w.heap.size w w2) := HB.out.trans (hb.out.mono (Nat.le_succ _))
  clear hb HP
  go_wp2_with fail
  go_ret
  exact ⟨A, c, rfl, hO, HB2⟩

end Go.Proofs.Ytnhcmloaanamnaa
