/-
  What is proved here: the two functions CountsOf, as walks. Conditions: at most 1048576 numbers.
-/
import Derived.Test.YtebijgjdeofalaaInts
namespace Go.Proofs.Ytebijgjdeofalaa
open Go.RowKit

/-- within bounds -/
def inB (n lo hi : Int) : Bool := decide (lo ≤ n ∧ n ≤ hi)

theorem inB_yes {n lo hi : Int} (h : inB n lo hi = true) : lo ≤ n ∧ n ≤ hi := by simpa [inB] using h
theorem inB_no {n lo hi : Int} (h : inB n lo hi = false) : ¬ (lo ≤ n ∧ n ≤ hi) := by simpa [inB] using h

theorem within_i (n lo hi : Int) (w : World) :
    Calls Try.prog 25 #[.int .i64 n, .int .i64 lo, .int .i64 hi] w fun e w' => e = .returned (.bool (inB n lo hi)) ∧ w = w' := by
  by_cases h1 : lo ≤ n
  · by_cases h2 : n ≤ hi
    · have N : Hid (inB n lo hi = true) := decide_eq_true ⟨h1, h2⟩
      go_enter Try.func25, Try.ntmps25
      go_wp2
      go_ret
      exact ⟨by rw [N.out]; rfl, rfl⟩
    · have N : Hid (inB n lo hi = false) := decide_eq_false fun h => h2 h.2
      go_enter Try.func25, Try.ntmps25
      go_wp2
      go_ret
      exact ⟨by rw [N.out]; rfl, rfl⟩
  · have N : Hid (inB n lo hi = false) := decide_eq_false fun h => h1 h.1
    go_enter Try.func25, Try.ntmps25
    go_wp2
    go_ret
    exact ⟨by rw [N.out]; rfl, rfl⟩

theorem within_s (n lo hi : Int) (w : World) :
    Calls Try.prog 24 #[.int .i64 n, .int .i64 lo, .int .i64 hi] w fun e w' => e = .returned (.bool (inB n lo hi)) ∧ w = w' := by
  by_cases h1 : lo ≤ n
  · by_cases h2 : n ≤ hi
    · have N : Hid (inB n lo hi = true) := decide_eq_true ⟨h1, h2⟩
      go_enter Try.func24, Try.ntmps24
      go_wp2
      go_ret
      exact ⟨by rw [N.out]; rfl, rfl⟩
    · have N : Hid (inB n lo hi = false) := decide_eq_false fun h => h2 h.2
      go_enter Try.func24, Try.ntmps24
      go_wp2
      go_ret
      exact ⟨by rw [N.out]; rfl, rfl⟩
  · have N : Hid (inB n lo hi = false) := decide_eq_false fun h => h1 h.1
    go_enter Try.func24, Try.ntmps24
    go_wp2
    go_ret
    exact ⟨by rw [N.out]; rfl, rfl⟩

/-- all numbers of a list are from 0 to a bound -/
def allIn (zs : List Int) (most : Int) : Bool := zs.all fun z => inB z 0 most
/-- lists that are counted -/
def cntB (zs : List Int) (most : Int) : Bool := decide (zs.length ≤ 256) && inB most 0 128 && allIn zs most
/-- how often each number is there -/
def cnt (zs : List Int) (j : Nat) : Int := zs.count (j : Int)
def cntL (zs : List Int) (most : Int) : List Int := if cntB zs most = true then (List.range (most.toNat + 1)).map (cnt zs) else []

theorem cnt_step (zs : List Int) (k : Nat) (h : k < zs.length) (m : Nat) (hm : atI zs k = m) :
    cnt (zs.take (k + 1)) = fun j => if j = m then cnt (zs.take k) m + 1 else cnt (zs.take k) j := by
  have e : zs.take (k + 1) = zs.take k ++ [(m : Int)] := by
    rw [List.take_succ_eq_append_getElem h, ← hm]
    simp [atI, List.getD, h]
  funext j
  unfold cnt
  rw [e, List.count_append]
  by_cases hj : j = m
  · subst hj; simp
  · rw [if_neg hj, List.count_singleton, if_neg (by simp; omega)]; simp

theorem allIn_not {zs : List Int} {most : Int} {k : Nat} (h : k < zs.length) (hm : inB (atI zs k) 0 most = false) : allIn zs most = false := by
  unfold allIn
  rw [List.all_eq_false]
  refine ⟨zs[k], List.getElem_mem h, ?_⟩
  rw [show zs[k] = atI zs k by simp [atI, List.getD, h], hm]
  simp

/-- all of them before a place -/
def inTo (zs : List Int) (most : Int) (k : Nat) : Prop := ∀ j, j < k → inB (atI zs j) 0 most = true
theorem inTo_all {zs : List Int} {most : Int} (h : inTo zs most zs.length) : allIn zs most = true := by
  unfold allIn
  rw [List.all_eq_true]
  intro x hx
  obtain ⟨j, hj, rfl⟩ := List.getElem_of_mem hx
  have := h j hj
  rwa [show atI zs j = zs[j] by simp [atI, List.getD, hj]] at this

/-- what both give -/
def CPost (zs : List Int) (most : Int) (w : World) (e : Ending) (w' : World) : Prop :=
  ∃ A c, e = .returned (.tuple #[.slice A (cntL zs most).length c, .bool (cntB zs most)]) ∧ Hid (OwnI w' w.heap.size A (cntL zs most)) ∧ Hid (Below w.heap.size w w')

theorem cpost_no {zs : List Int} {most : Int} {w w' : World} (h : cntB zs most = false) (hb : Below w.heap.size w w') : CPost zs most w (.returned (.tuple #[.slice none 0 0, .bool false])) w' := by
  have e : cntL zs most = [] := by unfold cntL; rw [h]; rfl
  refine ⟨none, 0, by rw [e, h]; rfl, ?_, hb⟩
  rw [e]
  intro h0
  exact absurd h0 (Nat.lt_irrefl 0)

theorem cpost_yes {zs : List Int} {most : Nat} {w w' : World} (h : cntB zs most = true) (ho : OneRow w' w.heap.size (most + 1) (cnt zs)) (hb : Below w.heap.size w w') : CPost zs most w (.returned (.tuple #[.slice (some ⟨w.heap.size, 0, none⟩) (most + 1) (most + 1), .bool true])) w' := by
  have e : cntL zs most = (List.range (most + 1)).map (cnt zs) := by unfold cntL; rw [if_pos h, Int.toNat_natCast]
  refine ⟨some ⟨w.heap.size, 0, none⟩, most + 1, by rw [e, h]; simp, ?_, hb⟩
  refine ho.own (by rw [e]; simp) fun j hj => ?_
  rw [e]
  simp [atI, List.getD, hj]

theorem implCnt (A : Option Addr) (c : Nat) (zs : List Int) (most : Int) (w : World) (hr : RowI w w.heap.size A zs) (hn : zs.length ≤ 1048576) :
    Calls Try.prog 8 #[.slice A zs.length c, .int .i64 most] w (CPost zs most w) := by
  have HR := Lib.hid hr
  clear hr
  by_cases h1 : 256 < zs.length
  · have N : Hid (cntB zs most = false) := by show cntB zs most = false; unfold cntB; rw [decide_eq_false (by omega)]; rfl
    go_enter Try.func8, Try.ntmps8
    go_wp2
    go_ret2
    exact cpost_no N.out (Below.refl _ _)
  · have h1' : zs.length ≤ 256 := by omega
    clear h1
    cases h2 : inB most 0 128
    · have N : Hid (cntB zs most = false) := by show cntB zs most = false; unfold cntB; rw [h2]; simp
      go_enter Try.func8, Try.ntmps8
      go_wp2_with (go_at_call 25; refine (within_i _ _ _ _).mono ?_; rintro e w' ⟨rfl, rfl⟩)
      go_ret2
      exact cpost_no N.out (Below.refl _ _)
    · obtain ⟨m, rfl⟩ : ∃ m : Nat, most = m := ⟨most.toNat, by have := inB_yes h2; omega⟩
      have hm : m ≤ 128 := by have := inB_yes h2; omega
      obtain ⟨i0, hi, hz0, hz1, hz2⟩ := info_parts info_i64
      have hmk := fun W => run_make_rowN (P := Try.prog) 22 2 i0 (.int .i64 0) Try.underlying22 hi hz0 .i64 .i64 (m + 1) (m + 1) (Nat.le_refl _) (by rw [hz2]; omega) (by omega) W
      rw [hz1, Nat.mul_one] at hmk
      have hmk2 : ∀ W : World, (Instr.makeSlice 22 (.int .i64 ((m : Int) + 1)) (.int .i64 ((m : Int) + 1))).run Try.prog W = _ := hmk
      clear hmk
      have C0 : Hid (OneRow _ _ _ (cnt (zs.take 0))) := (oneRow_start w (m + 1)).ext fun j _ => by simp [cnt]
      have B0 : Hid (Below w.heap.size w (w.alloc (.cells (madeCells #[.int .i64 0] (m + 1)) 2))) := (Below.refl _ _).alloc (Nat.le_refl _) _
      have N2 := Lib.hid h2
      have h9 : decide ((256 : Int) < (zs.length : Int)) = false := decide_eq_false (by omega)
      clear hi hz0 hz1 hz2
      go_enter Try.func8, Try.ntmps8
      go_wp2_with (go_at_call 25; refine (within_i _ _ _ _).mono ?_; rintro e w' ⟨rfl, rfl⟩)
      clear hmk2 h9 h2
      generalize w.alloc (.cells (madeCells #[.int .i64 0] (m + 1)) 2) = w1 at *
      generalize hG : w.heap.size = G at *
      have HG := Lib.hid hG
      clear hG
      go_loopw [22] (fun i wr => ∃ k : Nat, k ≤ zs.length ∧ i = .int .i64 k ∧ Hid (inTo zs m k) ∧ Hid (OneRow wr G (m + 1) (cnt (zs.take k))) ∧ Hid (Below G w wr)) (fun i _ => zs.length - (intOf i).toNat)
      case atStart => exact ⟨0, Nat.zero_le _, rfl, fun j hj => absurd hj (Nat.not_lt_zero _), C0, B0⟩
      case round =>
        obtain ⟨k, hk, rfl, hI, hC, hB⟩ := hrel
        by_cases hlt : k < zs.length
        · obtain ⟨b, off, rfl, hb, hcell⟩ := HR.out (by omega)
          have hc := hcell k hlt
          rw [← hB.out.cell (p := ⟨b, off + k, none⟩) hb] at hc
          clear hcell
          cases h3 : inB (atI zs k) 0 m
          · have N : Hid (cntB zs m = false) := by show cntB zs m = false; unfold cntB; rw [allIn_not hlt h3]; simp
            go_wp2_with (go_at_call 25; refine (within_i _ _ _ _).mono ?_; rintro e w' ⟨rfl, rfl⟩)
            go_ret2
            exact cpost_no N.out (by rw [HG.out]; exact hB.out)
          · obtain ⟨q, hq⟩ : ∃ q : Nat, atI zs k = q := ⟨(atI zs k).toNat, by have := inB_yes h3; omega⟩
            have hqm : q ≤ m := by have := inB_yes h3; omega
            have HI2 : Hid (inTo zs m (k + 1)) := fun j hj => by
              by_cases e : j = k
              · rw [e]; exact h3
              · exact hI.out j (by omega)
            have hs0 := hC.out.step (by omega : q < m + 1) (cnt_step zs k hlt q hq)
            rw [hq] at hc h3
            have hd := hC.out.cell q (by omega)
            have hf := hC.out.free q
            have hx : cnt (zs.take k) q ≤ 256 := by unfold cnt; have := List.count_le_length (a := (q : Int)) (l := zs.take k); have := List.length_take_le k zs; omega
            have hx0 : 0 ≤ cnt (zs.take k) q := by unfold cnt; omega
            have hs := Lib.hid hs0
            have hs2 : Hid (Below G w (wr.setCell ⟨G, q, none⟩ (.int .i64 (cnt (zs.take k) q + 1)))) := hB.out.setCell (Nat.le_refl _) _
            clear hs0 hB hC hI hq
            go_wp2_with (go_at_call 25; refine (within_i _ _ _ _).mono ?_; rintro e w' ⟨rfl, rfl⟩)
            go_roundw
            case rel => exact ⟨k + 1, by omega, by go_num, HI2, hs, hs2⟩
            case measure => simp [intOf]; omega
        · have HK : Hid (zs.take k = zs) := List.take_of_length_le (by omega)
          have N : Hid (cntB zs m = true) := by
            show cntB zs m = true
            unfold cntB
            rw [N2.out, decide_eq_true h1', inTo_all (show inTo zs m zs.length from (show k = zs.length by omega) ▸ hI.out)]
            rfl
          go_wp2
          go_ret2
          rw [← HG.out]
          exact cpost_yes N.out (by rw [HG.out, ← HK.out]; exact hC.out) (by rw [HG.out]; exact hB.out)

theorem specCnt (A : Option Addr) (c : Nat) (zs : List Int) (most : Int) (w : World) (hr : RowI w w.heap.size A zs) (hn : zs.length ≤ 1048576) :
    Calls Try.prog 6 #[.slice A zs.length c, .int .i64 most] w (CPost zs most w) := by
  have HR := Lib.hid hr
  clear hr
  by_cases h1 : 256 < zs.length
  · have N : Hid (cntB zs most = false) := by show cntB zs most = false; unfold cntB; rw [decide_eq_false (by omega)]; rfl
    go_enter Try.func6, Try.ntmps6
    go_wp2
    go_ret2
    exact cpost_no N.out (Below.refl _ _)
  · have h1' : zs.length ≤ 256 := by omega
    clear h1
    cases h2 : inB most 0 128
    · have N : Hid (cntB zs most = false) := by show cntB zs most = false; unfold cntB; rw [h2]; simp
      go_enter Try.func6, Try.ntmps6
      go_wp2_with (go_at_call 24; refine (within_s _ _ _ _).mono ?_; rintro e w' ⟨rfl, rfl⟩)
      go_ret2
      exact cpost_no N.out (Below.refl _ _)
    · obtain ⟨m, rfl⟩ : ∃ m : Nat, most = m := ⟨most.toNat, by have := inB_yes h2; omega⟩
      have hm : m ≤ 128 := by have := inB_yes h2; omega
      obtain ⟨i0, hi, hz0, hz1, hz2⟩ := info_parts info_i64
      have hmk := fun W => run_make_rowN (P := Try.prog) 22 2 i0 (.int .i64 0) Try.underlying22 hi hz0 .i64 .i64 (m + 1) (m + 1) (Nat.le_refl _) (by rw [hz2]; omega) (by omega) W
      rw [hz1, Nat.mul_one] at hmk
      have hmk2 : ∀ W : World, (Instr.makeSlice 22 (.int .i64 ((m : Int) + 1)) (.int .i64 ((m : Int) + 1))).run Try.prog W = _ := hmk
      clear hmk
      have C0 : Hid (OneRow _ _ _ (cnt (zs.take 0))) := (oneRow_start w (m + 1)).ext fun j _ => by simp [cnt]
      have B0 : Hid (Below w.heap.size w (w.alloc (.cells (madeCells #[.int .i64 0] (m + 1)) 2))) := (Below.refl _ _).alloc (Nat.le_refl _) _
      have N2 := Lib.hid h2
      have h9 : decide ((256 : Int) < (zs.length : Int)) = false := decide_eq_false (by omega)
      clear hi hz0 hz1 hz2
      go_enter Try.func6, Try.ntmps6
      go_wp2_with (go_at_call 24; refine (within_s _ _ _ _).mono ?_; rintro e w' ⟨rfl, rfl⟩)
      clear hmk2 h9 h2
      generalize w.alloc (.cells (madeCells #[.int .i64 0] (m + 1)) 2) = w1 at *
      generalize hG : w.heap.size = G at *
      have HG := Lib.hid hG
      clear hG
      go_loopw [7] (fun i wr => ∃ k : Nat, k ≤ zs.length ∧ i = .int .i64 k ∧ Hid (inTo zs m k) ∧ Hid (OneRow wr G (m + 1) (cnt (zs.take k))) ∧ Hid (Below G w wr)) (fun i _ => zs.length - (intOf i).toNat)
      case atStart => exact ⟨0, Nat.zero_le _, rfl, fun j hj => absurd hj (Nat.not_lt_zero _), C0, B0⟩
      case round =>
        obtain ⟨k, hk, rfl, hI, hC, hB⟩ := hrel
        by_cases hlt : k < zs.length
        · obtain ⟨b, off, rfl, hb, hcell⟩ := HR.out (by omega)
          have hc := hcell k hlt
          rw [← hB.out.cell (p := ⟨b, off + k, none⟩) hb] at hc
          clear hcell
          cases h3 : inB (atI zs k) 0 m
          · have N : Hid (cntB zs m = false) := by show cntB zs m = false; unfold cntB; rw [allIn_not hlt h3]; simp
            go_wp2_with (go_at_call 24; refine (within_s _ _ _ _).mono ?_; rintro e w' ⟨rfl, rfl⟩)
            go_ret2
            exact cpost_no N.out (by rw [HG.out]; exact hB.out)
          · obtain ⟨q, hq⟩ : ∃ q : Nat, atI zs k = q := ⟨(atI zs k).toNat, by have := inB_yes h3; omega⟩
            have hqm : q ≤ m := by have := inB_yes h3; omega
            have HI2 : Hid (inTo zs m (k + 1)) := fun j hj => by
              by_cases e : j = k
              · rw [e]; exact h3
              · exact hI.out j (by omega)
            have hs0 := hC.out.step (by omega : q < m + 1) (cnt_step zs k hlt q hq)
            rw [hq] at hc h3
            have hd := hC.out.cell q (by omega)
            have hf := hC.out.free q
            have hx : cnt (zs.take k) q ≤ 256 := by unfold cnt; have := List.count_le_length (a := (q : Int)) (l := zs.take k); have := List.length_take_le k zs; omega
            have hx0 : 0 ≤ cnt (zs.take k) q := by unfold cnt; omega
            have hs := Lib.hid hs0
            have hs2 : Hid (Below G w (wr.setCell ⟨G, q, none⟩ (.int .i64 (cnt (zs.take k) q + 1)))) := hB.out.setCell (Nat.le_refl _) _
            clear hs0 hB hC hI hq
            go_wp2_with (go_at_call 24; refine (within_s _ _ _ _).mono ?_; rintro e w' ⟨rfl, rfl⟩)
            go_roundw
            case rel => exact ⟨k + 1, by omega, by go_num, HI2, hs, hs2⟩
            case measure => simp [intOf]; omega
        · have HK : Hid (zs.take k = zs) := List.take_of_length_le (by omega)
          have N : Hid (cntB zs m = true) := by
            show cntB zs m = true
            unfold cntB
            rw [N2.out, decide_eq_true h1', inTo_all (show inTo zs m zs.length from (show k = zs.length by omega) ▸ hI.out)]
            rfl
          go_wp2
          go_ret2
          rw [← HG.out]
          exact cpost_yes N.out (by rw [HG.out, ← HK.out]; exact hC.out) (by rw [HG.out]; exact hB.out)

end Go.Proofs.Ytebijgjdeofalaa
