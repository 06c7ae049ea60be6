/-
  What is proved here: the sides of a cell that are among cells, as the program tells them, as walks. Conditions: sides of a field, a cell of it.
-/
import Derived.Test.YteojpmnnpinpeaaSdi
import Derived.Test.YteojpmnnpinpeaaFpk
import Derived.Test.YteojpmnnpinpeaaFva
import Derived.Lib.SliceRun
namespace Go.Proofs.Yteojpmnnpinpeaa
open Go.RowKit
set_option linter.unusedVariables false

/-- what the closure of sidesAmong reads -/
structure Clo (w : World) (v B : Nat) (A : Option Addr) (n c : Nat) (p : Nat → Bool) : Prop where
  lt : v < B
  cell : w.cell? ⟨v, 0, none⟩ = some (.slice A n c)
  row : RowV w B A n (bo p)
theorem Clo.butIn {w w' : World} {v B lo hi n c : Nat} {A : Option Addr} {p : Nat → Bool} (h : Clo w v B A n c p) (hb : ButIn lo hi w w') (hB : B ≤ w.heap.size) (hl : B ≤ lo ∨ hi = 0) : Clo w' v B A n c p := by
  have hv := h.lt
  exact ⟨h.lt, by rw [World.cell?_of_block (w := w) (hb.block v (by omega) (by omega))]; exact h.cell, h.row.butIn hb hB hl⟩
theorem Clo.dn {w : World} {v B n c k : Nat} {A : Option Addr} {p : Nat → Bool} (h : Clo w v B A n c p) : Clo (w.drewN k) v B A n c p := ⟨h.lt, h.cell, h.row⟩

theorem cloAmong (v B : Nat) (A : Option Addr) (n c : Nat) (p : Nat → Bool) (s : Nat) (hs : s < n) (hn : n ≤ 1048576) (w : World) (h : Clo w v B A n c p) :
    Calls Try.prog 175 #[.int .i64 s, .pointer (some ⟨v, 0, none⟩)] w fun e w' => e = .returned (.bool (!p s)) ∧ w = w' := by
  obtain ⟨_, c0, hr⟩ := h
  obtain ⟨b, off, rfl, hb, hcell⟩ := hr (by omega)
  have hc := hcell s hs
  unfold bo at hc
  clear hcell hr
  go_enter Try.func175, Try.ntmps175
  go_wp2
  go_ret
  exact ⟨rfl, rfl⟩

/-- the full ones of a list of cells -/
def fulD (p : Nat → Bool) (L : List Int) (j : Nat) : Bool := p (atI L j).toNat
/-- a list of cells of a field -/
def CellsL (L : List Int) (n : Nat) : Prop := ∀ j, j < L.length → 0 ≤ atI L j ∧ atI L j < n

theorem idxF (v B : Nat) (A : Option Addr) (n c : Nat) (p : Nat → Bool) (L : List Int) (X : Option Addr) (cx lo hi : Nat) (hL : CellsL L n) (hn : n ≤ 1048576) (hl : L.length ≤ 4) (w : World) (h : Clo w v B A n c p) (hr : RowW w lo hi X L.length (iv (atI L))) :
    Calls Try.prog 90 #[.slice X L.length cx, .func (.func 175) #[] #[.pointer (some ⟨v, 0, none⟩)]] w fun e w' => e = .returned (.int .i64 (if runB (fulD p L) true 0 L.length < L.length then (runB (fulD p L) true 0 L.length : Int) else -1)) ∧ w = w' := by
  have HR := Lib.hid hr.toRow
  have HH := Lib.hid h
  obtain ⟨R, hRe⟩ : ∃ R, R = runB (fulD p L) true 0 L.length := ⟨_, rfl⟩
  have hR := runB_le (fulD p L) true L.length 0
  have hall := runB_all (fulD p L) true L.length 0
  have hend := runB_end (fulD p L) true L.length 0
  rw [← hRe] at hR hall hend ⊢
  have HALL := Lib.hid hall
  have HEND := Lib.hid hend
  have HCL := Lib.hid hL
  clear hr hall hend hRe h hL
  go_enter Try.func90, Try.ntmps90
  go_wp2
  go_loop [8] (fun i => ∃ k : Nat, k ≤ R ∧ i = .int .i64 k) (fun i => R - (intOf i).toNat)
  case atStart => exact ⟨0, Nat.zero_le _, rfl⟩
  case round =>
    obtain ⟨k, hk, rfl⟩ := hrel
    by_cases hkn : k < L.length
    · obtain ⟨b, off, rfl, hb, hcell⟩ := HR.out (by omega)
      have hc := hcell k hkn
      unfold iv at hc
      obtain ⟨s0, s1⟩ := HCL.out k hkn
      obtain ⟨s, hs⟩ : ∃ s : Nat, atI L k = (s : Int) := ⟨(atI L k).toNat, by omega⟩
      rw [hs] at hc
      have hsn : s < n := by omega
      have HC := Lib.hid (fun W h => cloAmong v B A n c p s hsn hn W h)
      have hfs : fulD p L k = p s := by unfold fulD; rw [hs]; rfl
      by_cases hlt : k < R
      · have h0 := HALL.out k hlt
        rw [Nat.zero_add, hfs] at h0
        rw [h0] at HC
        clear hcell h0 hs s0 s1 hfs
        go_wp2_with (go_at_call 175; refine (HC.out _ HH.out).mono ?_; rintro e w' ⟨rfl, rfl⟩)
        go_round
        case rel => exact ⟨k + 1, by omega, by go_num⟩
        case measure => simp [intOf]; omega
      · obtain rfl : k = R := by omega
        have h0 := HEND.out hkn
        rw [Nat.zero_add, hfs] at h0
        rw [h0] at HC
        clear hcell h0 hs s0 s1 hfs
        go_wp2_with (go_at_call 175; refine (HC.out _ HH.out).mono ?_; rintro e w' ⟨rfl, rfl⟩)
        go_ret
        exact ⟨rfl, rfl⟩
    · obtain rfl : k = R := by omega
      go_wp2
      go_ret
      exact ⟨rfl, rfl⟩

/-- the full ones of the first so many -/
def kepL (p : Nat → Bool) (L : List Int) : Nat → List Int
  | 0 => []
  | j + 1 => if fulD p L j = true then kepL p L j ++ [atI L j] else kepL p L j
theorem kepL_yes {p : Nat → Bool} {L : List Int} {j : Nat} (h : fulD p L j = true) : kepL p L (j + 1) = kepL p L j ++ [atI L j] := by
  conv => lhs; unfold kepL
  rw [if_pos h]
theorem kepL_no {p : Nat → Bool} {L : List Int} {j : Nat} (h : fulD p L j = false) : kepL p L (j + 1) = kepL p L j := by
  conv => lhs; unfold kepL
  rw [if_neg (by rw [h]; decide)]
theorem kepL_le (p : Nat → Bool) (L : List Int) (j : Nat) : (kepL p L j).length ≤ j := by
  induction j with
  | zero => exact Nat.le_refl _
  | succ j ih =>
    unfold kepL
    split
    · rw [List.length_append]; simp; exact ih
    · omega
theorem atI_snoc (M : List Int) (u : Int) (j : Nat) (hj : j < M.length + 1) : atI (M ++ [u]) j = if j = M.length then u else atI M j := by
  unfold atI
  rw [List.getD_eq_getElem?_getD, List.getD_eq_getElem?_getD]
  by_cases e : j = M.length
  · subst e
    rw [if_pos rfl, List.getElem?_append_right (Nat.le_refl _)]; simp
  · rw [if_neg e, List.getElem?_append_left (by omega)]
theorem kepL_all (p : Nat → Bool) (L : List Int) (j : Nat) (h : ∀ t, t < j → fulD p L t = true) : (kepL p L j).length = j ∧ ∀ t, t < j → atI (kepL p L j) t = atI L t := by
  induction j with
  | zero => exact ⟨rfl, fun t ht => absurd ht (Nat.not_lt_zero _)⟩
  | succ j ih =>
    obtain ⟨h1, h2⟩ := ih fun t ht => h t (by omega)
    rw [kepL_yes (h j (Nat.lt_succ_self _))]
    refine ⟨by rw [List.length_append, h1]; rfl, fun t ht => ?_⟩
    rw [atI_snoc _ _ _ (by rw [h1]; exact ht), h1]
    by_cases e : t = j
    · rw [if_pos e, e]
    · rw [if_neg e]; exact h2 t (by omega)
/-- the row as it is moved together -/
def movF (p : Nat → Bool) (L : List Int) (j : Nat) : Nat → Int := fun t => if t < (kepL p L j).length then atI (kepL p L j) t else atI L t
theorem movF_put {p : Nat → Bool} {L : List Int} {j : Nat} (h : fulD p L j = true) : ∀ t, put (iv (movF p L j)) (kepL p L j).length (.int .i64 (atI L j)) t = iv (movF p L (j + 1)) t := fun t => by
  unfold put iv movF
  rw [kepL_yes h, List.length_append]
  by_cases e : t = (kepL p L j).length
  · rw [if_pos e, if_pos (by simp; omega), atI_snoc _ _ _ (by omega), if_pos e]
  · rw [if_neg e]
    by_cases g : t < (kepL p L j).length
    · rw [if_pos g, if_pos (by simp; omega), atI_snoc _ _ _ (by omega), if_neg e]
    · rw [if_neg g, if_neg (by simp; omega)]
theorem butIn_setCells {lo hi b : Nat} (h1 : lo ≤ b) (h2 : b < hi) : ∀ (vs : List Value) (o : Nat) (a w : World), ButIn lo hi a w → ButIn lo hi a (w.setCells b o vs)
  | [], _, _, _, h => h
  | v :: r, o, a, w, h => butIn_setCells h1 h2 r (o + 1) a _ (h.set (q := ⟨b, o, none⟩) h1 h2 v)
theorem zeroI (w : World) : (zeroValue 2).run Try.prog w = .ok (.int .i64 0) w := by kernel_rfl

set_option maxHeartbeats 4000000 in
theorem delF (v B : Nat) (A : Option Addr) (n c : Nat) (p : Nat → Bool) (L : List Int) (X : Option Addr) (cx lo hi : Nat) (hL : CellsL L n) (hn : n ≤ 1048576) (hl : L.length ≤ 4) (hcx : L.length ≤ cx) (w : World) (h : Clo w v B A n c p) (hB : B ≤ lo) (hBw : B ≤ w.heap.size) (hr : RowW w lo hi X L.length (iv (atI L))) :
    Calls Try.prog 174 #[.slice X L.length cx, .func (.func 175) #[] #[.pointer (some ⟨v, 0, none⟩)]] w fun e w' => ∃ X' c', e = .returned (.slice X' (kepL p L L.length).length c') ∧ Hid (ButIn lo hi w w') := by
  have HR := Lib.hid hr
  have HH := Lib.hid h
  have HX := Lib.hid (idxF v B A n c p L X cx lo hi hL hn hl w h hr)
  obtain ⟨R, hRe⟩ : ∃ R, R = runB (fulD p L) true 0 L.length := ⟨_, rfl⟩
  have hR := runB_le (fulD p L) true L.length 0
  have hall := runB_all (fulD p L) true L.length 0
  have hend := runB_end (fulD p L) true L.length 0
  rw [← hRe] at hR hall hend HX
  have hall2 : ∀ t, t < R → fulD p L t = true := fun t ht => by have := hall t ht; rwa [Nat.zero_add] at this
  obtain ⟨k1, k2⟩ := kepL_all p L R hall2
  have HCL := Lib.hid hL
  clear hr hall hRe h hL hall2
  by_cases hlt : R < L.length
  · rw [if_pos hlt] at HX
    have hend2 := hend hlt
    rw [Nat.zero_add] at hend2
    have hk := kepL_no (show fulD p L R = false from hend2)
    have S0 : Hid (RowW w lo hi X L.length (iv (movF p L (R + 1)))) := HR.out.ext fun t _ => by
      unfold iv movF
      rw [hk, k1]
      by_cases g : t < R
      · rw [if_pos g, k2 t g]
      · rw [if_neg g]
    have K0 : Hid ((kepL p L (R + 1)).length = R) := by show _ = _; rw [hk, k1]
    clear hend hend2 hk k1 k2
    have hR1 : ((R : Int) == -1) = false := beq_eq_false_iff_ne.2 (by omega)
    go_enter Try.func174, Try.ntmps174
    go_wp2_with (go_at_call 90; refine HX.out.mono ?_; rintro e w' ⟨rfl, rfl⟩)
    go_loopw [5, 6] (fun a b wr => ∃ (i j : Nat), a = .int .i64 i ∧ b = .int .i64 j ∧ j ≤ L.length ∧ i < j ∧ Hid ((kepL p L j).length = i) ∧ Hid (RowW wr lo hi X L.length (iv (movF p L j))) ∧ Hid (ButIn lo hi w wr)) (fun _ b _ => L.length - (intOf b).toNat)
    case atStart => exact ⟨R, R + 1, rfl, by go_num, by omega, by omega, K0, S0, ButIn.refl _ _ _⟩
    case round =>
      obtain ⟨i, j, rfl, rfl, hj, hij, hK, hS, hB2⟩ := hrel
      by_cases hjl : j < L.length
      · obtain ⟨b, off, rfl, hb1, hb2, hcell, hfree⟩ := hS.out.row (by omega)
        have hc := hcell j hjl
        have hd := hcell i (by omega)
        have hf := hfree i (by omega)
        have hv : iv (movF p L j) j = .int .i64 (atI L j) := by unfold iv movF; rw [hK.out, if_neg (by omega)]
        rw [hv] at hc
        unfold iv at hd
        obtain ⟨s0, s1⟩ := HCL.out j hjl
        obtain ⟨s, hs⟩ : ∃ s : Nat, atI L j = (s : Int) := ⟨(atI L j).toNat, by omega⟩
        have hfs : fulD p L j = p s := by unfold fulD; rw [hs]; rfl
        have hsn : s < n := by omega
        have HC := Lib.hid (cloAmong v B A n c p s hsn hn wr (HH.out.butIn hB2.out hBw (.inl hB)))
        cases hp : p s
        · rw [hp] at HC hfs
          have E := Lib.hid (kepL_no hfs)
          have HS2 : Hid (RowW wr lo hi (some ⟨b, off, none⟩) L.length (iv (movF p L (j + 1)))) := hS.out.ext fun t _ => by unfold iv movF; rw [E.out]
          have HK2 : Hid ((kepL p L (j + 1)).length = i) := by show _ = _; rw [E.out]; exact hK.out
          rw [hs] at hc
          clear hcell hfree hv hd hf hs s0 s1 hfs hp hS
          go_wp2_with (go_at_call 175; refine HC.out.mono ?_; rintro e w' ⟨rfl, rfl⟩)
          go_roundw
          case rel =>
            exact ⟨i, j + 1, rfl, by go_num, by omega, by omega, HK2, HS2, hB2⟩
          case measure => simp [intOf]; omega
        · rw [hp] at HC hfs
          have HS2 : Hid (RowW (wr.setCell ⟨b, off + i, none⟩ (.int .i64 (s : Int))) lo hi (some ⟨b, off, none⟩) L.length (iv (movF p L (j + 1)))) := (hS.out.setW (k := i) (u := .int .i64 (s : Int)) (by omega)).ext (U := iv (movF p L (j + 1))) fun t _ => by rw [← hs, ← hK.out]; exact movF_put hfs t
          have HK2 : Hid ((kepL p L (j + 1)).length = i + 1) := by show _ = _; rw [kepL_yes hfs, List.length_append, hK.out]; rfl
          have HB3 := Lib.hid (hB2.out.set (q := ⟨b, off + i, none⟩) hb1 hb2 (.int .i64 (s : Int)))
          rw [hs] at hc
          clear hcell hfree hv hs s0 s1 hfs hp hS
          go_wp2_with (go_at_call 175; refine HC.out.mono ?_; rintro e w' ⟨rfl, rfl⟩)
          go_roundw
          case rel => exact ⟨i + 1, j + 1, by go_num, by go_num, by omega, by omega, HK2, HS2, HB3⟩
          case measure => simp [intOf]; omega
      · obtain rfl : j = L.length := by omega
        obtain ⟨b, off, rfl, hb1, hb2, hcell, hfree⟩ := hS.out.row (by omega)
        have hcl : ∀ ty, (Builtin.clear_ #[32] ty #[.slice (some ⟨b, off + i, none⟩) (L.length - i) (cx - i)]).run Try.prog wr = .ok (.tuple #[]) (wr.setCells b (off + i) (List.replicate (L.length - i) (.int .i64 0))) :=
          fun ty => Lib.run_clear_slice wr 32 2 ty (.int .i64 0) Try.underlying32 zeroI rfl rfl b (off + i) (L.length - i) (cx - i) (by omega) (fun t ht => by rw [Nat.add_assoc, hcell (i + t) (by omega)]; rfl) (fun t ht => by rw [Nat.add_assoc]; exact hfree (i + t) (by omega))
        have hne : ¬ cx = i := by omega
        have HBF := Lib.hid (butIn_setCells hb1 hb2 (List.replicate (L.length - i) (.int .i64 0)) (off + i) w wr hB2.out)
        clear hcell hfree
        go_wp2_with (simp only [hcl])
        go_ret
        exact ⟨some ⟨b, off, none⟩, cx, by rw [hK.out]; rfl, HBF⟩
  · obtain rfl : R = L.length := by omega
    rw [if_neg hlt] at HX
    go_enter Try.func174, Try.ntmps174
    go_wp2_with (go_at_call 90; refine HX.out.mono ?_; rintro e w' ⟨rfl, rfl⟩)
    go_ret
    exact ⟨X, cx, by rw [k1]; rfl, ButIn.refl _ _ _⟩

end Go.Proofs.Yteojpmnnpinpeaa
