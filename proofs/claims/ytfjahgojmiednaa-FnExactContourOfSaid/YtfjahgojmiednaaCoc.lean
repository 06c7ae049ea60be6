/-
  What is proved here: of a row of pairs, the ones that are of the coast are kept, as the program does it (slices.DeleteFunc), as walks. Conditions: at most 1048576 pairs.
-/
import Derived.Test.YtfjahgojmiednaaCop
import Derived.Lib.SliceRun
import Derived.Deep.RegionHeld3
namespace Go.Proofs.Ytfjahgojmiednaa
open Flt Go.RowKit
attribute [local go_sem] run_store_float
set_option linter.unusedVariables false

/-- the pair at a place -/
def atP (L : List (Nat × Nat × Bool)) (m : Nat) : Nat × Nat × Bool := L.getD m (0, 0, false)
theorem atP_is {L : List (Nat × Nat × Bool)} {m : Nat} (h : m < L.length) : atP L m = L[m] := by unfold atP; simp [List.getD, h]
/-- those kept of the first so many -/
def kpP (q : Nat × Nat × Bool → Bool) (L : List (Nat × Nat × Bool)) (j : Nat) : List (Nat × Nat × Bool) := (L.take j).filter q
theorem kpP_yes {q : Nat × Nat × Bool → Bool} {L : List (Nat × Nat × Bool)} {j : Nat} (hj : j < L.length) (h : q (atP L j) = true) : kpP q L (j + 1) = kpP q L j ++ [atP L j] := by
  unfold kpP
  rw [List.take_succ_eq_append_getElem hj, List.filter_append, ← atP_is hj]
  simp [h]
theorem kpP_no {q : Nat × Nat × Bool → Bool} {L : List (Nat × Nat × Bool)} {j : Nat} (hj : j < L.length) (h : q (atP L j) = false) : kpP q L (j + 1) = kpP q L j := by
  unfold kpP
  rw [List.take_succ_eq_append_getElem hj, List.filter_append, ← atP_is hj]
  simp [h]
theorem kpP_le (q : Nat × Nat × Bool → Bool) (L : List (Nat × Nat × Bool)) (j : Nat) : (kpP q L j).length ≤ j := Nat.le_trans (List.length_filter_le _ _) (by rw [List.length_take]; omega)
theorem kpP_all {q : Nat × Nat × Bool → Bool} {L : List (Nat × Nat × Bool)} : ∀ {j : Nat}, j ≤ L.length → (∀ t, t < j → q (atP L t) = true) → kpP q L j = L.take j := by
  intro j
  induction j with
  | zero => intro _ _; rfl
  | succ j ih =>
    intro hj h
    rw [kpP_yes (by omega) (h j (by omega)), ih (by omega) fun t ht => h t (by omega), List.take_succ_eq_append_getElem (by omega), atP_is (by omega)]
theorem kpP_end (q : Nat × Nat × Bool → Bool) (L : List (Nat × Nat × Bool)) : kpP q L L.length = L.filter q := by unfold kpP; rw [List.take_length]
/-- the row as it is moved together -/
def movP (q : Nat × Nat × Bool → Bool) (L : List (Nat × Nat × Bool)) (j m : Nat) : Nat × Nat × Bool := if m < (kpP q L j).length then atP (kpP q L j) m else atP L m
theorem movP_start {q : Nat × Nat × Bool → Bool} {L : List (Nat × Nat × Bool)} {j m : Nat} (hj : j ≤ L.length) (h : ∀ t, t < j → q (atP L t) = true) : movP q L j m = atP L m := by
  unfold movP
  rw [kpP_all hj h]
  by_cases g : m < (L.take j).length
  · rw [if_pos g]
    rw [List.length_take] at g
    rw [atP_is (by rw [List.length_take]; exact g), atP_is (by omega), List.getElem_take]
  · rw [if_neg g]
theorem atP_snoc {M : List (Nat × Nat × Bool)} {u : Nat × Nat × Bool} {m : Nat} : atP (M ++ [u]) m = if m = M.length then u else atP M m := by
  unfold atP
  rw [List.getD_eq_getElem?_getD, List.getD_eq_getElem?_getD]
  by_cases e : m = M.length
  · subst e
    rw [if_pos rfl, List.getElem?_append_right (Nat.le_refl _)]; simp
  · rw [if_neg e]
    by_cases g : m < M.length
    · rw [List.getElem?_append_left g]
    · rw [List.getElem?_eq_none (by simp; omega), List.getElem?_eq_none (by omega)]
theorem movP_put {q : Nat × Nat × Bool → Bool} {L : List (Nat × Nat × Bool)} {j m : Nat} (hj : j < L.length) (h : q (atP L j) = true) : movP q L (j + 1) m = if m = (kpP q L j).length then atP L j else movP q L j m := by
  unfold movP
  rw [kpP_yes hj h, List.length_append, atP_snoc]
  by_cases e : m = (kpP q L j).length
  · rw [if_pos e, if_pos (by simp; omega), if_pos e]
  · rw [if_neg e, if_neg e]
    by_cases g : m < (kpP q L j).length
    · rw [if_pos g, if_pos (by simp; omega)]
    · rw [if_neg g, if_neg (by simp; omega)]
theorem movP_no {q : Nat × Nat × Bool → Bool} {L : List (Nat × Nat × Bool)} {j m : Nat} (hj : j < L.length) (h : q (atP L j) = false) : movP q L (j + 1) m = movP q L j m := by
  unfold movP
  rw [kpP_no hj h]
theorem movP_here {q : Nat × Nat × Bool → Bool} {L : List (Nat × Nat × Bool)} {j m : Nat} (h : (kpP q L j).length ≤ m) : movP q L j m = atP L m := by
  unfold movP
  rw [if_neg (by omega)]
theorem first_not (q : Nat → Bool) (n : Nat) : ∃ R, R ≤ n ∧ (∀ t, t < R → q t = true) ∧ (R < n → q R = false) := by
  induction n with
  | zero => exact ⟨0, Nat.le_refl _, fun t ht => absurd ht (Nat.not_lt_zero _), fun h => absurd h (Nat.not_lt_zero _)⟩
  | succ n ih =>
    obtain ⟨R, h1, h2, h3⟩ := ih
    by_cases e : R < n
    · exact ⟨R, by omega, h2, fun _ => h3 e⟩
    · have : R = n := by omega
      subst this
      cases hq : q R with
      | true => exact ⟨R + 1, Nat.le_refl _, fun t ht => by
          by_cases g : t = R
          · rw [g]; exact hq
          · exact h2 t (by omega), fun h => by omega⟩
      | false => exact ⟨R, by omega, h2, fun _ => hq⟩

/-- a row of pairs, told by a function, that may be written -/
structure PRow (w : World) (lo g n W : Nat) (zs : List Nat) (f : Nat → Nat × Nat × Bool) : Prop where
  lo : lo ≤ g
  lt : g < w.heap.size
  cell : ∀ m r, m < n → r < 5 → w.cell? ⟨g, m * 5 + r, none⟩ = (pcA W zs (f m))[r]?
  free : ∀ m r, m < n → r < 5 → w.frozen? ⟨g, m * 5 + r, none⟩ = false
theorem GroP.prow {w : World} {G W c g : Nat} {zs : List Nat} {L : List (Nat × Nat × Bool)} (h : GroP w G W zs L (some ⟨g, 0, none⟩) c) : PRow w G g L.length W zs (atP L) := by
  refine ⟨(h.lt _ rfl).1, (h.lt _ rfl).2, fun m r hm hr => ?_, fun m r hm hr => World.ownsRow.frozenAt h _⟩
  rw [World.ownsRow.cellAt h _ (by omega), pcL_at W zs L m r hm hr, atP_is hm]
theorem PRow.below {w w' : World} {lo g n W : Nat} {zs : List Nat} {f : Nat → Nat × Nat × Bool} (h : PRow w lo g n W zs f) (hb : Below w.heap.size w w') : PRow w' lo g n W zs f :=
  ⟨h.lo, Nat.lt_of_lt_of_le h.lt hb.size, fun m r hm hr => by rw [hb.cell (p := ⟨g, m * 5 + r, none⟩) h.lt]; exact h.cell m r hm hr, fun m r hm hr => by rw [hb.frozen (p := ⟨g, m * 5 + r, none⟩) h.lt]; exact h.free m r hm hr⟩
theorem PRow.ext {w : World} {lo g n W : Nat} {zs : List Nat} {f f' : Nat → Nat × Nat × Bool} (h : PRow w lo g n W zs f) (e : ∀ m, m < n → f' m = f m) : PRow w lo g n W zs f' :=
  ⟨h.lo, h.lt, fun m r hm hr => by rw [e m hm]; exact h.cell m r hm hr, h.free⟩
/-- the five cells of one pair -/
theorem PRow.at {w : World} {lo g n W m : Nat} {zs : List Nat} {f : Nat → Nat × Nat × Bool} (h : PRow w lo g n W zs f) (hm : m < n) :
    w.cell? ⟨g, m * 5, none⟩ = some (.int .i64 (((f m).1 % W : Nat) : Int)) ∧ w.cell? ⟨g, m * 5 + 1, none⟩ = some (.int .i64 (((f m).1 / W : Nat) : Int)) ∧ w.cell? ⟨g, m * 5 + 2, none⟩ = some (.bool (f m).2.2) ∧ w.cell? ⟨g, m * 5 + 3, none⟩ = some (.float .f32 (at0 zs (f m).1)) ∧ w.cell? ⟨g, m * 5 + 4, none⟩ = some (.float .f32 (at0 zs (f m).2.1)) :=
  ⟨h.cell m 0 hm (by omega), h.cell m 1 hm (by omega), h.cell m 2 hm (by omega), h.cell m 3 hm (by omega), h.cell m 4 hm (by omega)⟩
theorem PRow.free5 {w : World} {lo g n W m : Nat} {zs : List Nat} {f : Nat → Nat × Nat × Bool} (h : PRow w lo g n W zs f) (hm : m < n) :
    w.frozen? ⟨g, m * 5, none⟩ = false ∧ w.frozen? ⟨g, m * 5 + 1, none⟩ = false ∧ w.frozen? ⟨g, m * 5 + 2, none⟩ = false ∧ w.frozen? ⟨g, m * 5 + 3, none⟩ = false ∧ w.frozen? ⟨g, m * 5 + 4, none⟩ = false :=
  ⟨h.free m 0 hm (by omega), h.free m 1 hm (by omega), h.free m 2 hm (by omega), h.free m 3 hm (by omega), h.free m 4 hm (by omega)⟩

/-- a variable that holds a level -/
structure LevV (w : World) (Z lv : Nat) : Prop where
  lt : Z < w.heap.size
  cell : w.cell? ⟨Z, 0, none⟩ = some (.float .f32 lv)
theorem LevV.below {w w' : World} {Z lv : Nat} (h : LevV w Z lv) (hb : Below w.heap.size w w') : LevV w' Z lv := ⟨Nat.lt_of_lt_of_le h.lt hb.size, by rw [hb.cell (p := ⟨Z, 0, none⟩) h.lt]; exact h.cell⟩
theorem LevV.low {w w' : World} {Z lv G : Nat} (h : LevV w Z lv) (hb : Below G w w') (hZ : Z < G) : LevV w' Z lv := ⟨Nat.lt_of_lt_of_le h.lt hb.size, by rw [hb.cell (p := ⟨Z, 0, none⟩) hZ]; exact h.cell⟩

theorem cloCo (Z lv : Nat) (q0 q1 : Int) (t : Bool) (zs : List Nat) (p : Nat × Nat × Bool) (w : World) (h : LevV w Z lv) :
    Calls Try.prog 83 #[.agg #[.int .i64 q0, .int .i64 q1, .bool t, .float .f32 (at0 zs p.1), .float .f32 (at0 zs p.2.1)], .pointer (some ⟨Z, 0, none⟩)] w fun e w' => e = .returned (.bool (!cpB zs lv p)) ∧ Hid (Below w.heap.size w w') := by
  have c0 := (h.below (World.below_one w (.cells #[.int .i64 q0, .int .i64 q1, .bool t, .float .f32 (at0 zs p.1), .float .f32 (at0 zs p.2.1)] 62))).cell
  have hb := Lib.hid (World.below_one w (.cells #[.int .i64 q0, .int .i64 q1, .bool t, .float .f32 (at0 zs p.1), .float .f32 (at0 zs p.2.1)] 62))
  have N : Hid (cpB zs lv p = ((FloatKind.f32.format.order (at0 zs p.1) lv == some .gt) != (FloatKind.f32.format.order (at0 zs p.2.1) lv == some .gt))) := rfl
  clear h
  cases ga : (FloatKind.f32.format.order (at0 zs p.1) lv == some .gt) <;> cases gb : (FloatKind.f32.format.order (at0 zs p.2.1) lv == some .gt)
  all_goals
    rw [ga, gb] at N
    go_enter Try.func83, Try.ntmps83
    go_wp2
    go_ret
    exact ⟨by rw [N.out]; rfl, hb⟩

set_option maxHeartbeats 4000000 in
theorem idxP (Z lv lo g c W R : Nat) (zs : List Nat) (L : List (Nat × Nat × Bool)) (w : World) (h : LevV w Z lv) (hr : PRow w lo g L.length W zs (atP L)) (hn : L.length ≤ 1048576) (hR : R ≤ L.length) (hall : ∀ t, t < R → cpB zs lv (atP L t) = true) (hend : R < L.length → cpB zs lv (atP L R) = false) :
    Calls Try.prog 100 #[.slice (some ⟨g, 0, none⟩) L.length c, .func (.func 83) #[] #[.pointer (some ⟨Z, 0, none⟩)]] w fun e w' => e = .returned (.int .i64 (if R < L.length then (R : Int) else -1)) ∧ Hid (Below w.heap.size w w') := by
  have HR := Lib.hid hr
  have HH := Lib.hid h
  have HALL := Lib.hid hall
  have HEND := Lib.hid hend
  clear hr hall hend h
  go_enter Try.func100, Try.ntmps100
  go_wp2
  go_loopw [8] (fun i wr => ∃ k : Nat, k ≤ R ∧ i = .int .i64 k ∧ Hid (Below w.heap.size w wr)) (fun i _ => R - (intOf i).toNat)
  case atStart => exact ⟨0, Nat.zero_le _, rfl, Below.refl _ _⟩
  case round =>
    obtain ⟨k, hk, rfl, hB⟩ := hrel
    by_cases hkn : k < L.length
    · obtain ⟨d0, d1, d2, d3, d4⟩ := (HR.out.below hB.out).at hkn
      have HC := Lib.hid (fun q0 q1 t => cloCo Z lv q0 q1 t zs (atP L k) wr (HH.out.below hB.out))
      have hal := fun h => HALL.out k h
      have hen : k = R → cpB zs lv (atP L k) = false := fun h => by rw [h]; exact HEND.out (by omega)
      generalize atP L k = p at *
      generalize ((p.1 % W : Nat) : Int) = q0 at *
      generalize ((p.1 / W : Nat) : Int) = q1 at *
      generalize p.2.2 = t at *
      by_cases hlt : k < R
      · have h0 := hal hlt
        rw [h0] at HC
        clear h0 hal hen
        go_wp2_with (go_at_call 83; refine (HC.out _ _ _).mono ?_; rintro e w' ⟨rfl, hb2⟩; have HB2 := Lib.hid (hB.out.trans (hb2.out.mono hB.out.size)); clear hb2)
        go_roundw
        case rel => exact ⟨k + 1, by omega, by go_num, HB2⟩
        case measure => simp [intOf]; omega
      · have ek : k = R := by omega
        have h0 : cpB zs lv p = false := hen ek
        rw [h0] at HC
        have EK := Lib.hid ek
        clear h0 hal hen ek
        go_wp2_with (go_at_call 83; refine (HC.out _ _ _).mono ?_; rintro e w' ⟨rfl, hb2⟩; have HB2 := Lib.hid (hB.out.trans (hb2.out.mono hB.out.size)); clear hb2)
        go_ret
        exact ⟨by rw [EK.out]; rfl, HB2⟩
    · have ek : k = R := by omega
      have EK := Lib.hid ek
      clear ek
      go_wp2
      go_ret
      exact ⟨by first | rfl | rw [if_neg (show ¬ R < L.length by have := EK.out; omega)], hB⟩

end Go.Proofs.Ytfjahgojmiednaa
