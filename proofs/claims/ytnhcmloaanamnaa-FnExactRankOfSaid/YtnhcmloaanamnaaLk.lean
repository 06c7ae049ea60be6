/-
  What is proved here: rows of 32-bit numbers as the law's functions copy, compare, mark and look at them, between block numbers; rows that are told up to not-a-numbers; rows that are made and written, or grown number by number. Conditions: at most 1048576 numbers.
-/
import Derived.Test.YtnhcmloaanamnaaTfr
import Derived.Test.YtnhcmloaanamnaaMas
import Derived.Test.YtnhcmloaanamnaaOct
import Derived.Test.YtnhcmloaanamnaaSid
import Derived.Deep.RegionHeld3
namespace Go.Proofs.Ytnhcmloaanamnaa
open Flt Go.RowKit
set_option linter.unusedVariables false
attribute [local go_sem] run_store_float

/-- a row that holds what is told, place by place, as far as numbers go -/
structure Tl (f : Nat → Option Nat) (n : Nat) (ws : List Nat) : Prop where
  len : ws.length = n
  at' : ∀ j, j < n → can .f32 (at0 ws j) = f j

theorem Tl.self (zs : List Nat) : Tl (fun j => can .f32 (at0 zs j)) zs.length zs := ⟨rfl, fun _ _ => rfl⟩

theorem at0_put {ws : List Nat} {k u j : Nat} (hj : j < ws.length) : at0 (ws.set k u) j = if j = k then u else at0 ws j := by
  unfold at0
  rw [List.getD_eq_getElem?_getD, List.getD_eq_getElem?_getD, List.getElem?_set]
  by_cases e : j = k
  · subst e
    rw [if_pos rfl, if_pos rfl, if_pos hj]; rfl
  · rw [if_neg e, if_neg (fun h => e h.symm)]
theorem at0_lt {ws : List Nat} {j : Nat} (h : j < ws.length) : at0 ws j = ws[j] := by simp [at0, List.getD, h]
theorem at0_snoc {ws : List Nat} {u j : Nat} (hj : j < ws.length + 1) : at0 (ws ++ [u]) j = if j = ws.length then u else at0 ws j := by
  unfold at0
  rw [List.getD_eq_getElem?_getD, List.getD_eq_getElem?_getD]
  by_cases e : j = ws.length
  · subst e
    rw [if_pos rfl, List.getElem?_append_right (Nat.le_refl _)]; simp
  · rw [if_neg e, List.getElem?_append_left (by omega)]

theorem Tl.nil (f : Nat → Option Nat) : Tl f 0 [] := ⟨rfl, fun j hj => absurd hj (Nat.not_lt_zero _)⟩
theorem Tl.snoc {f : Nat → Option Nat} {k u : Nat} {ws : List Nat} (h : Tl f k ws) (hu : can .f32 u = f k) : Tl f (k + 1) (ws ++ [u]) :=
  ⟨by rw [List.length_append, h.len]; rfl, fun j hj => by
    rw [at0_snoc (by rw [h.len]; exact hj), h.len]
    by_cases e : j = k
    · rw [if_pos e, e]; exact hu
    · rw [if_neg e]; exact h.at' j (by omega)⟩

/-- so many of what is told stand, in a row of n -/
structure Part (f : Nat → Option Nat) (n k : Nat) (ws : List Nat) : Prop where
  len : ws.length = n
  at' : ∀ j, j < k → can .f32 (at0 ws j) = f j
theorem Part.start (f : Nat → Option Nat) (ws : List Nat) : Part f ws.length 0 ws := ⟨rfl, fun j hj => absurd hj (Nat.not_lt_zero _)⟩
theorem Part.step {f : Nat → Option Nat} {n k u : Nat} {ws : List Nat} (h : Part f n k ws) (hk : k < n) (hu : can .f32 u = f k) : Part f n (k + 1) (ws.set k u) :=
  ⟨by rw [List.length_set]; exact h.len, fun j hj => by
    rw [at0_put (by rw [h.len]; omega)]
    by_cases e : j = k
    · rw [if_pos e, e]; exact hu
    · rw [if_neg e]; exact h.at' j (by omega)⟩
theorem Part.all {f : Nat → Option Nat} {n : Nat} {ws : List Nat} (h : Part f n n ws) : Tl f n ws := ⟨h.len, h.at'⟩

/-- all that is told is finite -/
def finT (f : Nat → Option Nat) (n : Nat) : Bool := (List.range n).all fun j => finO (f j)
theorem Tl.fin {f : Nat → Option Nat} {n : Nat} {ws : List Nat} (h : Tl f n ws) : finAll ws = finT f n := by
  cases e : finT f n with
  | true =>
    refine finAll_yes fun j hj => ?_
    rw [h.len] at hj
    rw [← finO_can, h.at' j hj]
    exact List.all_eq_true.1 e j (List.mem_range.2 hj)
  | false =>
    unfold finT at e
    rw [List.all_eq_false] at e
    obtain ⟨j, hj, hf⟩ := e
    rw [List.mem_range] at hj
    refine finAll_no (k := j) (by rw [h.len]; exact hj) ?_
    rw [← finO_can, h.at' j hj]
    simpa using hf
theorem Tl.same {f : Nat → Option Nat} {n : Nat} {xs ys : List Nat} (h : Tl f n xs) (g : Tl f n ys) {j : Nat} (hj : j < n) : can .f32 (at0 xs j) = can .f32 (at0 ys j) := by rw [h.at' j hj, g.at' j hj]

/-! the law's functions -/
theorem toFR (A : Option Addr) (c : Nat) (zs : List Nat) (w : World) (hr : RowF w w.heap.size A zs) (hn : zs.length ≤ 1048576) :
    Calls Try.prog 10 #[.slice A zs.length c] w fun e w' => ∃ A' c', e = .returned (.slice A' zs.length c') ∧ Hid (RowIn w' w.heap.size w'.heap.size A' zs) ∧ Hid (Below w.heap.size w w') :=
  (toFO A c zs w hr hn).mono fun _ _ ⟨g, h1, h2, h3, h4, h5⟩ => ⟨some ⟨g, 0, none⟩, _, h1, (h4.out.rowIn (fun a ha => by injection ha with ha; subst ha; exact ⟨Nat.le_refl _, h3⟩)).lower h2, h5⟩

theorem markR (A : Option Addr) (c lo hi n : Nat) (zs : List Nat) (w : World) (hr : RowIn w lo hi A zs) (hl : zs.length = n) (hn : n ≤ 1048576) :
    Calls Try.prog 14 #[.slice A n c, .int .i64 1] w fun e w' => e = .returned (.int .i64 (1 + n : Nat)) ∧ Hid (RowIn w' lo hi A (upF 1 n)) ∧ Hid (ButIn lo hi w w') := by
  subst hl
  exact (mark1F A c lo zs w hr.toOwn hn).mono fun _ _ ⟨h1, h2, h3⟩ => by
    have hb := h3.out.butIn hr.inn
    exact ⟨h1, ⟨Nat.le_trans hr.le hb.size, hr.inn, fun g0 => by
      obtain ⟨b, off, e1, h4, h5, hc, hf⟩ := h2.out g0
      exact ⟨b, off, e1, h4, (hr.inn _ e1).2, hc, hf⟩⟩, hb⟩

theorem heldR (A : Option Addr) (c lo hi n : Nat) (w : World) (hr : RowIn w lo hi A (upF 1 n)) (hn : n ≤ 1048576) :
    Calls Try.prog 19 #[.slice A n c, .int .i64 1] w fun e w' => e = .returned (.int .i64 (1 + n : Nat)) ∧ w = w' := held1F A c w.heap.size n w hr.toRow hn

theorem wid_eq3 {x y r s : Nat} (h1 : Hid (can .f64 r = wid (can .f32 x))) (h2 : Hid (can .f64 s = wid (can .f32 y))) (h : Hid (can .f32 x = can .f32 y)) : can .f64 r = can .f64 s := by rw [h1.out, h2.out, h.out]

set_option maxHeartbeats 8000000 in
theorem eqR (A B : Option Addr) (c d l1 h1 l2 h2 n : Nat) (xs ys : List Nat) (f : Nat → Option Nat) (w : World) (hr : RowIn w l1 h1 A xs) (hq : RowIn w l2 h2 B ys) (tx : Tl f n xs) (ty : Tl f n ys) (hn : n ≤ 1048576) :
    Calls Try.prog 13 #[.slice A n c, .slice B n d] w fun e w' => e = .returned (.bool true) ∧ ∃ n, w' = w.drewN n := by
  have HR := Lib.hid hr.toRow
  have HQ := Lib.hid hq.toRow
  have HX := Lib.hid tx
  have HY := Lib.hid ty
  clear hr hq tx ty
  go_enter Try.func13, Try.ntmps13
  go_wp2
  go_loopw [5] (fun i wr => ∃ k : Nat, k ≤ n ∧ i = .int .i64 k ∧ ∃ n, wr = w.drewN n) (fun i _ => n - (intOf i).toNat)
  case atStart => exact ⟨0, Nat.zero_le _, rfl, 0, rfl⟩
  case round =>
    obtain ⟨k, hk, rfl, m, rfl⟩ := hrel
    by_cases hlt : k < n
    · obtain ⟨b, off, rfl, hb, hcell⟩ := HR.out (by rw [HX.out.len]; omega)
      obtain ⟨b2, off2, rfl, hb2, hcell2⟩ := HQ.out (by rw [HY.out.len]; omega)
      have hc := hcell k (by rw [HX.out.len]; omega)
      have hd := hcell2 k (by rw [HY.out.len]; omega)
      have E := Lib.hid (HX.out.same HY.out hlt)
      clear hcell hcell2
      go_wp2_with fail
      go_region_with (first | (go_at_call 22; (first | refine (sameFloat_any _ _ (wid_eq3 (by assumption) (by assumption) (by assumption)) _).mono ?_); rintro e w' ⟨rfl, n2, rfl⟩) | ((with_reducible refine upon_wid ?_ ?_ ?_); rotate_left 2; intro _ _ _ _; rotate_left 1; kernel_rfl; kernel_rfl))
      all_goals
        go_wp2
        go_roundw
        case rel => exact ⟨k + 1, by omega, by go_num, _, rfl⟩
        case measure => simp [intOf]; omega
    · go_wp2
      go_ret
      exact ⟨rfl, _, rfl⟩

/-! what functions of lists give -/
def LP (f : Nat → Option Nat) (n : Nat) (b : Bool) (w : World) (e : Ending) (w' : World) : Prop :=
  ∃ A c ys, e = .returned (.tuple #[.slice A n c, .bool b]) ∧ Hid (Tl f n ys) ∧ Hid (RowIn w' w.heap.size w'.heap.size A ys) ∧ Hid (Below w.heap.size w w')
theorem lp_no {f : Nat → Option Nat} {w w' : World} (h : Below w.heap.size w w') : LP f 0 false w (.returned (.tuple #[.slice none 0 0, .bool false])) w' := ⟨none, 0, [], rfl, Tl.nil f, RowIn.empty (Nat.le_refl _), h⟩
/-- the same where more than the memory is told: any world between -/
def LQ (f : Nat → Option Nat) (n : Nat) (w : World) (A : Option Addr) (w' : World) : Prop := ∃ ys, Tl f n ys ∧ RowIn w' w.heap.size w'.heap.size A ys

/-! a row that is made -/
theorem info_f32k : (Try.prog.info? 34).map (fun i => (i.zero, i.size, i.bytes)) = some (some (.float .f32 0), 1, 4) := by kernel_rfl
theorem run_mk (n : Nat) (hn : n ≤ 1048576) : ∀ W : World, (Instr.makeSlice 22 (.int .i64 (n : Int)) (.int .i64 (n : Int))).run Try.prog W = .ok (.slice (some ⟨W.heap.size, 0, none⟩) n n) (W.alloc (.cells (madeCells #[.float .f32 0] n) 34)) := by
  obtain ⟨i0, hi, hz0, hz1, hz2⟩ := info_parts info_f32k
  have hmk := fun W => run_make_rowF (P := Try.prog) 22 34 i0 (.float .f32 0) Try.underlying22 hi hz0 .i64 .i64 n n (Nat.le_refl _) (by rw [hz2]; omega) (by omega) W
  rw [hz1, Nat.mul_one] at hmk
  exact hmk

/-- a row from a block's head on -/
structure RowH (w : World) (g : Nat) (ws : List Nat) : Prop where
  lt : g < w.heap.size
  cell : ∀ j, j < ws.length → w.cell? ⟨g, j, none⟩ = some (.float .f32 (at0 ws j))
  free : ∀ j, j < ws.length → w.frozen? ⟨g, j, none⟩ = false
theorem RowH.set {w : World} {g k u : Nat} {ws : List Nat} (r : RowH w g ws) (hk : k < ws.length) : RowH (w.setCell ⟨g, k, none⟩ (.float .f32 u)) g (ws.set k u) := by
  refine ⟨by have := r.lt; simpa [World.setCell] using this, fun j hj => ?_, fun j hj => ?_⟩
  · rw [List.length_set] at hj
    rw [at0_put hj]
    by_cases e : j = k
    · subst e
      rw [World.cell?_setCell_same w _ _ (r.cell j hj), if_pos rfl]
    · rw [World.cell?_setCell_other w _ _ _ (by intro h; injection h with _ h2 _; omega), r.cell j hj, if_neg e]
  · rw [List.length_set] at hj
    rw [World.frozen?_setCell]
    exact r.free j hj
theorem RowH.below {w w' : World} {g : Nat} {ws : List Nat} (r : RowH w g ws) (hb : Below w.heap.size w w') : RowH w' g ws :=
  ⟨Nat.lt_of_lt_of_le r.lt hb.size, fun j hj => by rw [hb.cell r.lt]; exact r.cell j hj, fun j hj => by rw [hb.frozen r.lt]; exact r.free j hj⟩
theorem RowH.rowIn {w : World} {g lo : Nat} {ws : List Nat} (r : RowH w g ws) (h : lo ≤ g) : RowIn w lo w.heap.size (some ⟨g, 0, none⟩) ws :=
  ⟨Nat.le_refl _, fun a ha => by injection ha with ha; subst ha; exact ⟨h, r.lt⟩, fun _ => ⟨g, 0, rfl, h, r.lt, fun j hj => by rw [Nat.zero_add]; exact r.cell j hj, fun j hj => by rw [Nat.zero_add]; exact r.free j hj⟩⟩
theorem RowH.row {w : World} {g : Nat} {ws : List Nat} (r : RowH w g ws) : RowF w w.heap.size (some ⟨g, 0, none⟩) ws := (r.rowIn (Nat.zero_le _)).toRow
theorem rowH_new (w : World) (n : Nat) : RowH (w.alloc (.cells (madeCells #[.float .f32 0] n) 34)) w.heap.size (List.replicate n 0) := by
  refine ⟨by simp, fun j hj => ?_, fun j _ => ?_⟩
  · simp at hj
    have h : (madeCells #[.float .f32 0] n)[j]? = some (.float .f32 0) := by simp [madeCells, hj, Nat.mod_one]
    have e : at0 (List.replicate n 0) j = 0 := by simp [at0, List.getD, hj]
    rw [e]
    simp [World.cell?, World.alloc, -World.alloc_eq, h]
  · simp [World.frozen?, World.alloc, -World.alloc_eq]
theorem below_new (w : World) (n : Nat) : Below w.heap.size w (w.alloc (.cells (madeCells #[.float .f32 0] n) 34)) := (Below.refl _ _).alloc (Nat.le_refl _) _
theorem below_put {w w' : World} {X g k u : Nat} (h : Below X w w') (hg : X ≤ g) : Below X w (w'.setCell ⟨g, k, none⟩ (.float .f32 u)) := h.setCell hg _

/-! a row that grows -/
def OwnA (w : World) (G : Nat) (L : List Nat) (g c : Nat) : Prop := w.ownsRow G 34 1 (.slice (some ⟨g, 0, none⟩) L.length c) L.length (L.map (Value.float .f32))
theorem OwnA.of {w : World} {G n : Nat} {v : Value} {L : List Nat} (h : w.ownsRow G 34 1 v n (L.map (Value.float .f32))) (hn : n = L.length) (hv : v ≠ .slice none 0 0) : ∃ g c, v = .slice (some ⟨g, 0, none⟩) L.length c ∧ OwnA w G L g c := by
  subst hn
  rcases h.2 with ⟨h1, _⟩ | ⟨g, cap, cur, rfl, _⟩
  · exact absurd h1 hv
  · exact ⟨g, cap, rfl, h⟩
theorem OwnA.rowIn {w : World} {G g c : Nat} {L : List Nat} (h : OwnA w G L g c) : RowIn w G w.heap.size (some ⟨g, 0, none⟩) L := by
  obtain ⟨h1, h2⟩ := World.ownsRow.lt h g rfl
  refine ⟨Nat.le_refl _, fun a ha => by injection ha with ha; subst ha; exact ⟨h1, h2⟩, fun h0 => ⟨g, 0, rfl, h1, h2, fun j hj => ?_, fun j hj => World.ownsRow.frozenAt h _⟩⟩
  rw [Nat.zero_add, World.ownsRow.cellAt h j (by omega), List.getElem?_map]
  simp [at0, List.getD, hj]
theorem OwnA.lit0 (w : World) : OwnA (w.alloc (.cells #[] 34)) w.heap.size [] w.heap.size 0 := World.ownsRow_lit w #[] 0 (Nat.le_refl _) (by decide) rfl
theorem OwnA.lit1 (w : World) (x : Nat) : OwnA (w.alloc (.cells #[.float .f32 x] 34)) w.heap.size [x] w.heap.size 1 := World.ownsRow_lit w #[.float .f32 x] 1 (Nat.le_refl _) (by decide) rfl
theorem OwnA.below {w w' : World} {G g c : Nat} {L : List Nat} (h : OwnA w G L g c) (hb : Below w.heap.size w w') : OwnA w' G L g c := by
  refine ⟨h.1, ?_⟩
  rcases h.2 with h1 | ⟨g, cap, cur, h0, h2, h3, h4⟩
  · exact .inl h1
  · refine .inr ⟨g, cap, cur, h0, h2, ?_, h4⟩
    have hlt : g < w.heap.size := by
      rcases Nat.lt_or_ge g w.heap.size with h | h
      · exact h
      · rw [Array.getElem?_eq_none h] at h3; cases h3
    rw [hb.block g hlt]; exact h3

end Go.Proofs.Ytnhcmloaanamnaa
