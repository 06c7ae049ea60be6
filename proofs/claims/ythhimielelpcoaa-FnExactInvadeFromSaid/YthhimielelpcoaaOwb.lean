/-
  What is proved here: copies of fields, of both packages, as walks. Conditions: at least one cell and at most 1048576.
-/
import Derived.Test.YthhimielelpcoaaFdr
import Derived.Deep.RegionHeld3
import Derived.Deep.AppendLies
import Derived.Deep.RegionHeldLaw
namespace Go.Proofs.Ythhimielelpcoaa
open Go.RowKit
attribute [local go_sem] run_store_bool
set_option linter.unusedVariables false

theorem map_one {n : Nat} {p : Nat → Bool} : ∀ u ∈ (List.range n).map (bo p), u.oneCell' = true := by
  intro u hu
  obtain ⟨z, _, rfl⟩ := List.mem_map.1 hu
  rfl
theorem news_of {w W : World} {b off n : Nat} {p : Nat → Bool} (hb : b < w.heap.size) (hc : ∀ j, j < n → w.cell? ⟨b, off + j, none⟩ = some (bo p j)) (h : Below w.heap.size w W) :
    ∀ j u, ((List.range n).map (bo p))[j]? = some u → W.cell? ((⟨b, off, none⟩ : Addr).add j) = some u := by
  intro j u hu
  rw [List.getElem?_map] at hu
  rcases Nat.lt_or_ge j n with hj | hj
  · rw [List.getElem?_eq_getElem (by simpa using hj)] at hu
    simp at hu
    subst hu
    rw [Go.WideShapes.add_plain, h.cell (p := ⟨b, off + j, none⟩) hb, hc j hj]
  · rw [List.getElem?_eq_none (by simpa using hj)] at hu; cases hu
/-- what a row owns is a row of cells -/
theorem owns_row {w : World} {G g c n : Nat} {p : Nat → Bool} (h : w.ownsRow G 4 1 (.slice (some ⟨g, 0, none⟩) n c) n ((List.range n).map (bo p))) : RowW w G w.heap.size (some ⟨g, 0, none⟩) n (bo p) := by
  obtain ⟨h1, h2⟩ := World.ownsRow.lt h g rfl
  refine ⟨Nat.le_refl _, fun a ha => by injection ha with ha; subst ha; exact ⟨h1, h2⟩, fun h0 => ⟨g, 0, rfl, h1, h2, fun j hj => ?_, fun j hj => World.ownsRow.frozenAt h _⟩⟩
  rw [Nat.zero_add, World.ownsRow.cellAt h j (by omega), List.getElem?_map]
  simp [hj]
theorem RowW.setLow {w : World} {lo n : Nat} {A : Option Addr} {V : Nat → Value} (r : RowW w lo w.heap.size A n V) {q : Addr} (hq : q.block < lo) (u : Value) : RowW (w.setCell q u) lo (w.setCell q u).heap.size A n V := by
  have es : (w.setCell q u).heap.size = w.heap.size := by simp [World.setCell]
  rw [es]
  exact r.other hq u


/-- what a cell holds -/
def rd (w : World) (a : Addr) : Value := match w.cell? a with | some v => v | none => .bool false
theorem rd_of {w : World} {a : Addr} {v : Value} (h : w.cell? a = some v) : w.cell? a = some (rd w a) := by unfold rd; rw [h]

/-- what stands of two variables while one of them is written: the first one's cells, that the second one has cells that may be written, and all that lies lower -/
structure Two (b : World) (X Y : Nat) (x y : Int) (A : Option Addr) (n c : Nat) (w : World) : Prop where
  xy : X < Y
  yb : Y < w.heap.size
  lo : Below Y b w
  c0 : w.cell? ⟨X, 0, none⟩ = some (.int .i64 x)
  c1 : w.cell? ⟨X, 1, none⟩ = some (.int .i64 y)
  c2 : w.cell? ⟨X, 2, none⟩ = some (.slice A n c)
  d0 : w.cell? ⟨Y, 0, none⟩ = some (rd w ⟨Y, 0, none⟩)
  d1 : w.cell? ⟨Y, 1, none⟩ = some (rd w ⟨Y, 1, none⟩)
  d2 : w.cell? ⟨Y, 2, none⟩ = some (rd w ⟨Y, 2, none⟩)
  f0 : w.frozen? ⟨Y, 0, none⟩ = false
  f1 : w.frozen? ⟨Y, 1, none⟩ = false
  f2 : w.frozen? ⟨Y, 2, none⟩ = false

theorem Two.below {b w w' : World} {X Y n c : Nat} {x y : Int} {A : Option Addr} (h : Two b X Y x y A n c w) (hb : Below w.heap.size w w') : Two b X Y x y A n c w' := by
  have hX : X < w.heap.size := Nat.lt_trans h.xy h.yb
  refine ⟨h.xy, Nat.lt_of_lt_of_le h.yb hb.size, h.lo.trans (hb.mono (Nat.le_of_lt h.yb)), ?_, ?_, ?_, ?_, ?_, ?_, ?_, ?_, ?_⟩
  · rw [hb.cell (p := ⟨X, 0, none⟩) hX]; exact h.c0
  · rw [hb.cell (p := ⟨X, 1, none⟩) hX]; exact h.c1
  · rw [hb.cell (p := ⟨X, 2, none⟩) hX]; exact h.c2
  · exact rd_of ((hb.cell (p := ⟨Y, 0, none⟩) h.yb).trans h.d0)
  · exact rd_of ((hb.cell (p := ⟨Y, 1, none⟩) h.yb).trans h.d1)
  · exact rd_of ((hb.cell (p := ⟨Y, 2, none⟩) h.yb).trans h.d2)
  · rw [hb.frozen (p := ⟨Y, 0, none⟩) h.yb]; exact h.f0
  · rw [hb.frozen (p := ⟨Y, 1, none⟩) h.yb]; exact h.f1
  · rw [hb.frozen (p := ⟨Y, 2, none⟩) h.yb]; exact h.f2

theorem Two.set {b w : World} {X Y n c k : Nat} {x y : Int} {A : Option Addr} (h : Two b X Y x y A n c w) (hk : k = 0 ∨ k = 1 ∨ k = 2) (u : Value) : Two b X Y x y A n c (w.setCell ⟨Y, k, none⟩ u) := by
  have far : ∀ j, (⟨Y, k, none⟩ : Addr) ≠ ⟨X, j, none⟩ := fun j e => by injection e with e _ _; have := h.xy; omega
  have near : ∀ j v, w.cell? ⟨Y, j, none⟩ = some v → (w.setCell ⟨Y, k, none⟩ u).cell? ⟨Y, j, none⟩ = some (rd (w.setCell ⟨Y, k, none⟩ u) ⟨Y, j, none⟩) := fun j v hv => by
    by_cases e : j = k
    · subst e
      exact rd_of (World.cell?_setCell_same w _ _ hv)
    · exact rd_of ((World.cell?_setCell_other w _ _ _ (by intro h; injection h with _ h2 _; omega)).trans hv)
  refine ⟨h.xy, by have := h.yb; simpa [World.setCell] using this, h.lo.setCell (Nat.le_refl _) _, ?_, ?_, ?_, near 0 _ h.d0, near 1 _ h.d1, near 2 _ h.d2, ?_, ?_, ?_⟩
  · rw [World.cell?_setCell_other w _ _ _ (far 0)]; exact h.c0
  · rw [World.cell?_setCell_other w _ _ _ (far 1)]; exact h.c1
  · rw [World.cell?_setCell_other w _ _ _ (far 2)]; exact h.c2
  · rw [World.frozen?_setCell]; exact h.f0
  · rw [World.frozen?_setCell]; exact h.f1
  · rw [World.frozen?_setCell]; exact h.f2

/-- .. as the walk wants it -/
def TwoS (b : World) (X Y : Nat) (x y : Int) (A : Option Addr) (n c : Nat) (w : World) : Prop :=
  w.cell? ⟨X, 0, none⟩ = some (.int .i64 x) ∧ w.cell? ⟨X, 1, none⟩ = some (.int .i64 y) ∧ w.cell? ⟨X, 2, none⟩ = some (.slice A n c) ∧ w.cell? ⟨Y, 0, none⟩ = some (rd w ⟨Y, 0, none⟩) ∧ w.cell? ⟨Y, 1, none⟩ = some (rd w ⟨Y, 1, none⟩) ∧ w.cell? ⟨Y, 2, none⟩ = some (rd w ⟨Y, 2, none⟩) ∧ w.frozen? ⟨Y, 0, none⟩ = false ∧ w.frozen? ⟨Y, 1, none⟩ = false ∧ w.frozen? ⟨Y, 2, none⟩ = false ∧ Hid (Two b X Y x y A n c w)
theorem Two.s {b w : World} {X Y n c : Nat} {x y : Int} {A : Option Addr} (h : Two b X Y x y A n c w) : TwoS b X Y x y A n c w := ⟨h.c0, h.c1, h.c2, h.d0, h.d1, h.d2, h.f0, h.f1, h.f2, h⟩


theorem grown_below {w w' : World} {k L : Nat} (h : w.grownBy w' (some k)) (hL : L ≤ k) (hs : L ≤ w.heap.size) : Below L w w' :=
  ⟨h.os, h.tape, h.output, h.size, fun j hj => h.block j (by omega) (by intro e; injection e with e; omega)⟩
theorem Two.chg {b w w' : World} {X Y n c : Nat} {x y : Int} {A : Option Addr} (h : Two b X Y x y A n c w) (hb : Below (Y + 1) w w') : Two b X Y x y A n c w' := by
  have hX : X < Y + 1 := Nat.lt_succ_of_lt h.xy
  have hY : Y < Y + 1 := Nat.lt_succ_self Y
  refine ⟨h.xy, Nat.lt_of_lt_of_le h.yb hb.size, h.lo.trans (hb.mono (Nat.le_succ Y)), ?_, ?_, ?_, ?_, ?_, ?_, ?_, ?_, ?_⟩
  · rw [hb.cell (p := ⟨X, 0, none⟩) hX]; exact h.c0
  · rw [hb.cell (p := ⟨X, 1, none⟩) hX]; exact h.c1
  · rw [hb.cell (p := ⟨X, 2, none⟩) hX]; exact h.c2
  · exact rd_of ((hb.cell (p := ⟨Y, 0, none⟩) hY).trans h.d0)
  · exact rd_of ((hb.cell (p := ⟨Y, 1, none⟩) hY).trans h.d1)
  · exact rd_of ((hb.cell (p := ⟨Y, 2, none⟩) hY).trans h.d2)
  · rw [hb.frozen (p := ⟨Y, 0, none⟩) hY]; exact h.f0
  · rw [hb.frozen (p := ⟨Y, 1, none⟩) hY]; exact h.f1
  · rw [hb.frozen (p := ⟨Y, 2, none⟩) hY]; exact h.f2

set_option maxHeartbeats 8000000 in
set_option maxRecDepth 1000000 in
theorem own_is (v : Nat) (x y : Int) (A : Option Addr) (c : Nat) (n : Nat) (p : Nat → Bool) (w : World) (V : VarT w v x y A n c) (hr : RowV w w.heap.size A n (bo p)) (h0 : 0 < n) (hn : n ≤ 1048576) :
    Calls Try.prog 48 #[.pointer (some ⟨v, 0, none⟩)] w fun e w' => ∃ g c', e = .returned (.agg #[.int .i64 x, .int .i64 y, .slice (some ⟨g, 0, none⟩) n c']) ∧ Hid (RowW w' (w.heap.size + 1) w'.heap.size (some ⟨g, 0, none⟩) n (bo p)) ∧ Hid (Below w.heap.size w w') := by
  obtain ⟨i0, hi, hz0, hz1, hz2⟩ := info_parts info_bool
  have HI := Lib.hid (And.intro hi (And.intro hz0 (And.intro hz1 hz2)))
  obtain ⟨b0, off, rfl, hbb, hc⟩ := hr h0
  have H0 := Lib.hid h0
  have M1 : Hid (0 + n ≤ maxLen) := by show _ ≤ _; unfold maxLen; omega
  have M2 : Hid ((0 + n) * 1 ≤ 140737488355328) := by show _ ≤ _; omega
  have B2 : Below w.heap.size w (w.alloc (.cells #[.int .i64 0, .int .i64 0, .slice none 0 0] 26)) := (Below.refl _ _).alloc (Nat.le_refl _) _
  obtain ⟨d0, d1, d2, f0, f1, f2⟩ := fresh3 w (.int .i64 0) (.int .i64 0) (.slice none 0 0) 26
  obtain ⟨c0, c1, c2⟩ := keepT (W := w) B2 V.c0 V.c1 V.c2 (show Hid (Below w.heap.size w w) from Below.refl _ _) V.lt
  have T0 : Two (w.alloc (.cells #[.int .i64 0, .int .i64 0, .slice none 0 0] 26)) v w.heap.size x y (some ⟨b0, off, none⟩) n c (w.alloc (.cells #[.int .i64 0, .int .i64 0, .slice none 0 0] 26)) := ⟨V.lt, by simp, Below.refl _ _, c0, c1, c2, rd_of d0, rd_of d1, rd_of d2, f0, f1, f2⟩
  have T1 : Hid (Two (w.alloc (.cells #[.int .i64 0, .int .i64 0, .slice none 0 0] 26)) v w.heap.size x y (some ⟨b0, off, none⟩) n c (w.alloc (.cells #[.int .i64 0, .int .i64 0, .slice none 0 0] 26)).drew) := T0.below (Below.refl _ _).drew
  have HN : Hid (∀ W, Below w.heap.size w W → ∀ j u, ((List.range n).map (bo p))[j]? = some u → W.cell? ((⟨b0, off, none⟩ : Addr).add j) = some u) := fun W h => news_of hbb hc h
  have HB := Lib.hid B2
  have E2 : Hid (w.heap.size + 1 = (w.alloc (.cells #[.int .i64 0, .int .i64 0, .slice none 0 0] 26)).heap.size) := by show _ = _; simp
  have s0 := T0.d0
  have s1 := T0.d1
  have s2 := T0.d2
  clear hi hz0 hz1 hz2 hr hc hbb h0 V B2 d0 d1 d2 T0
  go_enter Try.func48, Try.ntmps48
  go_wp2_with fail
  generalize w.alloc (.cells #[.int .i64 0, .int .i64 0, .slice none 0 0] 26) = b at *
  generalize hX : w.heap.size = Y at *
  have HX := Lib.hid hX
  clear hX
  have OW : Hid (∀ W : World, Y + 1 ≤ W.heap.size → (W.alloc (.cells #[] 4)).ownsRow (Y + 1) 4 1 (.slice (some ⟨W.heap.size, 0, none⟩) 0 0) 0 []) := fun W h => World.ownsRow_lit W #[] 0 h (by decide) rfl
  go_region_held_law (fun w' => w'.cell? ⟨v, 0, none⟩ = some (.int .i64 x) ∧ w'.cell? ⟨v, 1, none⟩ = some (.int .i64 y) ∧ w'.cell? ⟨v, 2, none⟩ = some (.slice (some ⟨b0, off, none⟩) n c) ∧ w'.cell? ⟨Y, 0, none⟩ = some (rd w' ⟨Y, 0, none⟩) ∧ w'.cell? ⟨Y, 1, none⟩ = some (rd w' ⟨Y, 1, none⟩) ∧ w'.cell? ⟨Y, 2, none⟩ = some (rd w' ⟨Y, 2, none⟩) ∧ w'.frozen? ⟨Y, 0, none⟩ = false ∧ w'.frozen? ⟨Y, 1, none⟩ = false ∧ w'.frozen? ⟨Y, 2, none⟩ = false ∧ Hid (Two b v Y x y (some ⟨b0, off, none⟩) n c w')) (first | (exact ⟨by assumption, by assumption, by assumption, by assumption, by assumption, by assumption, by assumption, by assumption, by assumption, by assumption⟩) | (exact ((((Hid.out (‹Hid (Two b v Y x y (some ⟨b0, off, none⟩) n c _)›)).set (.inl rfl) _).set (.inr (.inl rfl)) _).set (.inr (.inr rfl)) _).s) | (exact ((Hid.out (‹Hid (Two b v Y x y (some ⟨b0, off, none⟩) n c _)›)).below ((Below.refl _ _).alloc (Nat.le_refl _) _)).s) | go_keep)
    ((refine step_append_lies _ rfl _ _ 22 rfl (Y + 1) 4 i0 (.bool false) 1 1 Try.underlying22 HI.out.1 HI.out.2.1 HI.out.2.2.1 HI.out.2.2.2 rfl (by decide) _ 0 [] (by simp [Act.eval]) (OW.out _ T1.out.yb) ⟨b0, off, none⟩ n c ((List.range n).map (bo p)) (by simp [Act.eval]) (by simp) (HN.out _ (HB.out.trans ((T1.out.below ((Below.refl _ _).alloc (Nat.le_refl _) _)).lo))) map_one H0.out M1.out M2.out (Nat.le_trans (Nat.succ_le_of_lt T1.out.yb) (by simp)) _ rfl ?_; intro g cap w1 hown hgrow hat hlt; simp only [Nat.zero_add, List.nil_append] at hown; have RC := Lib.hid (owns_row hown); have KC := Lib.hid ((T1.out.below ((Below.refl _ _).alloc (Nat.le_refl _) _)).chg (grown_below (k := b.drew.heap.size) hgrow (Nat.succ_le_of_lt T1.out.yb) (Nat.le_trans (Nat.succ_le_of_lt T1.out.yb) (by simp)))); obtain ⟨p0, p1, p2, q0, q1, q2, r0, r1, r2, _⟩ := KC.out.s; clear hown hgrow hat hlt))
  rename_i hh
  clear hh
  have T3 := Lib.hid (((KC.out.set (.inl rfl) (.int .i64 x)).set (.inr (.inl rfl)) (.int .i64 y)).set (.inr (.inr rfl)) (.slice (some ⟨g, 0, none⟩) n cap))
  have g3 : Hid (Y < Y + 1) := Nat.lt_succ_self Y
  clear KC T1 p0 p1 p2 c0 c1 c2 f0 f1 f2 s0 s1 s2 OW HN
  go_wp2_with fail
  refine bodyPost_ret (v := .agg #[.int .i64 x, .int .i64 y, .slice (some ⟨g, 0, none⟩) n cap]) (by simp [results, Try.results48, go_sem, q0, q1, q2]) rfl ⟨g, cap, rfl, ?_, ?_⟩
  · rw [HX.out]
    exact ((RC.out.setLow g3.out _).setLow g3.out _).setLow g3.out _
  · rw [HX.out]
    exact HB.out.trans T3.out.lo

end Go.Proofs.Ythhimielelpcoaa
