/-
  What is proved here: GrowEdge of the program, as a walk. Conditions: a valid field, at most 512 rounds, a seed.
-/
import Derived.Test.YthhimielelpcoaaEdx
import Derived.Test.YthhimielelpcoaaFcn
import Derived.Deep.CutRange
namespace Go.Proofs.Ythhimielelpcoaa
open Go.RowKit
attribute [local go_sem] run_store_bool
set_option linter.unusedVariables false
set_option linter.unusedSimpArgs false
set_option linter.unnecessarySimpa false

/-- a fresh variable that holds no front yet -/
structure Zg (w : World) (v : Nat) : Prop where
  lt : v < w.heap.size
  c0 : w.cell? ⟨v, 0, none⟩ = some (.int .i64 0)
  c1 : w.cell? ⟨v, 1, none⟩ = some (.int .i64 0)
  c2 : w.cell? ⟨v, 2, none⟩ = some (.slice none 0 0)
  c3 : w.cell? ⟨v, 3, none⟩ = some (.map none)
  f0 : w.frozen? ⟨v, 0, none⟩ = false
  f1 : w.frozen? ⟨v, 1, none⟩ = false
  f2 : w.frozen? ⟨v, 2, none⟩ = false
  f3 : w.frozen? ⟨v, 3, none⟩ = false
theorem cell_alG {W : World} {a : Addr} {u : Value} (o : Obj) (h : W.cell? a = some u) : (W.alloc o).cell? a = some u := by rw [World.cell?_alloc_some _ _ _ (by rw [h]; rfl)]; exact h
theorem Zg.of {w : World} {v : Nat} (r : RowM w v 4 (gV (.int .i64 0) (.int .i64 0) (.slice none 0 0) (.map none))) : Zg w v :=
  ⟨r.lt, r.cell 0 (by omega), r.cell 1 (by omega), r.cell 2 (by omega), r.cell 3 (by omega), r.free 0 (by omega), r.free 1 (by omega), r.free 2 (by omega), r.free 3 (by omega)⟩
theorem Zg.keep {w w' : World} {v : Nat} (hb : Below w.heap.size w w') (h : Zg w v) : Zg w' v :=
  ⟨Nat.lt_of_lt_of_le h.lt hb.size, by rw [hb.cell (p := ⟨v, 0, none⟩) h.lt]; exact h.c0, by rw [hb.cell (p := ⟨v, 1, none⟩) h.lt]; exact h.c1, by rw [hb.cell (p := ⟨v, 2, none⟩) h.lt]; exact h.c2, by rw [hb.cell (p := ⟨v, 3, none⟩) h.lt]; exact h.c3, by rw [hb.frozen (p := ⟨v, 0, none⟩) h.lt]; exact h.f0, by rw [hb.frozen (p := ⟨v, 1, none⟩) h.lt]; exact h.f1, by rw [hb.frozen (p := ⟨v, 2, none⟩) h.lt]; exact h.f2, by rw [hb.frozen (p := ⟨v, 3, none⟩) h.lt]; exact h.f3⟩
theorem Zg.new {w w' : World} {t : TypeId} (hb : Below (w.alloc (.cells #[.int .i64 0, .int .i64 0, .slice none 0 0, .map none] t)).heap.size (w.alloc (.cells #[.int .i64 0, .int .i64 0, .slice none 0 0, .map none] t)) w') : Zg w' w.heap.size :=
  Zg.keep hb (Zg.of (rowG_new w _ _ _ _ _))
theorem Zg.newd {w w' : World} {t : TypeId} (hb : Below (w.alloc (.cells #[.int .i64 0, .int .i64 0, .slice none 0 0, .map none] t)).drew.heap.size (w.alloc (.cells #[.int .i64 0, .int .i64 0, .slice none 0 0, .map none] t)).drew w') : Zg w' w.heap.size :=
  Zg.new (((Below.refl _ _).drew).trans hb)
theorem cell_s4G {W : World} {b o v : Nat} {u a0 a1 a2 a3 : Value} (h : W.cell? ⟨b, o, none⟩ = some u) (hne : b ≠ v) : ((((W.setCell ⟨v, 0, none⟩ a0).setCell ⟨v, 1, none⟩ a1).setCell ⟨v, 2, none⟩ a2).setCell ⟨v, 3, none⟩ a3).cell? ⟨b, o, none⟩ = some u := by
  rw [World.cell?_setCell_other _ _ _ _ (by intro h; injection h with h1 _ _; exact hne h1.symm), World.cell?_setCell_other _ _ _ _ (by intro h; injection h with h1 _ _; exact hne h1.symm), World.cell?_setCell_other _ _ _ _ (by intro h; injection h with h1 _ _; exact hne h1.symm), World.cell?_setCell_other _ _ _ _ (by intro h; injection h with h1 _ _; exact hne h1.symm)]
  exact h
theorem hb_s4G {w W : World} {v : Nat} {a0 a1 a2 a3 : Value} (h : Hid (Below w.heap.size w W)) (hv : w.heap.size ≤ v) : Hid (Below w.heap.size w ((((W.setCell ⟨v, 0, none⟩ a0).setCell ⟨v, 1, none⟩ a1).setCell ⟨v, 2, none⟩ a2).setCell ⟨v, 3, none⟩ a3)) := (((h.out.setCell hv _).setCell hv _).setCell hv _).setCell hv _
theorem cell_aldG {W : World} {a : Addr} {u : Value} (o : Obj) (h : W.cell? a = some u) : (W.alloc o).drew.cell? a = some u := cell_alG o h
theorem hb_alG {w W : World} (o : Obj) (h : Hid (Below w.heap.size w W)) : Hid (Below w.heap.size w (W.alloc o)) := h.out.alloc h.out.size _
theorem hb_aldG {w W : World} (o : Obj) (h : Hid (Below w.heap.size w W)) : Hid (Below w.heap.size w (W.alloc o).drew) := (h.out.alloc h.out.size _).drew
/-- the front lies ready, in a variable beside its memory -/
def EdR (w2 : World) (x y : Int) (n : Nat) (p : Nat → Bool) (s : Value) (wc : World) : Prop :=
  ∃ V FB B lo hi, s = .pointer (some ⟨V, 0, none⟩) ∧ w2.heap.size ≤ V ∧ w2.heap.size ≤ lo ∧ lo ≤ FB ∧ FB < hi ∧ lo ≤ B ∧ B < hi ∧ hi ≤ wc.heap.size ∧ (V < lo ∨ hi ≤ V) ∧ FB ≠ B ∧ Hid (VarG wc V x y FB n n B) ∧ Hid (Frt wc FB B 1024 x y n p) ∧ Hid (Below w2.heap.size w2 wc)
theorem Frt.heap {w w' : World} {FB B m n : Nat} {x y : Int} {q : Nat → Bool} (r : Frt w FB B m x y n q) (e1 : w'.heap[FB]? = w.heap[FB]?) (e2 : w'.heap[B]? = w.heap[B]?) : Frt w' FB B m x y n q := ⟨r.row.heap e1, r.ed.heap e2⟩
theorem edr_new {w2 w5 : World} {x y : Int} {n FB B : Nat} {p : Nat → Bool} {t : TypeId} (hn : (n : Int) = x * y) (hx : 1 ≤ x) (hl : (fulL p n).length ≤ 256) (hne : FB ≠ B) (h1 : w2.heap.size ≤ FB) (h2 : w2.heap.size ≤ B) (hF : Hid (Frt w5 FB B (4 * (fulL p n).length) x y n (frQ (fulL p n)))) (hb : Hid (Below w2.heap.size w2 w5)) :
    EdR w2 x y n p (.pointer (some ⟨w5.heap.size, 0, none⟩)) (w5.alloc (.cells #[.int .i64 x, .int .i64 y, .slice (some ⟨FB, 0, none⟩) n n, .map (some B)] t)) := by
  have bb : Below w5.heap.size w5 (w5.alloc (.cells #[.int .i64 x, .int .i64 y, .slice (some ⟨FB, 0, none⟩) n n, .map (some B)] t)) := (Below.refl _ _).alloc (Nat.le_refl _) _
  exact ⟨w5.heap.size, FB, B, w2.heap.size, w5.heap.size, rfl, hb.out.size, Nat.le_refl _, h1, hF.out.row.lt, h2, hF.out.ed.lt, bb.size, .inr (Nat.le_refl _), hne, varG_new _ _ _ _ _ _ _ _, ((hF.out.below bb).start hx hn).mono (by omega), hb.out.trans (bb.mono hb.out.size)⟩
theorem edr_old {w2 w5 : World} {x y : Int} {n FB B V : Nat} {p : Nat → Bool} (hn : (n : Int) = x * y) (hx : 1 ≤ x) (hl : (fulL p n).length ≤ 256) (hne : FB ≠ B) (h0 : w2.heap.size ≤ V) (h1 : V < FB) (h2 : V < B) (Z : Hid (Zg w5 V)) (hF : Hid (Frt w5 FB B (4 * (fulL p n).length) x y n (frQ (fulL p n)))) (hb : Hid (Below w2.heap.size w2 w5)) :
    EdR w2 x y n p (.pointer (some ⟨V, 0, none⟩)) ((((w5.setCell ⟨V, 0, none⟩ (.int .i64 x)).setCell ⟨V, 1, none⟩ (.int .i64 y)).setCell ⟨V, 2, none⟩ (.slice (some ⟨FB, 0, none⟩) n n)).setCell ⟨V, 3, none⟩ (.map (some B))) := by
  have r : RowM w5 V 4 (gV (.int .i64 0) (.int .i64 0) (.slice none 0 0) (.map none)) := ⟨Z.out.lt, fun j hj => by
    match j, hj with
    | 0, _ => exact Z.out.c0
    | 1, _ => exact Z.out.c1
    | 2, _ => exact Z.out.c2
    | 3, _ => exact Z.out.c3, fun j hj => by
    match j, hj with
    | 0, _ => exact Z.out.f0
    | 1, _ => exact Z.out.f1
    | 2, _ => exact Z.out.f2
    | 3, _ => exact Z.out.f3⟩
  have R := r.set4 (.int .i64 x) (.int .i64 y) (.slice (some ⟨FB, 0, none⟩) n n) (.map (some B))
  have I9 : ButIn V (V + 1) w5 ((((w5.setCell ⟨V, 0, none⟩ (.int .i64 x)).setCell ⟨V, 1, none⟩ (.int .i64 y)).setCell ⟨V, 2, none⟩ (.slice (some ⟨FB, 0, none⟩) n n)).setCell ⟨V, 3, none⟩ (.map (some B))) :=
    ((((ButIn.refl V (V + 1) w5).set (q := ⟨V, 0, none⟩) (Nat.le_refl _) (Nat.lt_succ_self _) _).set (q := ⟨V, 1, none⟩) (Nat.le_refl _) (Nat.lt_succ_self _) _).set (q := ⟨V, 2, none⟩) (Nat.le_refl _) (Nat.lt_succ_self _) _).set (q := ⟨V, 3, none⟩) (Nat.le_refl _) (Nat.lt_succ_self _) _
  generalize (((w5.setCell ⟨V, 0, none⟩ (.int .i64 x)).setCell ⟨V, 1, none⟩ (.int .i64 y)).setCell ⟨V, 2, none⟩ (.slice (some ⟨FB, 0, none⟩) n n)).setCell ⟨V, 3, none⟩ (.map (some B)) = w6 at *
  exact ⟨V, FB, B, V + 1, w5.heap.size, rfl, h0, by omega, h1, hF.out.row.lt, h2, hF.out.ed.lt, I9.size, .inl (Nat.lt_succ_self _), hne,
    ⟨R.lt, R.cell 0 (by omega), R.cell 1 (by omega), R.cell 2 (by omega), R.cell 3 (by omega)⟩,
    ((hF.out.heap (I9.block _ hF.out.row.lt (.inr (by omega))) (I9.block _ hF.out.ed.lt (.inr (by omega)))).start hx hn).mono (by omega),
    hb.out.trans (I9.toBelow h0 hb.out.size)⟩
set_option maxHeartbeats 16000000 in
set_option maxRecDepth 1000000 in
theorem implGrYes (x y : Int) (A : Option Addr) (n c : Nat) (p : Nat → Bool) (cn : Nat) (s : Int) (w : World) (hr : RowV w w.heap.size A n (bo p)) (hn : n ≤ 1048576) (hv : fvB x y n = true) (hc : cn ≤ 512) (h0 : 0 ≤ s) (h1 : s ≤ 2147483647) :
    Calls Try.prog 12 #[.agg #[.int .i64 x, .int .i64 y, .slice A n c], .int .i64 (cn : Nat), .int .i64 s] w (GrPost x y n p s cn w) := by
  have hn1 := (fvB_yes hv).2.2.1
  have hn2 := (fvB_yes hv).2.2.2
  have HNN := Lib.hid (fvB_yes hv).2.1
  have HSD0 : Hid (sidB x y = true) := by
    unfold fvB at hv
    rw [Bool.and_eq_true] at hv
    exact hv.1
  have HXX : Hid (1 ≤ x) := (fvB_yes hv).1.1.1
  have HSB := Lib.hid (grJ_seed (x := x) (y := y) (n := n) (p := p) ⟨h0, h1⟩)
  have HFU : Hid (∀ W, RowV W W.heap.size A n (bo p) → Calls Try.prog 56 #[.agg #[.int .i64 x, .int .i64 y, .slice A n c]] W fun e w' => ∃ A' c', e = .returned (.slice A' (fulL p n).length c') ∧ Hid (GroI w' W.heap.size (fulL p n) A' c') ∧ Hid (Below W.heap.size W w')) := fun W hW => implFull x y A n c p W hW (by omega)
  have B1 := below_var w x y A n c 26
  have V0 := varT_new w x y A n c 26
  have hsz : (w.alloc (.cells #[.int .i64 x, .int .i64 y, .slice A n c] 26)).heap.size = w.heap.size + 1 := by simp
  have B2 := below_var (w.alloc (.cells #[.int .i64 x, .int .i64 y, .slice A n c] 26)) 0 0 none 0 0 26
  have V1 := V0.below B2
  obtain ⟨d0, d1, d2, f0, f1, f2⟩ := fresh3 (w.alloc (.cells #[.int .i64 x, .int .i64 y, .slice A n c] 26)) (.int .i64 0) (.int .i64 0) (.slice none 0 0) 26
  rw [hsz] at d0 d1 d2 f0 f1 f2
  have hlt2 : w.heap.size + 1 < ((w.alloc (.cells #[.int .i64 x, .int .i64 y, .slice A n c] 26)).alloc (.cells #[.int .i64 0, .int .i64 0, .slice none 0 0] 26)).heap.size := by simp
  have HB := Lib.hid (B1.trans (B2.mono B1.size))
  have HV1 := Lib.hid V1
  have HRES := Lib.hid (And.intro d0 (And.intro d1 (And.intro d2 (And.intro f0 (And.intro f1 f2)))))
  have HIN := Lib.hid (fun (a : Nat) (W : World) (h : a ≤ 512) => within_any (a : Int) 0 512 W)
  have HIN : Hid (∀ (a : Nat) (W : World), a ≤ 512 → Calls Try.prog 53 #[.int .i64 (a : Nat), .int .i64 0, .int .i64 512] W fun e w' => e = .returned (.bool true) ∧ W = w') := fun a W h => by
    have := HIN.out a W h
    rwa [inB_in (by omega) (by omega)] at this
  have HSD := Lib.hid (fun W => implSeed s W)
  rw [show seedB s = true from inB_in h0 h1] at HSD
  have HC := Lib.hid (fun W => implValid x y A n c W hn)
  rw [hv] at HC
  have HR := Lib.hid hr
  clear hr V0 V1 B1 B2 d0 d1 d2 f0 f1 f2 hsz hv h0 h1
  go_enter Try.func12, Try.ntmps12
  go_wp2_with fail
  generalize ((w.alloc (.cells #[.int .i64 x, .int .i64 y, .slice A n c] 26)).alloc (.cells #[.int .i64 0, .int .i64 0, .slice none 0 0] 26)) = b at *
  have c0 := HV1.out.c0
  have c1 := HV1.out.c1
  have c2 := HV1.out.c2
  go_wp2_with (go_at_call 53; refine (HIN.out _ _ (by omega)).mono ?_; rintro e w' ⟨rfl, rfl⟩)
  clear c0 c1 c2
  refine (HC.out b).mono ?_
  rintro e w2 ⟨rfl, hb1⟩
  have HB2 := Lib.hid (HB.out.trans (hb1.out.mono HB.out.size))
  have HK2 := Lib.hid hb1.out
  have V2 := HV1.out.below hb1.out
  have c0 := V2.c0
  have c1 := V2.c1
  have c2 := V2.c2
  clear hb1 HC
  go_wp2_with (go_at_call 54; refine (HSD.out _).mono ?_; rintro e w' ⟨rfl, rfl⟩)
  go_wp2_with (first | (go_at_call 53; refine (HIN.out _ _ (by omega)).mono ?_; rintro e w' ⟨rfl, rfl⟩) | (go_at_call 54; refine (HSD.out _).mono ?_; rintro e w' ⟨rfl, rfl⟩))
  have HFO : Hid (∀ (A4 : Option Addr) (c4 G : Nat) (W : World), GroI W G (fulL p n) A4 c4 → Calls Try.prog 55 #[.int .i64 x, .int .i64 y, .slice A4 (fulL p n).length c4] W fun e w' => ∃ FB B, e = .returned (.agg #[.int .i64 x, .int .i64 y, .slice (some ⟨FB, 0, none⟩) n n, .map (some B)]) ∧ FB ≠ B ∧ W.heap.size ≤ FB ∧ W.heap.size ≤ B ∧ Hid (Frt w' FB B (4 * (fulL p n).length) x y n (frQ (fulL p n))) ∧ Hid (Below W.heap.size W w')) := fun A4 c4 G W hO =>
    implFro x y n G c4 (fulL p n) A4 W HSD0.out HNN.out (fun a ha => by obtain ⟨i, h1, h2, _⟩ := fulL_mem.1 ha; omega) (by rw [fulL_len]; have := fulN_le p n; omega) hO
  have R2 : RowV w2 w2.heap.size A n (bo p) := (HR.out.below HB2.out).mono HB2.out.size
  have hl2 := V2.lt
  have HLL : (fulL p n).length ≤ 256 := by rw [fulL_len]; have := fulN_le p n; omega
  go_cut [9] from 27 to 33 (fun s wc => EdR w2 x y n p s wc)
  case first =>
    have K0 : Hid (Below w2.heap.size w2 w2.drew) := (Below.refl _ _).drew
    have K00 : Hid (Below w2.heap.size w2 w2) := Below.refl _ _
    have dd0 : w2.drew.cell? ⟨w.heap.size, 0, none⟩ = some (.int .i64 x) := c0
    have dd1 : w2.drew.cell? ⟨w.heap.size, 1, none⟩ = some (.int .i64 y) := c1
    have dd2 : w2.drew.cell? ⟨w.heap.size, 2, none⟩ = some (.slice A n c) := c2
    have de0 : (w2.alloc (.cells #[.int .i64 0, .int .i64 0, .slice none 0 0, .map none] 89)).drew.cell? ⟨w.heap.size, 0, none⟩ = some (.int .i64 x) := cell_alG _ c0
    have de1 : (w2.alloc (.cells #[.int .i64 0, .int .i64 0, .slice none 0 0, .map none] 89)).drew.cell? ⟨w.heap.size, 1, none⟩ = some (.int .i64 y) := cell_alG _ c1
    have de2 : (w2.alloc (.cells #[.int .i64 0, .int .i64 0, .slice none 0 0, .map none] 89)).drew.cell? ⟨w.heap.size, 2, none⟩ = some (.slice A n c) := cell_alG _ c2
    clear HK2 HRES HSB HB HB2
    go_region_held3 (fun w' => w'.cell? ⟨w.heap.size, 0, none⟩ = some (.int .i64 x) ∧ w'.cell? ⟨w.heap.size, 1, none⟩ = some (.int .i64 y) ∧ w'.cell? ⟨w.heap.size, 2, none⟩ = some (.slice A n c) ∧ Hid (Below w2.heap.size w2 w')) (first | (with_reducible exact ⟨by assumption, by assumption, by assumption, by assumption⟩) | (with_reducible exact ⟨cell_alG _ (by assumption), cell_alG _ (by assumption), cell_alG _ (by assumption), hb_alG _ (by assumption)⟩) | (with_reducible exact ⟨cell_s4G (by assumption) (by omega), cell_s4G (by assumption) (by omega), cell_s4G (by assumption) (by omega), hb_s4G (by assumption) (by omega)⟩) | (refine ⟨?_, ?_, ?_, ?_⟩ <;> (first | (with_reducible assumption) | (with_reducible exact cell_alG _ (by assumption)) | (with_reducible exact hb_alG _ (by assumption)) | (with_reducible exact cell_aldG _ (by assumption)) | (with_reducible exact hb_aldG _ (by assumption)))) | go_keep)
    (first
      | ((go_at_call 56; (with_reducible refine (HFU.out _ (R2.carry ((show Hid (Below w2.heap.size w2 _) by first | (with_reducible assumption) | (with_reducible exact hb_alG _ (by assumption)) | (with_reducible exact hb_aldG _ (by assumption)) | assumption).out))).mono ?_); rintro e w4 ⟨A4, c4, rfl, hO4, hb4⟩; have K4 := Lib.hid ((show Hid (Below w2.heap.size w2 _) by first | (with_reducible assumption) | (with_reducible exact hb_alG _ (by assumption)) | (with_reducible exact hb_aldG _ (by assumption)) | assumption).out.trans (hb4.out.mono (show Hid (Below w2.heap.size w2 _) by first | (with_reducible assumption) | (with_reducible exact hb_alG _ (by assumption)) | (with_reducible exact hb_aldG _ (by assumption)) | assumption).out.size)); have k4s := K4.out.size; obtain ⟨e0, e1, e2⟩ := keepT (v := w.heap.size) hb4.out (by first | (with_reducible assumption) | (with_reducible exact cell_alG _ (by assumption)) | (with_reducible exact hb_alG _ (by assumption)) | (with_reducible exact hb_aldG _ (by assumption)) | assumption) (by first | (with_reducible assumption) | (with_reducible exact cell_alG _ (by assumption)) | (with_reducible exact hb_alG _ (by assumption)) | (with_reducible exact hb_aldG _ (by assumption)) | assumption) (by first | (with_reducible assumption) | (with_reducible exact cell_alG _ (by assumption)) | (with_reducible exact hb_alG _ (by assumption)) | (with_reducible exact hb_aldG _ (by assumption)) | assumption) (by first | (with_reducible assumption) | (with_reducible exact cell_alG _ (by assumption)) | (with_reducible exact hb_alG _ (by assumption)) | (with_reducible exact hb_aldG _ (by assumption)) | assumption) hl2; (try have Z := Lib.hid (Zg.keep hb4.out (by with_reducible assumption : Hid (Zg _ _)).out)); (try have Z := Lib.hid (Zg.new hb4.out)); (try have Z := Lib.hid (Zg.newd hb4.out)); (try have z0 := Z.out.c0); (try have z1 := Z.out.c1); (try have z2 := Z.out.c2); (try have z3 := Z.out.c3); (try have zf0 := Z.out.f0); (try have zf1 := Z.out.f1); (try have zf2 := Z.out.f2); (try have zf3 := Z.out.f3); (try have zl := Z.out.lt)))
      | ((go_at_call 55; (with_reducible refine (HFO.out _ _ _ _ (by first | exact (‹Hid (GroI _ _ (fulL p n) A4 c4)›).out | exact (‹Hid (GroI _ _ (fulL p n) A4 c4)›).out.below ((Below.refl _ _).alloc (Nat.le_refl _) _))).mono ?_); rintro e w5 ⟨FB, B, rfl, hne, hlF, hlB, hF5, hb5⟩; have K5 := Lib.hid ((show Hid (Below w2.heap.size w2 _) by first | (with_reducible assumption) | (with_reducible exact hb_alG _ (by assumption)) | (with_reducible exact hb_aldG _ (by assumption)) | assumption).out.trans (hb5.out.mono (show Hid (Below w2.heap.size w2 _) by first | (with_reducible assumption) | (with_reducible exact hb_alG _ (by assumption)) | (with_reducible exact hb_aldG _ (by assumption)) | assumption).out.size)); obtain ⟨g0, g1, g2⟩ := keepT (v := w.heap.size) hb5.out (by first | (with_reducible assumption) | (with_reducible exact cell_alG _ (by assumption)) | (with_reducible exact hb_alG _ (by assumption)) | (with_reducible exact hb_aldG _ (by assumption)) | assumption) (by first | (with_reducible assumption) | (with_reducible exact cell_alG _ (by assumption)) | (with_reducible exact hb_alG _ (by assumption)) | (with_reducible exact hb_aldG _ (by assumption)) | assumption) (by first | (with_reducible assumption) | (with_reducible exact cell_alG _ (by assumption)) | (with_reducible exact hb_alG _ (by assumption)) | (with_reducible exact hb_aldG _ (by assumption)) | assumption) (by first | (with_reducible assumption) | (with_reducible exact cell_alG _ (by assumption)) | (with_reducible exact hb_alG _ (by assumption)) | (with_reducible exact hb_aldG _ (by assumption)) | assumption) hl2; (try have Z := Lib.hid (Zg.keep hb5.out (by with_reducible assumption : Hid (Zg _ _)).out)); (try have Z := Lib.hid (Zg.new hb5.out)); (try have Z := Lib.hid (Zg.newd hb5.out)); (try have z0 := Z.out.c0); (try have z1 := Z.out.c1); (try have z2 := Z.out.c2); (try have z3 := Z.out.c3); (try have zf0 := Z.out.f0); (try have zf1 := Z.out.f1); (try have zf2 := Z.out.f2); (try have zf3 := Z.out.f3); (try have zl := Z.out.lt))))
    all_goals
      go_wp2_with fail
      go_meet
      case rel => first | (with_reducible exact edr_new HNN.out HXX.out HLL hne (by omega) (by omega) hF5 K5) | exact edr_old HNN.out HXX.out HLL hne (by omega) (by first | omega | (simp at hlF; omega)) (by first | omega | (simp at hlB; omega)) Z hF5 K5
  case rest =>
    obtain ⟨V, FB, B, lo, hi, rfl, hlV, hll, n1, n2, n3, n4, n5, n6, n7, hV, hF, hbc⟩ := hcut
    have HBW : Hid (Below w.heap.size w w2) := HB2
    have hbw : w.heap.size + 2 ≤ w2.heap.size := Nat.le_trans hlt2 HK2.out.size
    clear HFU HFO R2 HB2 HB hl2
    go_wp2_with fail
    go_loopw [2, 35] (fun sd ix wr => ∃ k : Nat, k ≤ cn ∧ ix = .int .i64 k ∧ sd = .int .i64 (grJ x y n p s k).2 ∧ grB x y n p s k = true ∧ hi ≤ wr.heap.size ∧ Hid (VarG wr V x y FB n n B) ∧ Hid (Frt wr FB B (1024 + 4 * k) x y n (grJ x y n p s k).1) ∧ Hid (Below w2.heap.size w2 wr)) (fun _ ix _ => cn - (intOf ix).toNat)
    case atStart => exact ⟨0, Nat.zero_le _, rfl, rfl, rfl, n5, hV, hF, hbc⟩
    case round =>
      clear hV hF hbc
      obtain ⟨k, hrk, rfl, rfl, hgb, hh, hV, hF, hB⟩ := hrel
      have HGB := Lib.hid hgb
      have hsd := HSB.out k
      clear hgb
      by_cases hlt : k < cn
      · have hlti : (k : Int) < (cn : Int) := by omega
        have HCE : Hid (Calls Try.prog 57 #[.agg #[.int .i64 x, .int .i64 y, .slice (some ⟨FB, 0, none⟩) n n, .map (some B)]] wr fun e w' => ∃ A c, e = .returned (.slice A (edL x y n (grJ x y n p s k).1).length c) ∧ Hid (GroI w' wr.heap.size (edL x y n (grJ x y n p s k).1) A c) ∧ Hid (Below wr.heap.size wr w')) := implCes x y (some ⟨FB, 0, none⟩) n n n (1024 + 4 * k) B (edg x y (grJ x y n p s k).1) wr hF.out.ed (by omega)
        have v0 := hV.out.c0
        have v1 := hV.out.c1
        have v2 := hV.out.c2
        have v3 := hV.out.c3
        go_wp2_with fail
        refine HCE.out.mono ?_
        rintro e w5 ⟨A5, c5, rfl, hO, hb5⟩
        have V5 := Lib.hid (hV.out.heap (hb5.out.block _ hV.out.lt))
        have F5 := Lib.hid (hF.out.below hb5.out)
        have B5 : Hid (Below w2.heap.size w2 w5) := hB.out.trans (hb5.out.mono hB.out.size)
        have hh5 : hi ≤ w5.heap.size := Nat.le_trans hh hb5.out.size
        have hXO : wr.heap.size ≤ w5.heap.size := hb5.out.size
        have hlB := hV.out.lt
        clear v0 v1 v2 v3 hV hF hB hb5 HCE
        by_cases hl0 : (edL x y n (grJ x y n p s k).1).length = 0
        · have hbad : Hid (grB x y n p s cn = false) := grB_stop hl0 hlt
          obtain ⟨d0, d1, d2, f0, f1, f2⟩ := HRES.out
          have q0 := ((HK2.out.trans (B5.out.mono HK2.out.size)).cell (p := ⟨w.heap.size + 1, 0, none⟩) hlt2).trans d0
          have q1 := ((HK2.out.trans (B5.out.mono HK2.out.size)).cell (p := ⟨w.heap.size + 1, 1, none⟩) hlt2).trans d1
          have q2 := ((HK2.out.trans (B5.out.mono HK2.out.size)).cell (p := ⟨w.heap.size + 1, 2, none⟩) hlt2).trans d2
          have g0 := ((HK2.out.trans (B5.out.mono HK2.out.size)).frozen (p := ⟨w.heap.size + 1, 0, none⟩) hlt2).trans f0
          have g1 := ((HK2.out.trans (B5.out.mono HK2.out.size)).frozen (p := ⟨w.heap.size + 1, 1, none⟩) hlt2).trans f1
          have g2 := ((HK2.out.trans (B5.out.mono HK2.out.size)).frozen (p := ⟨w.heap.size + 1, 2, none⟩) hlt2).trans f2
          have HBF : Hid (Below w.heap.size w w5) := HBW.out.trans (B5.out.mono HBW.out.size)
          clear d0 d1 d2 f0 f1 f2 HRES
          rw [hl0]
          go_wp2_with fail
          refine bodyPost_ret (v := .tuple #[.agg #[.int .i64 0, .int .i64 0, .slice none 0 0], .int .i64 0, .bool false]) (by simp [results, Try.results12, go_sem, q0, q1, q2]) rfl ?_
          exact ⟨store3 HBF.out (Nat.le_succ _) (.int .i64 0) (.int .i64 0) (.slice none 0 0), .inr ⟨hbad.out, rfl⟩⟩
        · have hpos : 0 < (edL x y n (grJ x y n p s k).1).length := by omega
          have hgo : Hid (grB x y n p s (k + 1) = true) := grB_go HGB.out hpos
          have hle : (edL x y n (grJ x y n p s k).1).length ≤ 256 := by show (fulL _ _).length ≤ _; rw [fulL_len]; have := fulN_le (edg x y (grJ x y n p s k).1) n; omega
          have hdb := drawS_bd (grJ x y n p s k).2 (n := ((edL x y n (grJ x y n p s k).1).length : Int)) (by omega)
          obtain ⟨hcc, hat⟩ := edC_lt (s := (grJ x y n p s k).2) hpos hdb
          have HNX : Hid ((grJ x y n p s (k + 1)).2 = nextS (grJ x y n p s k).2) := rfl
          have HFI := Lib.hid (fun (W : World) (h : hi ≤ W.heap.size) (hF : Frt W FB B (1024 + 4 * k) x y n (grJ x y n p s k).1) => implFilR x y n n (1024 + 4 * k) FB B lo hi k p s W HSD0.out HNN.out (by omega) n1 n2 n3 n4 n7 h hpos hF)
          have HDR := Lib.hid (fun W => implDraw (grJ x y n p s k).2 ((edL x y n (grJ x y n p s k).1).length : Int) hsd.1 hsd.2 (by omega) (by omega) W)
          obtain ⟨j, hj⟩ : ∃ j : Nat, drawS (grJ x y n p s k).2 ((edL x y n (grJ x y n p s k).1).length : Int) = (j : Int) := ⟨_, (Int.toNat_of_nonneg hdb.1).symm⟩
          rw [hj] at hdb hat HDR
          rw [Int.toNat_natCast] at hat
          have hjl : j < (edL x y n (grJ x y n p s k).1).length := by omega
          have hO2 : Hid (GroI w5 wr.heap.size (edL x y n (grJ x y n p s k).1) A5 c5) := hO
          have hne : ¬ ((edL x y n (grJ x y n p s k).1).length : Int) = 0 := by omega
          obtain ⟨lg, rfl⟩ := hO2.out.adr hjl
          have hcl := hO2.out.at hjl
          rw [hat] at hcl
          have v0 := V5.out.c0
          have v1 := V5.out.c1
          have v2 := V5.out.c2
          have v3 := V5.out.c3
          clear hO hat hj hl0 hpos hdb hsd HSB HGB HBW HRES hlt2 HSD0 HNN
          generalize edC x y n (grJ x y n p s k).1 (grJ x y n p s k).2 = cc at *
          generalize edL x y n (grJ x y n p s k).1 = ll at *
          go_wp2_with (go_at_call 58; refine (HDR.out _).mono ?_; rintro e wj ⟨rfl, m1, rfl⟩)
          go_region_with (go_at_call 59; refine (HFI.out _ (by exact hh5) (by exact F5.out.heap rfl rfl)).mono ?_; rintro e w6 ⟨rfl, hF6, hI6⟩)
          all_goals
            have V6 : Hid (VarG w6 V x y FB n n B) := V5.out.heap (hI6.out.block V V5.out.lt n6)
            have F6 : Hid (Frt w6 FB B (1024 + 4 * (k + 1)) x y n (grJ x y n p s (k + 1)).1) := hF6.out.mono (by omega)
            have B6 : Hid (Below w2.heap.size w2 w6) := Below.trans (by first | exact belowN B5.out | exact (belowN B5.out).drew) (hI6.out.toBelow hll B5.out.size)
            have h6 : hi ≤ w6.heap.size := Nat.le_trans hh5 hI6.out.size
            clear V5 F5 hF6 hI6 B5 v0 v1 v2 v3 hcl HFI
            go_wp2_with fail
            go_roundw
            case rel => exact ⟨k + 1, by omega, by go_num, by rw [HNX.out], hgo.out, h6, V6, F6, B6⟩
            case measure => simp [intOf]; omega
      · obtain rfl : k = cn := by omega
        obtain ⟨d0, d1, d2, f0, f1, f2⟩ := HRES.out
        have q0 := ((HK2.out.trans (hB.out.mono HK2.out.size)).cell (p := ⟨w.heap.size + 1, 0, none⟩) hlt2).trans d0
        have q1 := ((HK2.out.trans (hB.out.mono HK2.out.size)).cell (p := ⟨w.heap.size + 1, 1, none⟩) hlt2).trans d1
        have q2 := ((HK2.out.trans (hB.out.mono HK2.out.size)).cell (p := ⟨w.heap.size + 1, 2, none⟩) hlt2).trans d2
        have g0 := ((HK2.out.trans (hB.out.mono HK2.out.size)).frozen (p := ⟨w.heap.size + 1, 0, none⟩) hlt2).trans f0
        have g1 := ((HK2.out.trans (hB.out.mono HK2.out.size)).frozen (p := ⟨w.heap.size + 1, 1, none⟩) hlt2).trans f1
        have g2 := ((HK2.out.trans (hB.out.mono HK2.out.size)).frozen (p := ⟨w.heap.size + 1, 2, none⟩) hlt2).trans f2
        have HBF : Hid (Below w.heap.size w wr) := HBW.out.trans (hB.out.mono HBW.out.size)
        have R9 : Hid (RowW wr (w.heap.size + 2) wr.heap.size (some ⟨FB, 0, none⟩) n (bo (grJ x y n p s k).1)) := hF.out.row.rowW (by omega)
        have v0 := hV.out.c0
        have v1 := hV.out.c1
        have v2 := hV.out.c2
        have HX3 := Lib.hid hbw
        clear d0 d1 d2 f0 f1 f2 HRES hF hV hB HSB hsd hbw n1 n2 n3 n4 n5 n6 hh
        go_wp2_with fail
        refine bodyPost_ret (v := .tuple #[.agg #[.int .i64 x, .int .i64 y, .slice (some ⟨FB, 0, none⟩) n n], .int .i64 (grJ x y n p s k).2, .bool true]) (by simp [results, Try.results12, go_sem, q0, q1, q2]) rfl ?_
        have a1 := ((R9.out.store3 (Y := w.heap.size + 1) (by omega) (.int .i64 x) (.int .i64 y) (.slice (some ⟨FB, 0, none⟩) n n)).upper (hi' := (((wr.setCell ⟨w.heap.size + 1, 0, none⟩ (.int .i64 x)).setCell ⟨w.heap.size + 1, 1, none⟩ (.int .i64 y)).setCell ⟨w.heap.size + 1, 2, none⟩ (.slice (some ⟨FB, 0, none⟩) n n)).heap.size) (by have := R9.out.le; simpa [World.setCell] using this) (Nat.le_refl _)).lower (lo' := w.heap.size) (by omega)
        have a2 := store3 HBF.out (Nat.le_succ _) (.int .i64 x) (.int .i64 y) (.slice (some ⟨FB, 0, none⟩) n n)
        exact ⟨a2, .inl ⟨HGB.out, some ⟨FB, 0, none⟩, n, rfl, a1⟩⟩
end Go.Proofs.Ythhimielelpcoaa
