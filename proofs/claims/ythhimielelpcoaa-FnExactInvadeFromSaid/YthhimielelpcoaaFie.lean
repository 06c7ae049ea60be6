/-
  What is proved here: sizes, copies, comparisons, marks and looks of fields, as walks; how a field that came in is read. Conditions: at most 1048576 cells.
-/
import Derived.Test.YthhimielelpcoaaCel
namespace Go.Proofs.Ythhimielelpcoaa
open Go.RowKit Go.ChangeShapes Go.WideShapes
set_option linter.unusedVariables false

/-- what is left behind so many -/
def szN (n left : Nat) : Int := if n ≤ left then (left : Int) - n else -1
theorem szN_lt {n left : Nat} (h : ¬ szN n left < 0) : n ≤ left := by
  unfold szN at h
  split at h
  · assumption
  · omega
theorem szN_no {n left : Nat} (h : szN n left < 0) : ¬ n ≤ left := by
  unfold szN at h
  split at h
  · omega
  · assumption
theorem szN_eq {n left : Nat} (h : n ≤ left) : szN n left = ((left - n : Nat) : Int) := by
  unfold szN
  rw [if_pos h]; omega

theorem szB_is (A : Option Addr) (n c left : Nat) (hl : left ≤ 1048576) (hN : n ≤ 9223372036854775807) (w : World) :
    Calls Try.prog 44 #[.slice A n c, .int .i64 left] w fun e w' => e = .returned (.int .i64 (szN n left)) ∧ w = w' := by
  by_cases h : n ≤ left
  · have N : Hid (szN n left = (left : Int) - n) := if_pos h
    go_enter Try.func44, Try.ntmps44
    go_wp2
    go_ret
    exact ⟨by rw [N.out]; first | rfl | go_num, rfl⟩
  · have N : Hid (szN n left = -1) := if_neg h
    go_enter Try.func44, Try.ntmps44
    go_wp2
    go_ret
    exact ⟨by rw [N.out]; rfl, rfl⟩

theorem szField_is (x y : Int) (A : Option Addr) (n c left : Nat) (hl : left ≤ 1048576) (hN : n ≤ 9223372036854775807) (w : World) :
    Calls Try.prog 9 #[.agg #[.int .i64 x, .int .i64 y, .slice A n c], .int .i64 left] w fun e w' => e = .returned (.int .i64 (szN n left)) ∧ Below w.heap.size w w' := by
  by_cases h : n ≤ left
  · have N : Hid (szN n left = (left : Int) - n) := if_pos h
    have b1 : ¬ szN n left < 0 := by rw [N.out]; omega
    clear h
    go_enter Try.func9, Try.ntmps9
    go_wp2_with fail
    refine (szB_is _ _ _ _ hl hN _).mono ?_
    rintro e w' ⟨rfl, rfl⟩
    go_wp2_with fail
    go_ret
    exact ⟨rfl, (Below.refl _ _).alloc (Nat.le_refl _) _⟩
  · have N : Hid (szN n left = -1) := if_neg h
    have b1 : szN n left < 0 := by rw [N.out]; omega
    clear h
    go_enter Try.func9, Try.ntmps9
    go_wp2_with fail
    refine (szB_is _ _ _ _ hl hN _).mono ?_
    rintro e w' ⟨rfl, rfl⟩
    go_wp2_with fail
    go_ret
    exact ⟨by rw [N.out]; rfl, (Below.refl _ _).alloc (Nat.le_refl _) _⟩

/-- a local variable that holds a field -/
structure VarT (w : World) (v : Nat) (x y : Int) (A : Option Addr) (n c : Nat) : Prop where
  lt : v < w.heap.size
  c0 : w.cell? ⟨v, 0, none⟩ = some (.int .i64 x)
  c1 : w.cell? ⟨v, 1, none⟩ = some (.int .i64 y)
  c2 : w.cell? ⟨v, 2, none⟩ = some (.slice A n c)

theorem varT_new (w : World) (x y : Int) (A : Option Addr) (n c : Nat) (t : TypeId) : VarT (w.alloc (.cells #[.int .i64 x, .int .i64 y, .slice A n c] t)) w.heap.size x y A n c := by
  refine ⟨by simp, ?_, ?_, ?_⟩ <;> simp [World.cell?, World.alloc, -World.alloc_eq]
theorem VarT.but {w w' : World} {v l h : Nat} {x y : Int} {A : Option Addr} {n c : Nat} (r : VarT w v x y A n c) (hb : ButIn l h w w') (hd : v < l ∨ h ≤ v) : VarT w' v x y A n c := by
  have e : w'.heap[v]? = w.heap[v]? := hb.block v r.lt hd
  exact ⟨Nat.lt_of_lt_of_le r.lt hb.size, by rw [World.cell?_of_block (w := w) e]; exact r.c0, by rw [World.cell?_of_block (w := w) e]; exact r.c1, by rw [World.cell?_of_block (w := w) e]; exact r.c2⟩
theorem VarT.below {w w' : World} {v : Nat} {x y : Int} {A : Option Addr} {n c : Nat} (h : VarT w v x y A n c) (hb : Below w.heap.size w w') : VarT w' v x y A n c := h.but (ButIn.of hb) (.inr (Nat.zero_le _))
theorem VarT.drewN {w : World} {v m : Nat} {x y : Int} {A : Option Addr} {n c : Nat} (h : VarT w v x y A n c) : VarT (w.drewN m) v x y A n c := ⟨h.lt, h.c0, h.c1, h.c2⟩
theorem below_var (w : World) (x y : Int) (A : Option Addr) (n c : Nat) (t : TypeId) : Below w.heap.size w (w.alloc (.cells #[.int .i64 x, .int .i64 y, .slice A n c] t)) := (Below.refl _ _).alloc (Nat.le_refl _) _

theorem RowW.other {w : World} {lo hi n : Nat} {A : Option Addr} {V : Nat → Value} (r : RowW w lo hi A n V) {q : Addr} (hq : q.block < lo) (u : Value) : RowW (w.setCell q u) lo hi A n V :=
  r.but ((ButIn.refl q.block (q.block + 1) w).set (Nat.le_refl _) (by omega) u) (.inr (by omega))
theorem RowW.top {w : World} {lo hi n : Nat} {A : Option Addr} {V : Nat → Value} (r : RowW w lo hi A n V) (e : w.heap.size = hi) : RowW w lo w.heap.size A n V := by subst e; exact r

set_option maxHeartbeats 2000000 in
theorem toFie (x y : Int) (A : Option Addr) (n c : Nat) (p : Nat → Bool) (w : World) (hr : RowV w w.heap.size A n (bo p)) (hn : n ≤ 1048576) :
    Calls Try.prog 11 #[.agg #[.int .i64 x, .int .i64 y, .slice A n c]] w fun e w' => ∃ A' c', e = .returned (.agg #[.int .i64 x, .int .i64 y, .slice A' n c']) ∧ Hid (RowW w' w.heap.size w'.heap.size A' n (bo p)) ∧ Hid (Below w.heap.size w w') := by
  have HC := fun (w' : World) (hb : Below w.heap.size w w') => toB A n c p w' (hr.carry hb) hn
  have H := Lib.hid HC
  clear HC hr
  go_enter Try.func11, Try.ntmps11
  have B0 : Hid (Below w.heap.size w (((w.alloc (.cells #[.int .i64 x, .int .i64 y, .slice A n c] 24)).alloc (.cells #[.int .i64 0, .int .i64 0, .slice none 0 0] 26)).alloc (.cells #[.int .i64 x, .int .i64 y, .slice none 0 0] 26))) := (((Below.refl _ _).alloc (Nat.le_refl _) _).alloc (by simp) _).alloc (by simp; omega) _
  go_wp2_with fail
  refine (H.out _ B0.out).mono ?_
  rintro e w2 ⟨A', c', rfl, hR, hb⟩
  have e3 : (((w.alloc (.cells #[.int .i64 x, .int .i64 y, .slice A n c] 24)).alloc (.cells #[.int .i64 0, .int .i64 0, .slice none 0 0] 26)).alloc (.cells #[.int .i64 x, .int .i64 y, .slice none 0 0] 26)).heap.size = w.heap.size + 3 := by simp
  have HR : Hid (RowW w2 (w.heap.size + 3) w2.heap.size A' n (bo p)) := by rw [← e3]; exact hR
  have HB : Hid (Below w.heap.size w w2) := B0.out.trans (hb.out.mono B0.out.size)
  obtain ⟨hc, hf⟩ := bcell hb.out
  have hz : w.heap.size + 2 < w2.heap.size := by have := hb.out.size; rw [e3] at this; omega
  clear hb hR H B0 e3
  go_wp2_with fail
  refine bodyPost_ret (v := .agg #[.int .i64 x, .int .i64 y, .slice A' n c']) (by simp [results, Try.results11, go_sem, hc]) rfl ⟨A', c', rfl, ?_, ?_⟩
  · exact ((((((HR.out.other (by show w.heap.size + 1 + 1 < _; omega) _).other (by show w.heap.size + 1 < _; omega) _).other (by show w.heap.size + 1 < _; omega) _).other (by show w.heap.size + 1 < _; omega) _).top (by simp [World.setCell])).lower (by omega))
  · exact (((HB.out.setCell (by show w.heap.size ≤ w.heap.size + 1 + 1; omega) _).setCell (by show w.heap.size ≤ w.heap.size + 1; omega) _).setCell (by show w.heap.size ≤ w.heap.size + 1; omega) _).setCell (by show w.heap.size ≤ w.heap.size + 1; omega) _

theorem eqFie (x y : Int) (A B : Option Addr) (n c d l1 h1 l2 h2 : Nat) (p : Nat → Bool) (w : World) (hr : RowW w l1 h1 A n (bo p)) (hq : RowW w l2 h2 B n (bo p)) (hn : n ≤ 1048576) :
    Calls Try.prog 13 #[.agg #[.int .i64 x, .int .i64 y, .slice A n c], .agg #[.int .i64 x, .int .i64 y, .slice B n d]] w fun e w' => e = .returned (.bool true) ∧ Hid (Below w.heap.size w w') := by
  have HC := fun (w' : World) (hb : Below w.heap.size w w') => eqB A B n c d w'.heap.size p w' ((hr.below hb).toRow) ((hq.below hb).toRow) hn
  have H := Lib.hid HC
  have B0 : Hid (Below w.heap.size w ((w.alloc (.cells #[.int .i64 x, .int .i64 y, .slice A n c] 26)).alloc (.cells #[.int .i64 x, .int .i64 y, .slice B n d] 26))) := ((Below.refl _ _).alloc (Nat.le_refl _) _).alloc (by simp) _
  clear HC hr hq
  go_enter Try.func13, Try.ntmps13
  go_wp2_with fail
  refine (H.out _ B0.out).mono ?_
  rintro e w' ⟨rfl, n, rfl⟩
  have HB := Lib.hid (belowN (n := n) B0.out)
  clear B0 H
  go_wp2_with fail
  go_ret
  exact ⟨rfl, HB⟩

theorem markFie (x y : Int) (A : Option Addr) (n c m lo hi : Nat) (p : Nat → Bool) (w : World) (hr : RowW w lo hi A n (bo p)) (hn : n ≤ 1048576) (hm : m ≤ 4194304) :
    Calls Try.prog 14 #[.agg #[.int .i64 x, .int .i64 y, .slice A n c], .int .i64 m] w fun e w' => e = .returned (.int .i64 (m + n : Nat)) ∧ Hid (RowW w' lo hi A n (bo (upB m))) ∧ Hid (ButIn lo hi w w') := by
  have B0 := below_var w x y A n c 26
  have HC := markB A n c m lo hi p _ (hr.below B0) hn hm
  have H := Lib.hid HC
  have HB0 := Lib.hid B0
  clear HC hr B0
  go_enter Try.func14, Try.ntmps14
  go_wp2_with fail
  refine H.out.mono ?_
  rintro e w' ⟨rfl, ho, hb⟩
  have HB : Hid (ButIn lo hi w w') := ButIn.after HB0.out hb.out
  clear hb HB0 H
  go_wp2_with fail
  go_ret
  exact ⟨rfl, ho, HB⟩

theorem heldFie (x y : Int) (A : Option Addr) (n c m lo hi : Nat) (w : World) (hr : RowW w lo hi A n (bo (upB m))) (hn : n ≤ 1048576) (hm : m ≤ 4194304) :
    Calls Try.prog 15 #[.agg #[.int .i64 x, .int .i64 y, .slice A n c], .int .i64 m] w fun e w' => e = .returned (.int .i64 (m + n : Nat)) ∧ Hid (Below w.heap.size w w') := by
  have B0 := below_var w x y A n c 26
  have HC := heldB A n c m _ _ ((hr.below B0).toRow) hn hm
  have H := Lib.hid HC
  have HB0 := Lib.hid B0
  clear HC hr B0
  go_enter Try.func15, Try.ntmps15
  go_wp2_with fail
  refine H.out.mono ?_
  rintro e w' ⟨rfl, k, rfl⟩
  have HB := Lib.hid (belowN (n := k) HB0.out)
  clear H HB0
  go_wp2_with fail
  go_ret
  exact ⟨rfl, HB⟩

/-- the cells of a local variable stand behind more memory -/
theorem keepT {W wa wb : World} {v : Nat} {x y : Int} {A : Option Addr} {n c : Nat} (hb : Below wa.heap.size wa wb) (h0 : wa.cell? ⟨v, 0, none⟩ = some (.int .i64 x)) (h1 : wa.cell? ⟨v, 1, none⟩ = some (.int .i64 y)) (h2 : wa.cell? ⟨v, 2, none⟩ = some (.slice A n c)) (hB : Hid (Below W.heap.size W wa)) (hx : v < W.heap.size) :
    wb.cell? ⟨v, 0, none⟩ = some (.int .i64 x) ∧ wb.cell? ⟨v, 1, none⟩ = some (.int .i64 y) ∧ wb.cell? ⟨v, 2, none⟩ = some (.slice A n c) := by
  have := Nat.lt_of_lt_of_le hx hB.out.size
  exact ⟨by rw [hb.cell (p := ⟨v, 0, none⟩) this]; exact h0, by rw [hb.cell (p := ⟨v, 1, none⟩) this]; exact h1, by rw [hb.cell (p := ⟨v, 2, none⟩) this]; exact h2⟩

end Go.Proofs.Ythhimielelpcoaa
