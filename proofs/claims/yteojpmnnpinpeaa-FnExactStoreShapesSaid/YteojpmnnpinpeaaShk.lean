/-
  What is proved here: sizes, copies and comparisons of shapes, as walks; how a shape that came in is read. Conditions: at most 1048576 bytes and cells.
-/
import Derived.Test.YteojpmnnpinpeaaFio
namespace Go.Proofs.Yteojpmnnpinpeaa
open Go.RowKit Go.ChangeShapes Go.WideShapes
set_option linter.unusedVariables false

/-- what is left behind a shape -/
def szS (s : ByteArray) (n left : Nat) : Int := if s.size ≤ left then szN n (left - s.size) else -1
theorem szS_no {s : ByteArray} {n left : Nat} (h : ¬ s.size + n ≤ left) : szS s n left < 0 := by
  unfold szS szN
  split
  · rw [if_neg (by omega)]; omega
  · omega
theorem szS_yes {s : ByteArray} {n left : Nat} (h : s.size + n ≤ left) : ¬ szS s n left < 0 := by
  unfold szS szN
  rw [if_pos (by omega), if_pos (by omega)]
  omega

/-- a local variable that holds a shape -/
structure VarS (w : World) (v : Nat) (s : ByteArray) (x y : Int) (A : Option Addr) (n c : Nat) : Prop where
  lt : v < w.heap.size
  c0 : w.cell? ⟨v, 0, none⟩ = some (.string s)
  c1 : w.cell? ⟨v, 1, none⟩ = some (.int .i64 x)
  c2 : w.cell? ⟨v, 2, none⟩ = some (.int .i64 y)
  c3 : w.cell? ⟨v, 3, none⟩ = some (.slice A n c)
theorem varS_new (w : World) (s : ByteArray) (x y : Int) (A : Option Addr) (n c : Nat) (t : TypeId) : VarS (w.alloc (.cells #[.string s, .int .i64 x, .int .i64 y, .slice A n c] t)) w.heap.size s x y A n c := by
  refine ⟨by simp, ?_, ?_, ?_, ?_⟩ <;> simp [World.cell?, World.alloc, -World.alloc_eq]
theorem VarS.but {w w' : World} {v l h : Nat} {s : ByteArray} {x y : Int} {A : Option Addr} {n c : Nat} (r : VarS w v s x y A n c) (hb : ButIn l h w w') (hd : v < l ∨ h ≤ v) : VarS w' v s x y A n c := by
  have e : w'.heap[v]? = w.heap[v]? := hb.block v r.lt hd
  exact ⟨Nat.lt_of_lt_of_le r.lt hb.size, by rw [World.cell?_of_block (w := w) e]; exact r.c0, by rw [World.cell?_of_block (w := w) e]; exact r.c1, by rw [World.cell?_of_block (w := w) e]; exact r.c2, by rw [World.cell?_of_block (w := w) e]; exact r.c3⟩
theorem VarS.below {w w' : World} {v : Nat} {s : ByteArray} {x y : Int} {A : Option Addr} {n c : Nat} (h : VarS w v s x y A n c) (hb : Below w.heap.size w w') : VarS w' v s x y A n c := h.but (ButIn.of hb) (.inr (Nat.zero_le _))
theorem below_varS (w : World) (s : ByteArray) (x y : Int) (A : Option Addr) (n c : Nat) (t : TypeId) : Below w.heap.size w (w.alloc (.cells #[.string s, .int .i64 x, .int .i64 y, .slice A n c] t)) := (Below.refl _ _).alloc (Nat.le_refl _) _
theorem keepS {W wa wb : World} {v : Nat} {s : ByteArray} {x y : Int} {A : Option Addr} {n c : Nat} (hb : Below wa.heap.size wa wb) (h0 : wa.cell? ⟨v, 0, none⟩ = some (.string s)) (h1 : wa.cell? ⟨v, 1, none⟩ = some (.int .i64 x)) (h2 : wa.cell? ⟨v, 2, none⟩ = some (.int .i64 y)) (h3 : wa.cell? ⟨v, 3, none⟩ = some (.slice A n c)) (hB : Hid (Below W.heap.size W wa)) (hx : v < W.heap.size) :
    wb.cell? ⟨v, 0, none⟩ = some (.string s) ∧ wb.cell? ⟨v, 1, none⟩ = some (.int .i64 x) ∧ wb.cell? ⟨v, 2, none⟩ = some (.int .i64 y) ∧ wb.cell? ⟨v, 3, none⟩ = some (.slice A n c) := by
  have := Nat.lt_of_lt_of_le hx hB.out.size
  exact ⟨by rw [hb.cell (p := ⟨v, 0, none⟩) this]; exact h0, by rw [hb.cell (p := ⟨v, 1, none⟩) this]; exact h1, by rw [hb.cell (p := ⟨v, 2, none⟩) this]; exact h2, by rw [hb.cell (p := ⟨v, 3, none⟩) this]; exact h3⟩

theorem szSha_is (s : ByteArray) (x y : Int) (A : Option Addr) (n c left : Nat) (hl : left ≤ 1048576) (hs : s.size ≤ 9223372036854775807) (hN : n ≤ 9223372036854775807) (w : World) :
    Calls Try.prog 69 #[.agg #[.string s, .int .i64 x, .int .i64 y, .slice A n c], .int .i64 left] w fun e w' => e = .returned (.int .i64 (szS s n left)) ∧ Below w.heap.size w w' := by
  have HB := Lib.hid (below_varS w s x y A n c 101)
  by_cases h1 : s.size ≤ left
  · obtain ⟨l2, rfl⟩ : ∃ l2, left = l2 + s.size := ⟨left - s.size, by omega⟩
    have HZ := Lib.hid (fun W => szField_is x y A n c l2 (by omega) hN W)
    have N : Hid (szS s n (l2 + s.size) = szN n l2) := Lib.hid ((if_pos h1).trans (by rw [Nat.add_sub_cancel]))
    have hw : IntKind.i64.wrap (((l2 + s.size : Nat) : Int) - (s.size : Int)) = (l2 : Int) := by rw [show ((l2 + s.size : Nat) : Int) - (s.size : Int) = (l2 : Int) by omega]; exact IntWalk.i64_in _ (by omega)
    have b0 : ¬ (l2 : Int) < 0 := by omega
    have b1 : Hid (szN n l2 = szN n l2) := rfl
    by_cases h2 : szN n l2 < 0
    · have M : Hid (szN n l2 = -1) := by
        have := szN_no h2
        show szN n l2 = -1
        unfold szN
        rw [if_neg this]
      go_enter Try.func69, Try.ntmps69
      go_wp2_with (go_at_call 20; refine (HZ.out _).mono ?_; rintro e w' ⟨rfl, hb⟩; have HB2 := Lib.hid (HB.out.trans (hb.mono HB.out.size)); clear hb)
      go_ret
      exact ⟨by rw [N.out, M.out]; rfl, HB2.out⟩
    · go_enter Try.func69, Try.ntmps69
      go_wp2_with (go_at_call 20; refine (HZ.out _).mono ?_; rintro e w' ⟨rfl, hb⟩; have HB2 := Lib.hid (HB.out.trans (hb.mono HB.out.size)); clear hb)
      go_ret
      exact ⟨by rw [N.out]; rfl, HB2.out⟩
  · have N : Hid (szS s n left = -1) := Lib.hid (if_neg h1)
    go_enter Try.func69, Try.ntmps69
    go_wp2_with fail
    go_ret
    exact ⟨by rw [N.out]; rfl, HB.out⟩

set_option maxHeartbeats 4000000 in
theorem toSha (s : ByteArray) (x y : Int) (A : Option Addr) (n c : Nat) (p : Nat → Bool) (w : World) (hr : RowV w w.heap.size A n (bo p)) (hn : n ≤ 1048576) :
    Calls Try.prog 71 #[.agg #[.string s, .int .i64 x, .int .i64 y, .slice A n c]] w fun e w' => ∃ A' c', e = .returned (.agg #[.string s, .int .i64 x, .int .i64 y, .slice A' n c']) ∧ Hid (RowW w' w.heap.size w'.heap.size A' n (bo p)) ∧ Hid (Below w.heap.size w w') := by
  have HC := fun (w' : World) (hb : Below w.heap.size w w') => toFie x y A n c p w' (hr.carry hb) hn
  have H := Lib.hid HC
  clear HC hr
  go_enter Try.func71, Try.ntmps71
  have B0 : Hid (Below w.heap.size w (((w.alloc (.cells #[.string s, .int .i64 x, .int .i64 y, .slice A n c] 101)).alloc (.cells #[.string ByteArray.empty, .int .i64 0, .int .i64 0, .slice none 0 0] 103)).alloc (.cells #[.string s, .int .i64 0, .int .i64 0, .slice none 0 0] 103))) := (((Below.refl _ _).alloc (Nat.le_refl _) _).alloc (by simp) _).alloc (by simp; omega) _
  go_wp2_with fail
  refine (H.out _ B0.out).mono ?_
  rintro e w2 ⟨A', c', rfl, hR, hb⟩
  have e3 : (((w.alloc (.cells #[.string s, .int .i64 x, .int .i64 y, .slice A n c] 101)).alloc (.cells #[.string ByteArray.empty, .int .i64 0, .int .i64 0, .slice none 0 0] 103)).alloc (.cells #[.string s, .int .i64 0, .int .i64 0, .slice none 0 0] 103)).heap.size = w.heap.size + 3 := by simp
  have HR : Hid (RowW w2 (w.heap.size + 3) w2.heap.size A' n (bo p)) := by rw [← e3]; exact hR
  have HB : Hid (Below w.heap.size w w2) := B0.out.trans (hb.out.mono B0.out.size)
  obtain ⟨hc, hf⟩ := bcell hb.out
  have hz : w.heap.size + 2 < w2.heap.size := by have := hb.out.size; rw [e3] at this; omega
  clear hb hR H B0 e3
  go_wp2_with fail
  refine bodyPost_ret (v := .agg #[.string s, .int .i64 x, .int .i64 y, .slice A' n c']) (by simp [results, Try.results71, go_sem, hc]) rfl ⟨A', c', rfl, ?_, ?_⟩
  · exact (((((((((HR.out.other (by show w.heap.size + 1 + 1 < _; omega) _).other (by show w.heap.size + 1 + 1 < _; omega) _).other (by show w.heap.size + 1 + 1 < _; omega) _).other (by show w.heap.size + 1 < _; omega) _).other (by show w.heap.size + 1 < _; omega) _).other (by show w.heap.size + 1 < _; omega) _).other (by show w.heap.size + 1 < _; omega) _).top (by simp [World.setCell])).lower (by omega))
  · exact (((((((HB.out.setCell (by show w.heap.size ≤ w.heap.size + 1 + 1; omega) _).setCell (by show w.heap.size ≤ w.heap.size + 1 + 1; omega) _).setCell (by show w.heap.size ≤ w.heap.size + 1 + 1; omega) _).setCell (by show w.heap.size ≤ w.heap.size + 1; omega) _).setCell (by show w.heap.size ≤ w.heap.size + 1; omega) _).setCell (by show w.heap.size ≤ w.heap.size + 1; omega) _).setCell (by show w.heap.size ≤ w.heap.size + 1; omega) _)

theorem eqSha (s : ByteArray) (x y : Int) (A B : Option Addr) (n c d l1 h1 l2 h2 : Nat) (p : Nat → Bool) (w : World) (hr : RowW w l1 h1 A n (bo p)) (hq : RowW w l2 h2 B n (bo p)) (hn : n ≤ 1048576) :
    Calls Try.prog 74 #[.agg #[.string s, .int .i64 x, .int .i64 y, .slice A n c], .agg #[.string s, .int .i64 x, .int .i64 y, .slice B n d]] w fun e w' => e = .returned (.bool true) ∧ Hid (Below w.heap.size w w') := by
  have B0 : Below w.heap.size w ((w.alloc (.cells #[.string s, .int .i64 x, .int .i64 y, .slice A n c] 103)).alloc (.cells #[.string s, .int .i64 x, .int .i64 y, .slice B n d] 103)) := ((Below.refl _ _).alloc (Nat.le_refl _) _).alloc (by simp) _
  have H := Lib.hid (eqFie x y A B n c d l1 h1 l2 h2 p _ (hr.below B0) (hq.below B0) hn)
  have HB := Lib.hid B0
  clear B0 hr hq
  go_enter Try.func74, Try.ntmps74
  go_wp2_with fail
  refine H.out.mono ?_
  rintro e w' ⟨rfl, hb⟩
  have HB2 := Lib.hid (HB.out.trans (hb.out.mono HB.out.size))
  clear hb H HB
  go_wp2_with fail
  go_ret
  exact ⟨rfl, HB2⟩

/-- what is known of a shape that came in -/
structure ShapeIn (w : World) (s : ByteArray) (x y : Int) (A : Option Addr) (n : Nat) (p : Nat → Bool) : Prop where
  row : RowV w w.heap.size A n (bo p)
  small : n ≤ 9223372036854775807
  text : s.size ≤ 9223372036854775807
  wide : (Lit.int .i64 x).wf = true
  high : (Lit.int .i64 y).wf = true

set_option maxRecDepth 1000000 in
theorem open_shape {H : Type} {enc : TypeId × Value → H} {w : World} {spare : Nat → Bool} {held : Bool} {r : Reach} {b0 : Nat} {v : Value} {d : DataW H} {p : List MemPlace}
    (hv : Value.okWide Try.prog w r b0 101 v) (h : DataW.Trod enc Try.prog w 0 spare held 101 v d p) :
    ∃ s x y A n c zs, v = .agg #[.string s, .int .i64 x, .int .i64 y, .slice A n c] ∧ ShapeIn w s x y A n zs := by
  obtain ⟨cs, rfl, hsz⟩ := okWide_struct Try.underlying101 hv
  obtain ⟨c0, c1, c2, c3, rfl⟩ := Go.Joins.array4 (hsz.trans (by kernel_rfl))
  obtain ⟨fuel, hf⟩ := h
  obtain ⟨y0, y1, n, _, _, h0, h1⟩ := trod_struct2 Try.underlying101 hf
  have k0 : Try.prog.cellsOf 9 = 1 := by kernel_rfl
  have k1 : Try.prog.cellsOf 30 = 3 := by kernel_rfl
  simp only [k0, k1, Value.cells, List.drop, List.take] at h0 h1
  obtain ⟨z0, z1, z2, m, _, _, t0, t1, t2⟩ := Go.Deep.trod_struct3 Try.underlying30 h1
  have k2 : Try.prog.cellsOf 2 = 1 := by kernel_rfl
  have k3 : Try.prog.cellsOf 28 = 1 := by kernel_rfl
  simp only [k2, k3, List.drop, List.take] at t0 t1 t2
  obtain ⟨s, hs, _, ss⟩ := DataW.trod_string Try.underlying9 h0
  obtain ⟨x, hx, _, wx⟩ := DataW.trod_int Try.underlying2 t0
  obtain ⟨y, hy, _, wy⟩ := DataW.trod_int Try.underlying2 t1
  simp only [List.cons.injEq, and_true] at hs hx hy
  subst hs hx hy
  have hsl : ∃ A n c, c3 = .slice A n c := by
    rcases Go.Deep.open_slice1 Try.underlying28 (by kernel_rfl) t2 with ⟨hcs, _⟩ | ⟨a, l, c, m, n, V, D, Pl, hcs, _⟩
    · simp only [List.cons.injEq, and_true] at hcs
      exact ⟨_, _, _, hcs⟩
    · simp only [List.cons.injEq, and_true] at hcs
      exact ⟨_, _, _, hcs⟩
  obtain ⟨A, n, c, rfl⟩ := hsl
  obtain ⟨zs, hrow, hsm⟩ := open_bls Try.underlying28 Try.underlying4 (by kernel_rfl) ⟨m, t2⟩
  exact ⟨s, x, y, A, n, c, zs, rfl, hrow, hsm, by unfold maxLen at ss; omega, wx, wy⟩

end Go.Proofs.Yteojpmnnpinpeaa
