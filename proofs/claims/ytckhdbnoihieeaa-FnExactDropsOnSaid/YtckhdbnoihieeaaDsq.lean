/-
  What is proved here: DropsOn, of the program, as a walk. Conditions: at most 1048576 heights.
-/
import Derived.Test.YtckhdbnoihieeaaDro
import Derived.Test.YtckhdbnoihieeaaDsp
namespace Go.Proofs.Ytckhdbnoihieeaa
open Flt Go.RowKit
attribute [local go_sem] run_store_float
set_option linter.unusedVariables false

/-- a variable that may be written -/
structure VarU (w : World) (v : Nat) (x y : Int) (A : Option Addr) (n c : Nat) : Prop where
  var : VarT w v x y A n c
  f0 : w.frozen? ⟨v, 0, none⟩ = false
  f1 : w.frozen? ⟨v, 1, none⟩ = false
  f2 : w.frozen? ⟨v, 2, none⟩ = false
theorem VarU.new (w : World) (x y : Int) (A : Option Addr) (n c : Nat) (t : TypeId) : VarU (w.alloc (.cells #[.int .i64 x, .int .i64 y, .slice A n c] t)) w.heap.size x y A n c := by
  obtain ⟨d0, d1, d2, f0, f1, f2⟩ := fresh3 w (.int .i64 x) (.int .i64 y) (.slice A n c) t
  exact ⟨varT_new w x y A n c t, f0, f1, f2⟩
theorem VarU.but {w w' : World} {v l h : Nat} {x y : Int} {A : Option Addr} {n c : Nat} (r : VarU w v x y A n c) (hb : ButIn l h w w') (hd : v < l ∨ h ≤ v) : VarU w' v x y A n c := by
  have e : w'.heap[v]? = w.heap[v]? := hb.block v r.var.lt hd
  exact ⟨r.var.but hb hd, by rw [World.frozen?_of_block (w := w) e]; exact r.f0, by rw [World.frozen?_of_block (w := w) e]; exact r.f1, by rw [World.frozen?_of_block (w := w) e]; exact r.f2⟩
theorem VarU.set {w : World} {v : Nat} {x y x' y' : Int} {A A' : Option Addr} {n c n' c' : Nat} (r : VarU w v x y A n c) : VarU (((w.setCell ⟨v, 0, none⟩ (.int .i64 x')).setCell ⟨v, 1, none⟩ (.int .i64 y')).setCell ⟨v, 2, none⟩ (.slice A' n' c')) v x' y' A' n' c' := by
  have n01 : (⟨v, 0, none⟩ : Addr) ≠ ⟨v, 1, none⟩ := by intro h; injection h with _ h2 _; omega
  have n02 : (⟨v, 0, none⟩ : Addr) ≠ ⟨v, 2, none⟩ := by intro h; injection h with _ h2 _; omega
  have n12 : (⟨v, 1, none⟩ : Addr) ≠ ⟨v, 2, none⟩ := by intro h; injection h with _ h2 _; omega
  have e1 : (w.setCell ⟨v, 0, none⟩ (.int .i64 x')).cell? ⟨v, 1, none⟩ = some (.int .i64 y) := by rw [World.cell?_setCell_other _ _ _ _ n01]; exact r.var.c1
  have e2 : ((w.setCell ⟨v, 0, none⟩ (.int .i64 x')).setCell ⟨v, 1, none⟩ (.int .i64 y')).cell? ⟨v, 2, none⟩ = some (.slice A n c) := by rw [World.cell?_setCell_other _ _ _ _ n12, World.cell?_setCell_other _ _ _ _ n02]; exact r.var.c2
  refine ⟨⟨by have := r.var.lt; simpa [World.setCell] using this, ?_, ?_, ?_⟩, by rw [World.frozen?_setCell, World.frozen?_setCell, World.frozen?_setCell]; exact r.f0, by rw [World.frozen?_setCell, World.frozen?_setCell, World.frozen?_setCell]; exact r.f1, by rw [World.frozen?_setCell, World.frozen?_setCell, World.frozen?_setCell]; exact r.f2⟩
  · rw [World.cell?_setCell_other _ _ _ _ n02.symm, World.cell?_setCell_other _ _ _ _ n01.symm, World.cell?_setCell_same w _ _ r.var.c0]
  · rw [World.cell?_setCell_other _ _ _ _ n12.symm, World.cell?_setCell_same _ _ _ e1]
  · rw [World.cell?_setCell_same _ _ _ e2]
theorem ButIn.set3 {w : World} {v : Nat} (u0 u1 u2 : Value) : ButIn v (v + 1) w (((w.setCell ⟨v, 0, none⟩ u0).setCell ⟨v, 1, none⟩ u1).setCell ⟨v, 2, none⟩ u2) :=
  (((ButIn.refl v (v + 1) w).set (q := ⟨v, 0, none⟩) (Nat.le_refl _) (Nat.lt_succ_self _) u0).set (q := ⟨v, 1, none⟩) (Nat.le_refl _) (Nat.lt_succ_self _) u1).set (q := ⟨v, 2, none⟩) (Nat.le_refl _) (Nat.lt_succ_self _) u2
theorem ButIn.wide {l h l' h' : Nat} {w w' : World} (b : ButIn l h w w') (h1 : l' ≤ l) (h2 : h ≤ h') : ButIn l' h' w w' := ⟨b.os, b.tape, b.output, b.size, fun k hk hd => b.block k hk (by omega)⟩
/-- a cell that holds a seed -/
structure SeedC (w : World) (v : Nat) (s : Int) : Prop where
  lt : v < w.heap.size
  c : w.cell? ⟨v, 0, none⟩ = some (.int .i64 s)
  f : w.frozen? ⟨v, 0, none⟩ = false
theorem SeedC.but {w w' : World} {v l h : Nat} {s : Int} (r : SeedC w v s) (hb : ButIn l h w w') (hd : v < l ∨ h ≤ v) : SeedC w' v s := by
  have e : w'.heap[v]? = w.heap[v]? := hb.block v r.lt hd
  exact ⟨Nat.lt_of_lt_of_le r.lt hb.size, by rw [World.cell?_of_block (w := w) e]; exact r.c, by rw [World.frozen?_of_block (w := w) e]; exact r.f⟩
theorem drops_new (w : World) (x y s : Int) (A : Option Addr) (n c : Nat) (t u r : TypeId) :
    Two (((w.alloc (.cells #[.int .i64 x, .int .i64 y, .slice A n c] t)).alloc (.cells #[.int .i64 s] u)).alloc (.cells #[.int .i64 0, .int .i64 0, .slice none 0 0] r)) w.heap.size (w.heap.size + 2) x y A n c (((w.alloc (.cells #[.int .i64 x, .int .i64 y, .slice A n c] t)).alloc (.cells #[.int .i64 s] u)).alloc (.cells #[.int .i64 0, .int .i64 0, .slice none 0 0] r)) ∧
      SeedC (((w.alloc (.cells #[.int .i64 x, .int .i64 y, .slice A n c] t)).alloc (.cells #[.int .i64 s] u)).alloc (.cells #[.int .i64 0, .int .i64 0, .slice none 0 0] r)) (w.heap.size + 1) s ∧
      VarU (((w.alloc (.cells #[.int .i64 x, .int .i64 y, .slice A n c] t)).alloc (.cells #[.int .i64 s] u)).alloc (.cells #[.int .i64 0, .int .i64 0, .slice none 0 0] r)) (w.heap.size + 2) 0 0 none 0 0 := by
  have e1 : (w.alloc (.cells #[.int .i64 x, .int .i64 y, .slice A n c] t)).heap.size = w.heap.size + 1 := by simp
  have e2 : ((w.alloc (.cells #[.int .i64 x, .int .i64 y, .slice A n c] t)).alloc (.cells #[.int .i64 s] u)).heap.size = w.heap.size + 2 := by simp
  have V := (varT_new w x y A n c t).below ((Below.refl _ _).alloc (Nat.le_refl _) (.cells #[.int .i64 s] u))
  have S : SeedC ((w.alloc (.cells #[.int .i64 x, .int .i64 y, .slice A n c] t)).alloc (.cells #[.int .i64 s] u)) (w.heap.size + 1) s := by
    generalize w.alloc (.cells #[.int .i64 x, .int .i64 y, .slice A n c] t) = w1 at *
    rw [← e1]
    exact ⟨by simp, by simp [World.cell?, World.alloc, -World.alloc_eq], by simp [World.frozen?, World.alloc, -World.alloc_eq]⟩
  generalize (w.alloc (.cells #[.int .i64 x, .int .i64 y, .slice A n c] t)).alloc (.cells #[.int .i64 s] u) = w2 at *
  obtain ⟨d0, d1, d2, f0, f1, f2⟩ := fresh3 w2 (.int .i64 0) (.int .i64 0) (.slice none 0 0) r
  rw [e2] at d0 d1 d2 f0 f1 f2
  have hb : Below w2.heap.size w2 (w2.alloc (.cells #[.int .i64 0, .int .i64 0, .slice none 0 0] r)) := (Below.refl _ _).alloc (Nat.le_refl _) _
  have V3 := V.below hb
  refine ⟨⟨by omega, by simp [e2], Below.refl _ _, V3.c0, V3.c1, V3.c2, rd_of d0, rd_of d1, rd_of d2, f0, f1, f2⟩, S.but (ButIn.of hb) (.inr (Nat.zero_le _)), by rw [← e2]; exact VarU.new w2 0 0 none 0 0 r⟩

theorem implPlc (v : Nat) (s p : Int) (hs0 : 0 ≤ s) (hs1 : s ≤ 2147483647) (hp : 1 ≤ p) (w : World) (h : SeedC w v s) :
    Calls Try.prog 67 #[.int .i64 p, .pointer (some ⟨v, 0, none⟩)] w fun e w' => e = .returned (.int .i64 (nextS s / 65536 % p)) ∧ Hid (SeedC w' v (nextS s)) ∧ Hid (ButIn v (v + 1) w w') := by
  have hc := h.c
  have hf := h.f
  have hl := h.lt
  obtain ⟨q0, q1⟩ := itS_bd s hs0 hs1 1
  have q0 : 0 ≤ nextS s := q0
  have q1 : nextS s ≤ 2147483647 := q1
  have hz : ¬ p = 0 := by omega
  go_enter Try.func67, Try.ntmps67
  go_wp2_with fail
  refine (implNext s hs0 hs1 w).mono ?_
  rintro e w' ⟨rfl, rfl⟩
  go_wp2_with fail
  go_ret
  exact ⟨rfl, ⟨by simpa [World.setCell] using hl, World.cell?_setCell_same w _ _ hc, by rw [World.frozen?_setCell]; exact hf⟩, (ButIn.refl v (v + 1) w).set (q := ⟨v, 0, none⟩) (Nat.le_refl _) (Nat.lt_succ_self _) _⟩

set_option maxHeartbeats 16000000 in
set_option maxRecDepth 1000000 in
theorem implDso (x y count steps s : Int) (A : Option Addr) (c : Nat) (zs : List Nat) (tk lv : Nat) (w : World) (hr : RowF w w.heap.size A zs) (hn : zs.length ≤ 1048576) :
    Calls Try.prog 24 #[.agg #[.int .i64 x, .int .i64 y, .slice A zs.length c], .int .i64 count, .int .i64 steps, .float .f32 tk, .float .f32 lv, .int .i64 s] w (TPostN (gN (dsB x y zs count steps tk lv s) x) (gN (dsB x y zs count steps tk lv s) y) (gY (dsB x y zs count steps tk lv s) (dsR x y zs count steps tk lv s)) (gN (dsB x y zs count steps tk lv s) (itS s (2 * count.toNat))) (dsB x y zs count steps tk lv s) w) := by
  obtain ⟨T00, S00, U00⟩ := drops_new w x y s A zs.length c 27 2 27
  have T0 := Lib.hid T00
  have U0 := Lib.hid U00
  have S0 := Lib.hid S00
  have B0 : Hid (Below w.heap.size w (((w.alloc (.cells #[.int .i64 x, .int .i64 y, .slice A zs.length c] 27)).alloc (.cells #[.int .i64 s] 2)).alloc (.cells #[.int .i64 0, .int .i64 0, .slice none 0 0] 27))) := (((Below.refl _ _).alloc (Nat.le_refl _) _).alloc (by simp) _).alloc (by simp; omega) _
  have R0 : Hid (RowF (((w.alloc (.cells #[.int .i64 x, .int .i64 y, .slice A zs.length c] 27)).alloc (.cells #[.int .i64 s] 2)).alloc (.cells #[.int .i64 0, .int .i64 0, .slice none 0 0] 27)) w.heap.size A zs) := hr.below B0.out
  have s0c := S00.c
  have s0l := S00.lt
  clear hr T00 S00 U00
  cases h2 : inB count 0 128
  · skip
    go_enter Try.func24, Try.ntmps24
    go_wp2_with (first | (go_at_call 61; refine (within_any count _ _ _).mono ?_; rintro e w' ⟨rfl, rfl⟩; rw [h2]) | (go_at_call 62; refine (implDrp steps tk lv _).mono ?_; rintro e w' ⟨rfl, rfl⟩; try rw [h3]; try rw [h4]) | (go_at_call 66; refine (implSeed s _).mono ?_; rintro e w' ⟨rfl, rfl⟩; try rw [h5]))
    generalize (((w.alloc (.cells #[.int .i64 x, .int .i64 y, .slice A zs.length c] 27)).alloc (.cells #[.int .i64 s] 2)).alloc (.cells #[.int .i64 0, .int .i64 0, .slice none 0 0] 27)) = a0 at *
    generalize hX : w.heap.size = X at *
    have HX := Lib.hid hX
    clear hX s0c
    refine (implValid x y A c zs a0 (R0.out.mono (Nat.le_of_lt T0.out.var.lt)) hn).mono ?_
    rintro e b1 ⟨rfl, hb1⟩
    have T1 := Lib.hid (T0.out.below hb1.out)
    have S1 := Lib.hid (S0.out.but (ButIn.of hb1.out) (.inr (Nat.zero_le _)))
    have U1 := Lib.hid (U0.out.but (ButIn.of hb1.out) (.inr (Nat.zero_le _)))
    have R1 : Hid (RowF b1 X A zs) := R0.out.below (hb1.out.mono (Nat.le_of_lt T0.out.var.lt))
    have B1 := Lib.hid (B0.out.trans (hb1.out.mono (Nat.le_of_lt T0.out.var.lt)))
    clear hb1 T0 S0 U0 R0 B0
    cases h1 : shB x y zs
    · skip
      have N := Lib.hid (show (dsB x y zs count steps tk lv s) = false from dsB_no (dsA0_1 h1))
      obtain ⟨p0, p1, p2, q0, q1, q2, r0, r1, r2, _⟩ := T1.out.s
      go_wp2_with fail
      exact bodyPost_ret (v := .tuple #[.agg #[.int .i64 0, .int .i64 0, .slice none 0 0], .int .i64 0, .bool false]) (by simp [results, Try.results24, go_sem, q0, q1, q2]) rfl (tpostN_no N.out (by rw [HX.out]; exact B1.out.trans (store3 (by omega) _ _ _)))
    · skip
      have N := Lib.hid (show (dsB x y zs count steps tk lv s) = false from dsB_no (dsA0_2 h2))
      obtain ⟨p0, p1, p2, q0, q1, q2, r0, r1, r2, _⟩ := T1.out.s
      go_wp2_with fail
      exact bodyPost_ret (v := .tuple #[.agg #[.int .i64 0, .int .i64 0, .slice none 0 0], .int .i64 0, .bool false]) (by simp [results, Try.results24, go_sem, q0, q1, q2]) rfl (tpostN_no N.out (by rw [HX.out]; exact B1.out.trans (store3 (by omega) _ _ _)))
  · skip
    cases h3 : inB steps 0 128
    · skip
      go_enter Try.func24, Try.ntmps24
      go_wp2_with (first | (go_at_call 61; refine (within_any count _ _ _).mono ?_; rintro e w' ⟨rfl, rfl⟩; rw [h2]) | (go_at_call 62; refine (implDrp steps tk lv _).mono ?_; rintro e w' ⟨rfl, rfl⟩; try rw [h3]; try rw [h4]) | (go_at_call 66; refine (implSeed s _).mono ?_; rintro e w' ⟨rfl, rfl⟩; try rw [h5]))
      generalize (((w.alloc (.cells #[.int .i64 x, .int .i64 y, .slice A zs.length c] 27)).alloc (.cells #[.int .i64 s] 2)).alloc (.cells #[.int .i64 0, .int .i64 0, .slice none 0 0] 27)) = a0 at *
      generalize hX : w.heap.size = X at *
      have HX := Lib.hid hX
      clear hX s0c
      refine (implValid x y A c zs a0 (R0.out.mono (Nat.le_of_lt T0.out.var.lt)) hn).mono ?_
      rintro e b1 ⟨rfl, hb1⟩
      have T1 := Lib.hid (T0.out.below hb1.out)
      have S1 := Lib.hid (S0.out.but (ButIn.of hb1.out) (.inr (Nat.zero_le _)))
      have U1 := Lib.hid (U0.out.but (ButIn.of hb1.out) (.inr (Nat.zero_le _)))
      have R1 : Hid (RowF b1 X A zs) := R0.out.below (hb1.out.mono (Nat.le_of_lt T0.out.var.lt))
      have B1 := Lib.hid (B0.out.trans (hb1.out.mono (Nat.le_of_lt T0.out.var.lt)))
      clear hb1 T0 S0 U0 R0 B0
      cases h1 : shB x y zs
      · skip
        have N := Lib.hid (show (dsB x y zs count steps tk lv s) = false from dsB_no (dsA0_1 h1))
        obtain ⟨p0, p1, p2, q0, q1, q2, r0, r1, r2, _⟩ := T1.out.s
        go_wp2_with fail
        exact bodyPost_ret (v := .tuple #[.agg #[.int .i64 0, .int .i64 0, .slice none 0 0], .int .i64 0, .bool false]) (by simp [results, Try.results24, go_sem, q0, q1, q2]) rfl (tpostN_no N.out (by rw [HX.out]; exact B1.out.trans (store3 (by omega) _ _ _)))
      · skip
        have N := Lib.hid (show (dsB x y zs count steps tk lv s) = false from dsB_no (dsA0_3 h3))
        obtain ⟨p0, p1, p2, q0, q1, q2, r0, r1, r2, _⟩ := T1.out.s
        go_wp2_with fail
        exact bodyPost_ret (v := .tuple #[.agg #[.int .i64 0, .int .i64 0, .slice none 0 0], .int .i64 0, .bool false]) (by simp [results, Try.results24, go_sem, q0, q1, q2]) rfl (tpostN_no N.out (by rw [HX.out]; exact B1.out.trans (store3 (by omega) _ _ _)))
    · skip
      cases h4 : ruleB tk lv
      · skip
        go_enter Try.func24, Try.ntmps24
        go_wp2_with (first | (go_at_call 61; refine (within_any count _ _ _).mono ?_; rintro e w' ⟨rfl, rfl⟩; rw [h2]) | (go_at_call 62; refine (implDrp steps tk lv _).mono ?_; rintro e w' ⟨rfl, rfl⟩; try rw [h3]; try rw [h4]) | (go_at_call 66; refine (implSeed s _).mono ?_; rintro e w' ⟨rfl, rfl⟩; try rw [h5]))
        generalize (((w.alloc (.cells #[.int .i64 x, .int .i64 y, .slice A zs.length c] 27)).alloc (.cells #[.int .i64 s] 2)).alloc (.cells #[.int .i64 0, .int .i64 0, .slice none 0 0] 27)) = a0 at *
        generalize hX : w.heap.size = X at *
        have HX := Lib.hid hX
        clear hX s0c
        refine (implValid x y A c zs a0 (R0.out.mono (Nat.le_of_lt T0.out.var.lt)) hn).mono ?_
        rintro e b1 ⟨rfl, hb1⟩
        have T1 := Lib.hid (T0.out.below hb1.out)
        have S1 := Lib.hid (S0.out.but (ButIn.of hb1.out) (.inr (Nat.zero_le _)))
        have U1 := Lib.hid (U0.out.but (ButIn.of hb1.out) (.inr (Nat.zero_le _)))
        have R1 : Hid (RowF b1 X A zs) := R0.out.below (hb1.out.mono (Nat.le_of_lt T0.out.var.lt))
        have B1 := Lib.hid (B0.out.trans (hb1.out.mono (Nat.le_of_lt T0.out.var.lt)))
        clear hb1 T0 S0 U0 R0 B0
        cases h1 : shB x y zs
        · skip
          have N := Lib.hid (show (dsB x y zs count steps tk lv s) = false from dsB_no (dsA0_1 h1))
          obtain ⟨p0, p1, p2, q0, q1, q2, r0, r1, r2, _⟩ := T1.out.s
          go_wp2_with fail
          exact bodyPost_ret (v := .tuple #[.agg #[.int .i64 0, .int .i64 0, .slice none 0 0], .int .i64 0, .bool false]) (by simp [results, Try.results24, go_sem, q0, q1, q2]) rfl (tpostN_no N.out (by rw [HX.out]; exact B1.out.trans (store3 (by omega) _ _ _)))
        · skip
          have N := Lib.hid (show (dsB x y zs count steps tk lv s) = false from dsB_no (dsA0_4 h4))
          obtain ⟨p0, p1, p2, q0, q1, q2, r0, r1, r2, _⟩ := T1.out.s
          go_wp2_with fail
          exact bodyPost_ret (v := .tuple #[.agg #[.int .i64 0, .int .i64 0, .slice none 0 0], .int .i64 0, .bool false]) (by simp [results, Try.results24, go_sem, q0, q1, q2]) rfl (tpostN_no N.out (by rw [HX.out]; exact B1.out.trans (store3 (by omega) _ _ _)))
      · skip
        cases h5 : seedB s
        · skip
          go_enter Try.func24, Try.ntmps24
          go_wp2_with (first | (go_at_call 61; refine (within_any count _ _ _).mono ?_; rintro e w' ⟨rfl, rfl⟩; rw [h2]) | (go_at_call 62; refine (implDrp steps tk lv _).mono ?_; rintro e w' ⟨rfl, rfl⟩; try rw [h3]; try rw [h4]) | (go_at_call 66; refine (implSeed s _).mono ?_; rintro e w' ⟨rfl, rfl⟩; try rw [h5]))
          generalize (((w.alloc (.cells #[.int .i64 x, .int .i64 y, .slice A zs.length c] 27)).alloc (.cells #[.int .i64 s] 2)).alloc (.cells #[.int .i64 0, .int .i64 0, .slice none 0 0] 27)) = a0 at *
          generalize hX : w.heap.size = X at *
          have HX := Lib.hid hX
          clear hX s0c
          refine (implValid x y A c zs a0 (R0.out.mono (Nat.le_of_lt T0.out.var.lt)) hn).mono ?_
          rintro e b1 ⟨rfl, hb1⟩
          have T1 := Lib.hid (T0.out.below hb1.out)
          have S1 := Lib.hid (S0.out.but (ButIn.of hb1.out) (.inr (Nat.zero_le _)))
          have U1 := Lib.hid (U0.out.but (ButIn.of hb1.out) (.inr (Nat.zero_le _)))
          have R1 : Hid (RowF b1 X A zs) := R0.out.below (hb1.out.mono (Nat.le_of_lt T0.out.var.lt))
          have B1 := Lib.hid (B0.out.trans (hb1.out.mono (Nat.le_of_lt T0.out.var.lt)))
          clear hb1 T0 S0 U0 R0 B0
          cases h1 : shB x y zs
          · skip
            have N := Lib.hid (show (dsB x y zs count steps tk lv s) = false from dsB_no (dsA0_1 h1))
            obtain ⟨p0, p1, p2, q0, q1, q2, r0, r1, r2, _⟩ := T1.out.s
            go_wp2_with fail
            exact bodyPost_ret (v := .tuple #[.agg #[.int .i64 0, .int .i64 0, .slice none 0 0], .int .i64 0, .bool false]) (by simp [results, Try.results24, go_sem, q0, q1, q2]) rfl (tpostN_no N.out (by rw [HX.out]; exact B1.out.trans (store3 (by omega) _ _ _)))
          · skip
            have N := Lib.hid (show (dsB x y zs count steps tk lv s) = false from dsB_no (dsA0_5 h5))
            obtain ⟨p0, p1, p2, q0, q1, q2, r0, r1, r2, _⟩ := T1.out.s
            go_wp2_with fail
            exact bodyPost_ret (v := .tuple #[.agg #[.int .i64 0, .int .i64 0, .slice none 0 0], .int .i64 0, .bool false]) (by simp [results, Try.results24, go_sem, q0, q1, q2]) rfl (tpostN_no N.out (by rw [HX.out]; exact B1.out.trans (store3 (by omega) _ _ _)))
        · skip
          go_enter Try.func24, Try.ntmps24
          go_wp2_with (first | (go_at_call 61; refine (within_any count _ _ _).mono ?_; rintro e w' ⟨rfl, rfl⟩; rw [h2]) | (go_at_call 62; refine (implDrp steps tk lv _).mono ?_; rintro e w' ⟨rfl, rfl⟩; try rw [h3]; try rw [h4]) | (go_at_call 66; refine (implSeed s _).mono ?_; rintro e w' ⟨rfl, rfl⟩; try rw [h5]))
          generalize (((w.alloc (.cells #[.int .i64 x, .int .i64 y, .slice A zs.length c] 27)).alloc (.cells #[.int .i64 s] 2)).alloc (.cells #[.int .i64 0, .int .i64 0, .slice none 0 0] 27)) = a0 at *
          generalize hX : w.heap.size = X at *
          have HX := Lib.hid hX
          clear hX s0c
          refine (implValid x y A c zs a0 (R0.out.mono (Nat.le_of_lt T0.out.var.lt)) hn).mono ?_
          rintro e b1 ⟨rfl, hb1⟩
          have T1 := Lib.hid (T0.out.below hb1.out)
          have S1 := Lib.hid (S0.out.but (ButIn.of hb1.out) (.inr (Nat.zero_le _)))
          have U1 := Lib.hid (U0.out.but (ButIn.of hb1.out) (.inr (Nat.zero_le _)))
          have R1 : Hid (RowF b1 X A zs) := R0.out.below (hb1.out.mono (Nat.le_of_lt T0.out.var.lt))
          have B1 := Lib.hid (B0.out.trans (hb1.out.mono (Nat.le_of_lt T0.out.var.lt)))
          clear hb1 T0 S0 U0 R0 B0
          have H2 := Lib.hid h2
          have H3 := Lib.hid h3
          have H4 := Lib.hid h4
          have H5 := Lib.hid h5
          clear h2 h3 h4 h5
          cases h1 : shB x y zs
          · skip
            have N := Lib.hid (show (dsB x y zs count steps tk lv s) = false from dsB_no (dsA0_1 h1))
            obtain ⟨p0, p1, p2, q0, q1, q2, r0, r1, r2, _⟩ := T1.out.s
            go_wp2_with fail
            exact bodyPost_ret (v := .tuple #[.agg #[.int .i64 0, .int .i64 0, .slice none 0 0], .int .i64 0, .bool false]) (by simp [results, Try.results24, go_sem, q0, q1, q2]) rfl (tpostN_no N.out (by rw [HX.out]; exact B1.out.trans (store3 (by omega) _ _ _)))
          · have H1 := Lib.hid h1
            clear h1
            have HSB := Lib.hid (shB_sides H1.out)
            have HXY := Lib.hid (shB_xy H1.out)
            have HM := Lib.hid (Fk.sides_bd HSB.out.1).2
            obtain ⟨sn, hsn, rfl⟩ : ∃ sn : Nat, sn ≤ 128 ∧ steps = (sn : Int) := ⟨steps.toNat, by have := inB_yes H3.out; omega, by have := inB_yes H3.out; omega⟩
            obtain ⟨cn, hcn, rfl⟩ : ∃ cn : Nat, cn ≤ 128 ∧ count = (cn : Int) := ⟨count.toNat, by have := inB_yes H2.out; omega, by have := inB_yes H2.out; omega⟩
            have hs0 : 0 ≤ s ∧ s ≤ 2147483647 := inB_yes H5.out
            have HS := Lib.hid (fun k => itS_bd s hs0.1 hs0.2 k)
            have HB : Hid ((dsB x y zs (cn : Int) (sn : Int) tk lv s) = (dsI x y zs sn tk lv s cn).isSome) := by show _ = _; unfold dsB; rw [dsA0_yes H1.out H2.out H3.out H4.out H5.out, Int.toNat_natCast, Int.toNat_natCast]; rfl
            have HR : Hid (dsR x y zs (cn : Int) (sn : Int) tk lv s = (dsI x y zs sn tk lv s cn).getD []) := by show _ = _; unfold dsR; rw [Int.toNat_natCast, Int.toNat_natCast]
            have HSH := Lib.hid (fun k ws => @dsI_sh x y zs sn tk lv s H1.out k ws)
            have I0 : Hid (dsI x y zs sn tk lv s 0 = some zs) := rfl
            have HNO := Lib.hid (fun k ws => @dsI_no x y zs ws sn tk lv s k)
            have HYES := Lib.hid (fun k ws => @dsI_yes x y zs ws sn tk lv s k)
            generalize hI : dsI x y zs sn tk lv s = I at *
            clear hI
            have H0 := Lib.hid (shB_pos H1.out)
            obtain ⟨b0, off, rfl, hbb, hcell⟩ := R1.out H0.out
            clear hbb hcell
            have t0 := T1.out.c0
            have t1 := T1.out.c1
            have t2 := T1.out.c2
            have tl := T1.out.yb
            go_wp2_with fail
            clear t0 t1 t2 tl
            refine (copyOf_is x y (some ⟨b0, off, none⟩) c zs b1 (R1.out.mono (Nat.le_of_lt T1.out.var.lt)) H0.out hn).mono ?_
            rintro e b5 ⟨g, c', rfl, RO, hb5⟩
            have T5 := Lib.hid (T1.out.below hb5.out)
            have S5 := Lib.hid (S1.out.but (ButIn.of hb5.out) (.inr (Nat.zero_le _)))
            have U5 := Lib.hid (U1.out.but (ButIn.of hb5.out) (.inr (Nat.zero_le _)))
            have B5 := Lib.hid (B1.out.trans (hb5.out.mono (Nat.le_of_lt T1.out.var.lt)))
            have x1l := T1.out.yb
            have hbO : Below b5.heap.size b5 (b5.alloc (.cells #[.int .i64 x, .int .i64 y, .slice (some ⟨g, 0, none⟩) zs.length c'] 27)) := (Below.refl _ _).alloc (Nat.le_refl _) _
            have VO := Lib.hid (VarU.new b5 x y (some ⟨g, 0, none⟩) zs.length c' 27)
            have T6 := Lib.hid (T5.out.below hbO)
            have S6 := Lib.hid (S5.out.but (ButIn.of hbO) (.inr (Nat.zero_le _)))
            have U6 := Lib.hid (U5.out.but (ButIn.of hbO) (.inr (Nat.zero_le _)))
            have X6 := Lib.hid T6.out.var
            have B6 := Lib.hid (B5.out.trans (hbO.mono (Nat.le_of_lt T5.out.var.lt)))
            have xO : X + 2 < b5.heap.size := T5.out.yb
            have G6 : Hid (RowIn (b5.alloc (.cells #[.int .i64 x, .int .i64 y, .slice (some ⟨g, 0, none⟩) zs.length c'] 27)) (X + 3) b5.heap.size (some ⟨g, 0, none⟩) zs) := Lib.hid ((RO.out.but (ButIn.of hbO) (.inr (Nat.zero_le _))).lower (by omega))
            clear T1 S1 U1 R1 B1 T5 S5 U5 B5 RO hb5 hbO x1l T6
            go_wp2_with fail
            generalize (b5.alloc (.cells #[.int .i64 x, .int .i64 y, .slice (some ⟨g, 0, none⟩) zs.length c'] 27)) = b6 at *
            generalize b5.heap.size = O at *
            go_loopw [47] (fun i wr => ∃ (k : Nat) (vs : List Nat) (Av : Option Addr) (cv : Nat), k ≤ cn ∧ i = .int .i64 (k : Nat) ∧ Hid (I k = some vs) ∧ Hid (VarU wr O x y Av zs.length cv) ∧ Hid (SeedC wr (X + 1) (itS s (2 * k))) ∧ Hid (VarT wr X x y (some ⟨b0, off, none⟩) zs.length c) ∧ Hid (VarU wr (X + 2) 0 0 none 0 0) ∧ Hid (Below X w wr) ∧ (∃ hi, hi ≤ wr.heap.size ∧ Hid (RowIn wr (X + 3) hi Av vs) ∧ (hi ≤ O ∨ Hid (RowIn wr (O + 1) hi Av vs)))) (fun i _ => cn - (intOf i).toNat)
            case atStart => exact ⟨0, zs, some ⟨g, 0, none⟩, c', Nat.zero_le _, rfl, I0, VO, S6, X6, U6, B6, O, Nat.le_of_lt VO.out.var.lt, G6, .inl (Nat.le_refl _)⟩
            case round =>
              clear I0 VO S6 X6 U6 B6 G6
              obtain ⟨k, vs, Av, cv, hk, rfl, hI, hV, hS, hXV, hU, hB, hi, hhi, hR, hRO⟩ := hrel
              obtain ⟨hsv, hlv⟩ := HSH.out k vs hI.out
              have HSV := Lib.hid hsv
              have HLV := Lib.hid hlv
              clear hsv hlv
              have x0' := hXV.out.c0
              have x1' := hXV.out.c1
              have xl := hXV.out.lt
              by_cases hlt : k < cn
              · obtain ⟨hs1, hs2⟩ := HS.out (2 * k)
                obtain ⟨hs3, hs4⟩ := HS.out (2 * k + 1)
                have P1 := Lib.hid (implPlc (X + 1) (itS s (2 * k)) x hs1 hs2 HXY.out.1.1 wr hS.out)
                have P2 := Lib.hid (fun W (h : SeedC W (X + 1) (itS s (2 * k + 1))) => implPlc (X + 1) (itS s (2 * k + 1)) y hs3 hs4 HXY.out.2.1 W h)
                rw [show nextS (itS s (2 * k)) = itS s (2 * k + 1) from rfl, show itS s (2 * k + 1) / 65536 % x = dsX s x k from rfl] at P1
                rw [show nextS (itS s (2 * k + 1)) = itS s (2 * (k + 1)) from rfl, show itS s (2 * (k + 1)) / 65536 % y = dsY s y k from rfl] at P2
                go_wp2_with fail
                refine P1.out.mono ?_
                rintro e w1 ⟨rfl, hS1, hb1⟩
                have hV1 := Lib.hid (hV.out.but hb1.out (by omega))
                have hX1 := Lib.hid (hXV.out.but hb1.out (by omega))
                have hU1 := Lib.hid (hU.out.but hb1.out (by omega))
                have hB1 := Lib.hid (hB.out.trans (hb1.out.toBelow (by omega) (by omega)))
                have hR1 := Lib.hid (hR.out.but hb1.out (by omega))
                have hRO1 : hi ≤ O ∨ Hid (RowIn w1 (O + 1) hi Av vs) := hRO.imp id fun h => h.out.but hb1.out (by omega)
                have hh1 : hi ≤ w1.heap.size := Nat.le_trans hhi hb1.out.size
                have y1' := hX1.out.c1
                have yl := hX1.out.lt
                clear hV hXV hU hB hR hRO hhi hS hb1 P1 x0' x1' xl
                go_wp2_with fail
                refine (P2.out w1 hS1.out).mono ?_
                rintro e w2 ⟨rfl, hS2, hb2⟩
                have hV2 := Lib.hid (hV1.out.but hb2.out (by omega))
                have hX2 := Lib.hid (hX1.out.but hb2.out (by omega))
                have hU2 := Lib.hid (hU1.out.but hb2.out (by omega))
                have hB2 := Lib.hid (hB1.out.trans (hb2.out.toBelow (by omega) (by omega)))
                have hR2 := Lib.hid (hR1.out.but hb2.out (by omega))
                clear hV1 hX1 hU1 hB1 hR1 hRO1 hS1 hb2 P2 y1' yl hh1
                obtain ⟨HBV, HDV⟩ := ds_drp (zs := vs) s k HSV.out (by rw [HLV.out]; exact HSB.out.2.2) hsn H4.out
                have HDO := implDro x y (dsX s x k) (dsY s y k) (sn : Int) Av cv vs tk lv w2 hR2.out.toRow (by rw [HLV.out]; exact hn)
                rw [HBV, HDV, HLV.out] at HDO
                have HBV2 := Lib.hid HBV
                have o0 := hV2.out.var.c0
                have o1 := hV2.out.var.c1
                have o2 := hV2.out.var.c2
                have ol := hV2.out.var.lt
                have hkc : k + 1 + (cn - (k + 1)) = cn := by omega
                clear HBV HDV hR2
                cases hb : toldB (drF (dsD x y sn tk lv s vs k)) zs.length
                · rw [hb] at HDO
                  have HDQ := Lib.hid HDO
                  have N := Lib.hid (show (dsB x y zs (cn : Int) (sn : Int) tk lv s) = false by rw [HB.out]; have := HNO.out k vs hI.out (by rw [HLV.out]; exact hb) (cn - (k + 1)); rw [hkc] at this; rw [this]; rfl)
                  clear HDO hb
                  go_wp2_with fail
                  refine HDQ.out.mono ?_
                  rintro e w3 ⟨A3, c3, rfl, hR3, hb3⟩
                  have hU3 := Lib.hid (hU2.out.but (ButIn.of hb3.out) (.inr (Nat.zero_le _)))
                  have hB3 := Lib.hid (hB2.out.trans (hb3.out.mono (by omega)))
                  rw [show gN false x = 0 from rfl, show gN false y = 0 from rfl, show gN false _ = 0 from rfl]
                  have bS := Lib.hid ((ButIn.set3 (w := w3) (v := X + 1 + 1) (.int .i64 0) (.int .i64 0) (.slice none 0 0)).andB ((Below.refl _ _).alloc (Nat.le_refl _) (.cells #[.int .i64 0, .int .i64 0, .slice A3 (gY false (toldY (drF (dsD x y sn tk lv s vs k)) zs.length)).length c3] 27)))
                  have hU5 : VarU (((((w3.setCell ⟨X + 1 + 1, 0, none⟩ (.int .i64 0)).setCell ⟨X + 1 + 1, 1, none⟩ (.int .i64 0)).setCell ⟨X + 1 + 1, 2, none⟩ (.slice none 0 0))).alloc (.cells #[.int .i64 0, .int .i64 0, .slice A3 (gY false (toldY (drF (dsD x y sn tk lv s vs k)) zs.length)).length c3] 27)) (X + 1 + 1) 0 0 none 0 0 := (VarU.set hU3.out).but (ButIn.of ((Below.refl _ _).alloc (Nat.le_refl _) _)) (.inr (Nat.zero_le _))
                  have hB5 := Lib.hid (hB3.out.trans (bS.out.toBelow (X := X) (by omega) (by have := hU3.out.var.lt; omega)))
                  have q0 := hU5.var.c0
                  have q1 := hU5.var.c1
                  have q2 := hU5.var.c2
                  have q0' := hU3.out.var.c0
                  have q1' := hU3.out.var.c1
                  have q2' := hU3.out.var.c2
                  have r0' := hU3.out.f0
                  have r1' := hU3.out.f1
                  have r2' := hU3.out.f2
                  have r3' := hU3.out.var.lt
                  clear HDQ hU2 hU3 hB2 hB3 hb3 o0 o1 o2 ol bS hU5
                  go_wp2_with fail
                  exact bodyPost_ret (v := .tuple #[.agg #[.int .i64 0, .int .i64 0, .slice none 0 0], .int .i64 0, .bool false]) (by simp only [results, Try.results24]; simp [go_sem, q0, q1, q2]) rfl (tpostN_no N.out (by rw [HX.out]; exact hB5.out))
                · rw [hb] at HDO
                  have HDQ := Lib.hid HDO
                  have HI2 : Hid (I (k + 1) = some (toldY (drF (dsD x y sn tk lv s vs k)) zs.length)) := by show _ = _; rw [← HLV.out]; exact HYES.out k vs hI.out (by rw [HLV.out]; exact hb)
                  have HYL : Hid ((toldY (drF (dsD x y sn tk lv s vs k)) zs.length).length = zs.length) := toldY_length _ _
                  clear HDO hb
                  go_wp2_with fail
                  refine HDQ.out.mono ?_
                  rintro e w3 ⟨A3, c3, rfl, hR3, hb3⟩
                  have hV3 := Lib.hid (hV2.out.but (ButIn.of hb3.out) (.inr (Nat.zero_le _)))
                  have hX3 := Lib.hid (hX2.out.but (ButIn.of hb3.out) (.inr (Nat.zero_le _)))
                  have hU3 := Lib.hid (hU2.out.but (ButIn.of hb3.out) (.inr (Nat.zero_le _)))
                  have hS3 := Lib.hid (hS2.out.but (ButIn.of hb3.out) (.inr (Nat.zero_le _)))
                  have hB3 := Lib.hid (hB2.out.trans (hb3.out.mono (by omega)))
                  rw [show gN true x = x from rfl, show gN true y = y from rfl, show gY true (toldY (drF (dsD x y sn tk lv s vs k)) zs.length) = toldY (drF (dsD x y sn tk lv s vs k)) zs.length from rfl] at *
                  rw [HYL.out]
                  have o23 : w2.heap.size ≤ w3.heap.size := hb3.out.size
                  have o2l : O < w2.heap.size := hV2.out.var.lt
                  clear HDQ hV2 hX2 hU2 hS2 hB2 hb3 o0 o1 o2 ol
                  have bS := Lib.hid ((ButIn.set3 (w := w3) (v := O) (.int .i64 x) (.int .i64 y) (.slice A3 zs.length c3)).andB ((Below.refl _ _).alloc (Nat.le_refl _) (.cells #[.int .i64 x, .int .i64 y, .slice A3 zs.length c3] 27)))
                  have hV5 := Lib.hid ((VarU.set (x' := x) (y' := y) (A' := A3) (n' := zs.length) (c' := c3) hV3.out).but (ButIn.of ((Below.refl _ _).alloc (Nat.le_refl _) (.cells #[.int .i64 x, .int .i64 y, .slice A3 zs.length c3] 27))) (.inr (Nat.zero_le _)))
                  have hX5 := Lib.hid (hX3.out.but bS.out (by omega))
                  have hU5 := Lib.hid (hU3.out.but bS.out (by omega))
                  have hS5 := Lib.hid (hS3.out.but bS.out (by omega))
                  have hR5 := Lib.hid (hR3.out.but bS.out (.inr (by have := o2l; omega)))
                  have hRl := Lib.hid (hR5.out.lower (lo' := X + 3) (by omega))
                  have hRo := Lib.hid (hR5.out.lower (lo' := O + 1) (by omega))
                  have hB5 := Lib.hid (hB3.out.trans (bS.out.toBelow (X := X) (by omega) (by have := hX3.out.lt; omega)))
                  have hz5 := bS.out.size
                  have o0 := hV3.out.var.c0
                  have o1 := hV3.out.var.c1
                  have o2 := hV3.out.var.c2
                  have ol := hV3.out.var.lt
                  have of0 := hV3.out.f0
                  have of1 := hV3.out.f1
                  have of2 := hV3.out.f2
                  clear hV3 hX3 hU3 hS3 hB3 hR3 hR5 bS
                  go_wp2_with fail
                  go_roundw
                  case rel => exact ⟨k + 1, _, A3, c3, by omega, by go_num, HI2, hV5, hS5, hX5, hU5, hB5, w3.heap.size, hz5, hRl, .inr hRo⟩
                  case measure => simp [intOf]; omega
              · have HJ : Hid (k = cn) := by show k = cn; omega
                have hI2 : Hid (I cn = some vs) := by rw [← HJ.out]; exact hI
                have Y := Lib.hid (show (dsB x y zs (cn : Int) (sn : Int) tk lv s) = true by rw [HB.out, hI2.out]; rfl)
                have HRV : Hid (dsR x y zs (cn : Int) (sn : Int) tk lv s = vs) := by show _ = _; rw [HR.out, hI2.out]; rfl
                have o0 := hV.out.var.c0
                have o1 := hV.out.var.c1
                have o2 := hV.out.var.c2
                have ol := hV.out.var.lt
                have sc := hS.out.c
                have sl := hS.out.lt
                have q0 := hU.out.var.c0
                have q1 := hU.out.var.c1
                have q2 := hU.out.var.c2
                have r0 := hU.out.f0
                have r1 := hU.out.f1
                have r2 := hU.out.f2
                have r3 := hU.out.var.lt
                clear hI x0' x1' xl
                go_wp2_with fail
                go_region
                have bS := Lib.hid ((ButIn.set3 (w := wr) (v := X + 1 + 1) (.int .i64 x) (.int .i64 y) (.slice Av zs.length cv)).andB ((Below.refl _ _).drew))
                have hUF := VarU.set (x' := x) (y' := y) (A' := Av) (n' := zs.length) (c' := cv) hU.out
                have qf0 : ((((wr.setCell ⟨X + 1 + 1, 0, none⟩ (.int .i64 x)).setCell ⟨X + 1 + 1, 1, none⟩ (.int .i64 y)).setCell ⟨X + 1 + 1, 2, none⟩ (.slice Av zs.length cv)).drew).cell? ⟨X + 1 + 1, 0, none⟩ = some (.int .i64 x) := hUF.var.c0
                have qf1 : ((((wr.setCell ⟨X + 1 + 1, 0, none⟩ (.int .i64 x)).setCell ⟨X + 1 + 1, 1, none⟩ (.int .i64 y)).setCell ⟨X + 1 + 1, 2, none⟩ (.slice Av zs.length cv)).drew).cell? ⟨X + 1 + 1, 1, none⟩ = some (.int .i64 y) := hUF.var.c1
                have qf2 : ((((wr.setCell ⟨X + 1 + 1, 0, none⟩ (.int .i64 x)).setCell ⟨X + 1 + 1, 1, none⟩ (.int .i64 y)).setCell ⟨X + 1 + 1, 2, none⟩ (.slice Av zs.length cv)).drew).cell? ⟨X + 1 + 1, 2, none⟩ = some (.slice Av zs.length cv) := hUF.var.c2
                have hRF := Lib.hid (hR.out.but bS.out (.inr (Nat.le_refl _)))
                have hBF := Lib.hid (hB.out.trans (bS.out.toBelow (X := X) (by omega) (by omega)))
                have hz := bS.out.size
                clear hUF bS
                generalize (((wr.setCell ⟨X + 1 + 1, 0, none⟩ (.int .i64 x)).setCell ⟨X + 1 + 1, 1, none⟩ (.int .i64 y)).setCell ⟨X + 1 + 1, 2, none⟩ (.slice Av zs.length cv)).drew = wf at *
                go_wp2_with fail
                refine bodyPost_ret (v := .tuple #[.agg #[.int .i64 x, .int .i64 y, .slice Av zs.length cv], .int .i64 (itS s (2 * k)), .bool true]) (by simp only [results, Try.results24]; simp [go_sem, qf0, qf1, qf2]) rfl ?_
                rw [HRV.out]
                refine tpostN_yes Y.out HLV.out (by show itS s (2 * cn) = _; rw [HJ.out]) ?_ ?_
                · rw [HX.out]
                  exact hRF.out.wide (by omega) (by omega) (Nat.le_refl _)
                · rw [HX.out]
                  exact hBF.out

end Go.Proofs.Ytckhdbnoihieeaa
