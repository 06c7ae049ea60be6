/-
  What is proved here: TurtleTwigs' closure in the program, which draws a move, as a walk. Conditions: at most 256 points in each line.
-/
import Derived.Test.YthhimielelpcoaaTwd
namespace Go.Proofs.Ythhimielelpcoaa
open Flt Go.RowKit
set_option linter.unusedVariables false
set_option linter.unusedSimpArgs false

theorem GroC.litAl (w : World) {G : Nat} (h : G ≤ w.heap.size) (o : Obj) (y : Nat × Nat) : GroC ((w.alloc o).alloc (.cells #[.complex .f32 y.1 y.2] 113)) G [y] (some ⟨w.heap.size + 1, 0, none⟩) 1 := by
  have e : (w.alloc o).heap.size = w.heap.size + 1 := by simp
  have := GroC.lit1 (w.alloc o) (G := G) (by omega) y
  rwa [e] at this
theorem cell_alc {w : World} {b : Nat} {x : Value} (hb : b < w.heap.size) (h : w.cell? ⟨b, 0, none⟩ = some x) : ∀ o, (w.alloc o).cell? ⟨b, 0, none⟩ = some x := fun o => (Below.cell ((Below.refl w.heap.size w).alloc (Nat.le_refl _) o) (p := ⟨b, 0, none⟩) hb).trans h
theorem LnA.nlt {w : World} {G bx c : Nat} {L : List (Nat × Nat)} {A : Option Addr} (h : LnA w G bx L A c) {n : Nat} (hn : w.heap.size ≤ n) : ∀ a x, A = some a → (some ⟨n, 0, none⟩ : Option Addr) = some x → a.block ≠ x.block := fun a x ha hx => by
  injection hx with hx
  subst hx
  have := (h.own.lt a ha).2
  show a.block ≠ n
  omega
set_option maxHeartbeats 4000000 in
set_option maxRecDepth 100000 in
theorem cloTwg (b1 b2 G c1 c2 : Nat) (L1 L2 : List (Nat × Nat)) (A1 A2 : Option Addr) (a b c d : Nat) (w : World) (h : Ln2 w G b1 b2 L1 L2 A1 A2 c1 c2) (hL1 : L1.length ≤ 256) (hL2 : L2.length ≤ 256) (hG : G ≤ w.heap.size) :
    Calls Try.prog 88 #[.complex .f32 a b, .complex .f32 c d, .pointer (some ⟨b1, 0, none⟩), .pointer (some ⟨b2, 0, none⟩)] w fun e w' => e = .returned (.bool (decide (L2.length + 1 ≤ 256))) ∧ ∃ B1 d1 B2 d2, Hid (Ln2 w' G b1 b2 (L1 ++ [(a, b)]) (L2 ++ [(c, d)]) B1 B2 d1 d2) ∧ Hid (ButM b1 b2 A1 A2 w w') ∧ Hid (NewB A1 B1 w.heap.size) ∧ Hid (NewB A2 B2 w.heap.size) := by
  have HH := Lib.hid h
  have hc1 := h.l1.cell
  have hc2 := h.l2.cell
  have hf1 := h.l1.free
  have hf2 := h.l2.free
  have Q0 := Lib.hid h.start
  have hl1 : L1.length ≤ 1048576 := by omega
  have hl2 : L2.length ≤ 1048576 := by omega
  clear h
  go_enter Try.func88, Try.ntmps88
  go_wp2_with fail
  have hnb : b1 ≠ b2 := HH.out.nb
  have nn : (⟨b1, 0, none⟩ : Addr) ≠ ⟨b2, 0, none⟩ := by intro e; injection e with e _ _; exact hnb e
  have HDC : Hid (decide ((L2.length : Int) + 1 ≤ 256) = decide (L2.length + 1 ≤ 256)) := by show _ = _; rw [decide_eq_decide]; omega
  have s0 : w.heap.size ≤ w.drew.heap.size := Nat.le_refl _
  have z1 := cell_alc HH.out.l1.lt hc1
  have z2 := cell_alc HH.out.l2.lt hc2
  have y1 : ∀ o o', ((w.alloc o).alloc o').cell? ⟨b1, 0, none⟩ = some (.slice A1 L1.length c1) := fun o => cell_alc (Nat.lt_of_lt_of_le HH.out.l1.lt (by simp)) (z1 o)
  have y2 : ∀ o o', ((w.alloc o).alloc o').cell? ⟨b2, 0, none⟩ = some (.slice A2 L2.length c2) := fun o => cell_alc (Nat.lt_of_lt_of_le HH.out.l2.lt (by simp)) (z2 o)
  go_region_law (first
    | (refine stepGroX rfl _ _ rfl (G := G) (y := (a, b)) (Q0.out.al (.cells #[.complex .f32 a b] 113)).r1 (GroC.lit1 w.drew hG (a, b)) rfl rfl hl1 (Nat.le_trans hG (Q0.out.al _).size) ?_; intro g5 c5 w5 O5 B5 p5; have Q5 := Lib.hid ((Q0.out.al _).up1 O5 B5 p5); clear O5 B5 p5; have e1 := Q5.out.block b1 HH.out.l1.lt HH.out.l1.ne HH.out.n21; have e2 := Q5.out.block b2 HH.out.l2.lt HH.out.n12 HH.out.l2.ne; have k1 := (World.cell?_of_block (a := ⟨b1, 0, none⟩) e1).trans hc1; have k2 := (World.cell?_of_block (a := ⟨b2, 0, none⟩) e2).trans hc2; clear e1 e2; have ka1 := cell_alc (Nat.lt_of_lt_of_le HH.out.l1.lt Q5.out.size) k1; have ka2 := cell_alc (Nat.lt_of_lt_of_le HH.out.l2.lt Q5.out.size) k2)
    | (refine stepGroX rfl _ _ rfl (G := G) (y := (a, b)) ((Q0.out.al (.cells #[.complex .f32 a b] 113)).al (.cells #[.complex .f32 c d] 113)).r1 ((GroC.lit1 w.drew hG (a, b)).al _) rfl rfl hl1 (Nat.le_trans hG ((Q0.out.al _).al _).size) ?_; intro g5 c5 w5 O5 B5 p5; have Q5 := Lib.hid (((Q0.out.al _).al _).up1 O5 B5 p5); have Y5 := Lib.hid ((GroC.litAl w.drew hG (.cells #[.complex .f32 a b] 113) (c, d)).butT B5 (HH.out.l1.nlt (Nat.le_succ _))); clear O5 B5 p5; have e1 := Q5.out.block b1 HH.out.l1.lt HH.out.l1.ne HH.out.n21; have e2 := Q5.out.block b2 HH.out.l2.lt HH.out.n12 HH.out.l2.ne; have k1 := (World.cell?_of_block (a := ⟨b1, 0, none⟩) e1).trans hc1; have k2 := (World.cell?_of_block (a := ⟨b2, 0, none⟩) e2).trans hc2; clear e1 e2; have ka1 := cell_alc (Nat.lt_of_lt_of_le HH.out.l1.lt Q5.out.size) k1; have ka2 := cell_alc (Nat.lt_of_lt_of_le HH.out.l2.lt Q5.out.size) k2)
    | (refine stepGroX rfl _ _ rfl (G := G) (y := (a, b)) ((Q0.out.al (.cells #[.complex .f32 c d] 113)).al (.cells #[.complex .f32 a b] 113)).r1 (GroC.litAl w.drew hG (.cells #[.complex .f32 c d] 113) (a, b)) rfl rfl hl1 (Nat.le_trans hG ((Q0.out.al _).al _).size) ?_; intro g5 c5 w5 O5 B5 p5; have Q5 := Lib.hid (((Q0.out.al _).al _).up1 O5 B5 p5); have Y5 := Lib.hid (((GroC.lit1 w.drew hG (c, d)).al (.cells #[.complex .f32 a b] 113)).butT B5 (HH.out.l1.nlt (Nat.le_refl _))); clear O5 B5 p5; have e1 := Q5.out.block b1 HH.out.l1.lt HH.out.l1.ne HH.out.n21; have e2 := Q5.out.block b2 HH.out.l2.lt HH.out.n12 HH.out.l2.ne; have k1 := (World.cell?_of_block (a := ⟨b1, 0, none⟩) e1).trans hc1; have k2 := (World.cell?_of_block (a := ⟨b2, 0, none⟩) e2).trans hc2; clear e1 e2; have ka1 := cell_alc (Nat.lt_of_lt_of_le HH.out.l1.lt Q5.out.size) k1; have ka2 := cell_alc (Nat.lt_of_lt_of_le HH.out.l2.lt Q5.out.size) k2)
    | (refine stepGroX rfl _ _ rfl (G := G) (y := (a, b)) (Q5.out.al (.cells #[.complex .f32 a b] 113)).r1 (GroC.lit1 w5 (Nat.le_trans hG Q5.out.size) (a, b)) rfl rfl hl1 (Nat.le_trans hG (Q5.out.al _).size) ?_; intro g6 c6 w6 O6 B6 p6; have Q9 := Lib.hid ((Q5.out.al _).up1 O6 B6 p6); clear O6 B6 p6; have e1 := Q9.out.block b1 HH.out.l1.lt HH.out.l1.ne HH.out.n21; have e2 := Q9.out.block b2 HH.out.l2.lt HH.out.n12 HH.out.l2.ne; have k1 := (World.cell?_of_block (a := ⟨b1, 0, none⟩) e1).trans hc1; have k2 := (World.cell?_of_block (a := ⟨b2, 0, none⟩) e2).trans hc2; have x1 := (World.frozen?_of_block (a := ⟨b1, 0, none⟩) e1).trans hf1; have x2 := (World.frozen?_of_block (a := ⟨b2, 0, none⟩) e2).trans hf2; clear e1 e2)
    | (refine stepGroX rfl _ _ rfl (G := G) (y := (a, b)) Q5.out.r1 Y5.out rfl rfl hl1 (Nat.le_trans hG Q5.out.size) ?_; intro g6 c6 w6 O6 B6 p6; have Q9 := Lib.hid (Q5.out.up1 O6 B6 p6); clear O6 B6 p6; have e1 := Q9.out.block b1 HH.out.l1.lt HH.out.l1.ne HH.out.n21; have e2 := Q9.out.block b2 HH.out.l2.lt HH.out.n12 HH.out.l2.ne; have k1 := (World.cell?_of_block (a := ⟨b1, 0, none⟩) e1).trans hc1; have k2 := (World.cell?_of_block (a := ⟨b2, 0, none⟩) e2).trans hc2; have x1 := (World.frozen?_of_block (a := ⟨b1, 0, none⟩) e1).trans hf1; have x2 := (World.frozen?_of_block (a := ⟨b2, 0, none⟩) e2).trans hf2; clear e1 e2)
    | (refine stepGroX rfl _ _ rfl (G := G) (y := (c, d)) (Q0.out.al (.cells #[.complex .f32 c d] 113)).r2 (GroC.lit1 w.drew hG (c, d)) rfl rfl hl2 (Nat.le_trans hG (Q0.out.al _).size) ?_; intro g5 c5 w5 O5 B5 p5; have Q5 := Lib.hid ((Q0.out.al _).up2 O5 B5 p5); clear O5 B5 p5; have e1 := Q5.out.block b1 HH.out.l1.lt HH.out.l1.ne HH.out.n21; have e2 := Q5.out.block b2 HH.out.l2.lt HH.out.n12 HH.out.l2.ne; have k1 := (World.cell?_of_block (a := ⟨b1, 0, none⟩) e1).trans hc1; have k2 := (World.cell?_of_block (a := ⟨b2, 0, none⟩) e2).trans hc2; clear e1 e2; have ka1 := cell_alc (Nat.lt_of_lt_of_le HH.out.l1.lt Q5.out.size) k1; have ka2 := cell_alc (Nat.lt_of_lt_of_le HH.out.l2.lt Q5.out.size) k2)
    | (refine stepGroX rfl _ _ rfl (G := G) (y := (c, d)) ((Q0.out.al (.cells #[.complex .f32 c d] 113)).al (.cells #[.complex .f32 a b] 113)).r2 ((GroC.lit1 w.drew hG (c, d)).al _) rfl rfl hl2 (Nat.le_trans hG ((Q0.out.al _).al _).size) ?_; intro g5 c5 w5 O5 B5 p5; have Q5 := Lib.hid (((Q0.out.al _).al _).up2 O5 B5 p5); have Y5 := Lib.hid ((GroC.litAl w.drew hG (.cells #[.complex .f32 c d] 113) (a, b)).butT B5 (HH.out.l2.nlt (Nat.le_succ _))); clear O5 B5 p5; have e1 := Q5.out.block b1 HH.out.l1.lt HH.out.l1.ne HH.out.n21; have e2 := Q5.out.block b2 HH.out.l2.lt HH.out.n12 HH.out.l2.ne; have k1 := (World.cell?_of_block (a := ⟨b1, 0, none⟩) e1).trans hc1; have k2 := (World.cell?_of_block (a := ⟨b2, 0, none⟩) e2).trans hc2; clear e1 e2; have ka1 := cell_alc (Nat.lt_of_lt_of_le HH.out.l1.lt Q5.out.size) k1; have ka2 := cell_alc (Nat.lt_of_lt_of_le HH.out.l2.lt Q5.out.size) k2)
    | (refine stepGroX rfl _ _ rfl (G := G) (y := (c, d)) ((Q0.out.al (.cells #[.complex .f32 a b] 113)).al (.cells #[.complex .f32 c d] 113)).r2 (GroC.litAl w.drew hG (.cells #[.complex .f32 a b] 113) (c, d)) rfl rfl hl2 (Nat.le_trans hG ((Q0.out.al _).al _).size) ?_; intro g5 c5 w5 O5 B5 p5; have Q5 := Lib.hid (((Q0.out.al _).al _).up2 O5 B5 p5); have Y5 := Lib.hid (((GroC.lit1 w.drew hG (a, b)).al (.cells #[.complex .f32 c d] 113)).butT B5 (HH.out.l2.nlt (Nat.le_refl _))); clear O5 B5 p5; have e1 := Q5.out.block b1 HH.out.l1.lt HH.out.l1.ne HH.out.n21; have e2 := Q5.out.block b2 HH.out.l2.lt HH.out.n12 HH.out.l2.ne; have k1 := (World.cell?_of_block (a := ⟨b1, 0, none⟩) e1).trans hc1; have k2 := (World.cell?_of_block (a := ⟨b2, 0, none⟩) e2).trans hc2; clear e1 e2; have ka1 := cell_alc (Nat.lt_of_lt_of_le HH.out.l1.lt Q5.out.size) k1; have ka2 := cell_alc (Nat.lt_of_lt_of_le HH.out.l2.lt Q5.out.size) k2)
    | (refine stepGroX rfl _ _ rfl (G := G) (y := (c, d)) (Q5.out.al (.cells #[.complex .f32 c d] 113)).r2 (GroC.lit1 w5 (Nat.le_trans hG Q5.out.size) (c, d)) rfl rfl hl2 (Nat.le_trans hG (Q5.out.al _).size) ?_; intro g6 c6 w6 O6 B6 p6; have Q9 := Lib.hid ((Q5.out.al _).up2 O6 B6 p6); clear O6 B6 p6; have e1 := Q9.out.block b1 HH.out.l1.lt HH.out.l1.ne HH.out.n21; have e2 := Q9.out.block b2 HH.out.l2.lt HH.out.n12 HH.out.l2.ne; have k1 := (World.cell?_of_block (a := ⟨b1, 0, none⟩) e1).trans hc1; have k2 := (World.cell?_of_block (a := ⟨b2, 0, none⟩) e2).trans hc2; have x1 := (World.frozen?_of_block (a := ⟨b1, 0, none⟩) e1).trans hf1; have x2 := (World.frozen?_of_block (a := ⟨b2, 0, none⟩) e2).trans hf2; clear e1 e2)
    | (refine stepGroX rfl _ _ rfl (G := G) (y := (c, d)) Q5.out.r2 Y5.out rfl rfl hl2 (Nat.le_trans hG Q5.out.size) ?_; intro g6 c6 w6 O6 B6 p6; have Q9 := Lib.hid (Q5.out.up2 O6 B6 p6); clear O6 B6 p6; have e1 := Q9.out.block b1 HH.out.l1.lt HH.out.l1.ne HH.out.n21; have e2 := Q9.out.block b2 HH.out.l2.lt HH.out.n12 HH.out.l2.ne; have k1 := (World.cell?_of_block (a := ⟨b1, 0, none⟩) e1).trans hc1; have k2 := (World.cell?_of_block (a := ⟨b2, 0, none⟩) e2).trans hc2; have x1 := (World.frozen?_of_block (a := ⟨b1, 0, none⟩) e1).trans hf1; have x2 := (World.frozen?_of_block (a := ⟨b2, 0, none⟩) e2).trans hf2; clear e1 e2))
  all_goals
    have P9 := HH.out.put Q9.out
    simp only [List.length_append, List.length_singleton] at P9
    obtain ⟨P8, P7⟩ := P9
    have kk := P8.l2.cell
    simp only [List.length_append, List.length_singleton] at kk
    have HP8 := Lib.hid P8
    have HP7 := Lib.hid P7
    have n1 := Lib.hid Q9.out.n1
    have n2 := Lib.hid Q9.out.n2
    clear P8 P7 k1 k2 x1 x2 Q9 Q5 ka1 ka2 z1 z2 y1 y2 nn hnb hc1 hc2 hf1 hf2 Q0 s0 HH
    generalize World.setCell (World.setCell w6 _ _) _ _ = w7 at *
    go_wp2_with fail
    go_ret
    exact ⟨by show Ending.returned (Value.bool (decide ((L2.length : Int) + 1 ≤ 256))) = _; rw [HDC.out], _, _, _, _, HP8, HP7, n1, n2⟩
end Go.Proofs.Ythhimielelpcoaa
