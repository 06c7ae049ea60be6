/-
  What is proved here: the sides of a cell, as the model tells them, as walks. Conditions: sides of a field, a cell of it.
-/
import Derived.Test.YtnhcmloaanamnaaInb
import Derived.Test.YtnhcmloaanamnaaGri
namespace Go.Proofs.Ytnhcmloaanamnaa
open Go.RowKit
set_option linter.unusedVariables false

/-- an operation that appends integers -/
theorem isAppI {ops : Array Oper} {rest : List Oper} {o : Oper} {a : Act} {Q : Exit → Act → World → Prop} {w : World} (s x : Operand)
    (ho : o.op = .call { callee := .builtin .append, args := #[s, x], argTypes := #[23, 23] }) (h : wpList Try.prog ops Q (o :: rest) a w) : wpList Try.prog ops Q (o :: rest) a w := h
/-- the sides of a cell: above, left, right, below -/
def sidL (x y i : Int) : List Int := ((((if x ≤ i then [i - x] else []) ++ (if 0 < i % x then [i - 1] else [])) ++ (if i % x + 1 < x then [i + 1] else [])) ++ (if i + x < x * y then [i + x] else []))
theorem sidL_len (x y i : Int) : (sidL x y i).length ≤ 4 := by
  unfold sidL
  rw [List.length_append, List.length_append, List.length_append]
  repeat' split
  all_goals simp

set_option maxHeartbeats 1000000 in
theorem specBes0 (x y i : Int) (hx : 1 ≤ x ∧ x ≤ 16) (hy : 1 ≤ y ∧ y ≤ 16) (h0 : 0 ≤ i) (hi : i < x * y) (hm : x * y ≤ 256) (hw : IntKind.i64.wrap (x * y) = x * y) (w : World) (h1 : x ≤ i) (h2 : 0 < i % x) (h3 : i % x + 1 < x) (h4 : i + x < x * y) :
    Calls Try.prog 114 #[.int .i64 x, .int .i64 y, .int .i64 i] w fun e w' => ∃ A c, e = .returned (.slice A (sidL x y i).length c) ∧ Hid (GroI w' w.heap.size (sidL x y i) A c) ∧ Hid (Below w.heap.size w w') := by
  have E : sidL x y i = ((([i - x] ++ [i - 1]) ++ [i + 1]) ++ [i + x]) := by unfold sidL; rw [if_pos h1, if_pos h2, if_pos h3, if_pos h4]
  rw [E]
  have H0 : Hid (GroI (w.alloc (.cells #[] 2)) w.heap.size [] (some ⟨w.heap.size, 0, none⟩) 0) := GroI.lit w (Nat.le_refl _)
  have D0 : Hid (Below w.heap.size w (w.alloc (.cells #[] 2))) := (Below.refl _ _).alloc (Nat.le_refl _) _
  have G0 : Hid (w.heap.size ≤ (w.alloc (.cells #[] 2)).heap.size) := D0.out.size
  have hz : x ≠ 0 := by omega
  obtain ⟨m, hmm⟩ : ∃ m, m = x * y := ⟨_, rfl⟩
  rw [← hmm] at *
  have r0 := Int.emod_nonneg i hz
  have r1 := Int.emod_lt_of_pos i (show 0 < x by omega)
  obtain ⟨hx1, hx2⟩ := hx
  go_enter Try.func114, Try.ntmps114
  go_wp2_with (first | (at_builtin; refine isAppI _ _ rfl ?_; refine wpGroI rfl _ _ rfl (w0 := w3) (y := i + x) H3.out rfl rfl rfl (by simp) G3.out ?_; intro g4 c4 w4 O4 B4; have H4 := Lib.hid O4; have D4 := Lib.hid (D3.out.trans B4); have G4 : Hid (w.heap.size ≤ w4.heap.size) := D4.out.size; clear O4 B4) | (at_builtin; refine isAppI _ _ rfl ?_; refine wpGroI rfl _ _ rfl (w0 := w2) (y := i + 1) H2.out rfl rfl rfl (by simp) G2.out ?_; intro g3 c3 w3 O3 B3; have H3 := Lib.hid O3; have D3 := Lib.hid (D2.out.trans B3); have G3 : Hid (w.heap.size ≤ w3.heap.size) := D3.out.size; clear O3 B3) | (at_builtin; refine isAppI _ _ rfl ?_; refine wpGroI rfl _ _ rfl (w0 := w1) (y := i - 1) H1.out rfl rfl rfl (by simp) G1.out ?_; intro g2 c2 w2 O2 B2; have H2 := Lib.hid O2; have D2 := Lib.hid (D1.out.trans B2); have G2 : Hid (w.heap.size ≤ w2.heap.size) := D2.out.size; clear O2 B2) | (at_builtin; refine isAppI _ _ rfl ?_; refine wpGroI rfl _ _ rfl (w0 := (w.alloc (.cells #[] 2))) (y := i - x) H0.out rfl rfl (by simp [Act.eval]) (by simp) G0.out ?_; intro g1 c1 w1 O1 B1; have H1 := Lib.hid O1; have D1 := Lib.hid (D0.out.trans B1); have G1 : Hid (w.heap.size ≤ w1.heap.size) := D1.out.size; clear O1 B1))
  go_ret
  exact ⟨_, _, rfl, H4, D4⟩
set_option maxHeartbeats 1000000 in
theorem specBes1 (x y i : Int) (hx : 1 ≤ x ∧ x ≤ 16) (hy : 1 ≤ y ∧ y ≤ 16) (h0 : 0 ≤ i) (hi : i < x * y) (hm : x * y ≤ 256) (hw : IntKind.i64.wrap (x * y) = x * y) (w : World) (h1 : x ≤ i) (h2 : 0 < i % x) (h3 : i % x + 1 < x) (h4 : ¬ (i + x < x * y)) :
    Calls Try.prog 114 #[.int .i64 x, .int .i64 y, .int .i64 i] w fun e w' => ∃ A c, e = .returned (.slice A (sidL x y i).length c) ∧ Hid (GroI w' w.heap.size (sidL x y i) A c) ∧ Hid (Below w.heap.size w w') := by
  have E : sidL x y i = ((([i - x] ++ [i - 1]) ++ [i + 1]) ++ []) := by unfold sidL; rw [if_pos h1, if_pos h2, if_pos h3, if_neg h4]
  rw [E]
  have H0 : Hid (GroI (w.alloc (.cells #[] 2)) w.heap.size [] (some ⟨w.heap.size, 0, none⟩) 0) := GroI.lit w (Nat.le_refl _)
  have D0 : Hid (Below w.heap.size w (w.alloc (.cells #[] 2))) := (Below.refl _ _).alloc (Nat.le_refl _) _
  have G0 : Hid (w.heap.size ≤ (w.alloc (.cells #[] 2)).heap.size) := D0.out.size
  have hz : x ≠ 0 := by omega
  obtain ⟨m, hmm⟩ : ∃ m, m = x * y := ⟨_, rfl⟩
  rw [← hmm] at *
  have r0 := Int.emod_nonneg i hz
  have r1 := Int.emod_lt_of_pos i (show 0 < x by omega)
  obtain ⟨hx1, hx2⟩ := hx
  go_enter Try.func114, Try.ntmps114
  go_wp2_with (first | (at_builtin; refine isAppI _ _ rfl ?_; refine wpGroI rfl _ _ rfl (w0 := w2) (y := i + 1) H2.out rfl rfl rfl (by simp) G2.out ?_; intro g3 c3 w3 O3 B3; have H3 := Lib.hid O3; have D3 := Lib.hid (D2.out.trans B3); have G3 : Hid (w.heap.size ≤ w3.heap.size) := D3.out.size; clear O3 B3) | (at_builtin; refine isAppI _ _ rfl ?_; refine wpGroI rfl _ _ rfl (w0 := w1) (y := i - 1) H1.out rfl rfl rfl (by simp) G1.out ?_; intro g2 c2 w2 O2 B2; have H2 := Lib.hid O2; have D2 := Lib.hid (D1.out.trans B2); have G2 : Hid (w.heap.size ≤ w2.heap.size) := D2.out.size; clear O2 B2) | (at_builtin; refine isAppI _ _ rfl ?_; refine wpGroI rfl _ _ rfl (w0 := (w.alloc (.cells #[] 2))) (y := i - x) H0.out rfl rfl (by simp [Act.eval]) (by simp) G0.out ?_; intro g1 c1 w1 O1 B1; have H1 := Lib.hid O1; have D1 := Lib.hid (D0.out.trans B1); have G1 : Hid (w.heap.size ≤ w1.heap.size) := D1.out.size; clear O1 B1))
  go_ret
  exact ⟨_, _, rfl, H3, D3⟩
set_option maxHeartbeats 1000000 in
theorem specBes2 (x y i : Int) (hx : 1 ≤ x ∧ x ≤ 16) (hy : 1 ≤ y ∧ y ≤ 16) (h0 : 0 ≤ i) (hi : i < x * y) (hm : x * y ≤ 256) (hw : IntKind.i64.wrap (x * y) = x * y) (w : World) (h1 : x ≤ i) (h2 : 0 < i % x) (h3 : ¬ (i % x + 1 < x)) (h4 : i + x < x * y) :
    Calls Try.prog 114 #[.int .i64 x, .int .i64 y, .int .i64 i] w fun e w' => ∃ A c, e = .returned (.slice A (sidL x y i).length c) ∧ Hid (GroI w' w.heap.size (sidL x y i) A c) ∧ Hid (Below w.heap.size w w') := by
  have E : sidL x y i = ((([i - x] ++ [i - 1]) ++ []) ++ [i + x]) := by unfold sidL; rw [if_pos h1, if_pos h2, if_neg h3, if_pos h4]
  rw [E]
  have H0 : Hid (GroI (w.alloc (.cells #[] 2)) w.heap.size [] (some ⟨w.heap.size, 0, none⟩) 0) := GroI.lit w (Nat.le_refl _)
  have D0 : Hid (Below w.heap.size w (w.alloc (.cells #[] 2))) := (Below.refl _ _).alloc (Nat.le_refl _) _
  have G0 : Hid (w.heap.size ≤ (w.alloc (.cells #[] 2)).heap.size) := D0.out.size
  have hz : x ≠ 0 := by omega
  obtain ⟨m, hmm⟩ : ∃ m, m = x * y := ⟨_, rfl⟩
  rw [← hmm] at *
  have r0 := Int.emod_nonneg i hz
  have r1 := Int.emod_lt_of_pos i (show 0 < x by omega)
  obtain ⟨hx1, hx2⟩ := hx
  go_enter Try.func114, Try.ntmps114
  go_wp2_with (first | (at_builtin; refine isAppI _ _ rfl ?_; refine wpGroI rfl _ _ rfl (w0 := w2) (y := i + x) H2.out rfl rfl rfl (by simp) G2.out ?_; intro g3 c3 w3 O3 B3; have H3 := Lib.hid O3; have D3 := Lib.hid (D2.out.trans B3); have G3 : Hid (w.heap.size ≤ w3.heap.size) := D3.out.size; clear O3 B3) | (at_builtin; refine isAppI _ _ rfl ?_; refine wpGroI rfl _ _ rfl (w0 := w1) (y := i - 1) H1.out rfl rfl rfl (by simp) G1.out ?_; intro g2 c2 w2 O2 B2; have H2 := Lib.hid O2; have D2 := Lib.hid (D1.out.trans B2); have G2 : Hid (w.heap.size ≤ w2.heap.size) := D2.out.size; clear O2 B2) | (at_builtin; refine isAppI _ _ rfl ?_; refine wpGroI rfl _ _ rfl (w0 := (w.alloc (.cells #[] 2))) (y := i - x) H0.out rfl rfl (by simp [Act.eval]) (by simp) G0.out ?_; intro g1 c1 w1 O1 B1; have H1 := Lib.hid O1; have D1 := Lib.hid (D0.out.trans B1); have G1 : Hid (w.heap.size ≤ w1.heap.size) := D1.out.size; clear O1 B1))
  go_ret
  exact ⟨_, _, rfl, H3, D3⟩
set_option maxHeartbeats 1000000 in
theorem specBes3 (x y i : Int) (hx : 1 ≤ x ∧ x ≤ 16) (hy : 1 ≤ y ∧ y ≤ 16) (h0 : 0 ≤ i) (hi : i < x * y) (hm : x * y ≤ 256) (hw : IntKind.i64.wrap (x * y) = x * y) (w : World) (h1 : x ≤ i) (h2 : 0 < i % x) (h3 : ¬ (i % x + 1 < x)) (h4 : ¬ (i + x < x * y)) :
    Calls Try.prog 114 #[.int .i64 x, .int .i64 y, .int .i64 i] w fun e w' => ∃ A c, e = .returned (.slice A (sidL x y i).length c) ∧ Hid (GroI w' w.heap.size (sidL x y i) A c) ∧ Hid (Below w.heap.size w w') := by
  have E : sidL x y i = ((([i - x] ++ [i - 1]) ++ []) ++ []) := by unfold sidL; rw [if_pos h1, if_pos h2, if_neg h3, if_neg h4]
  rw [E]
  have H0 : Hid (GroI (w.alloc (.cells #[] 2)) w.heap.size [] (some ⟨w.heap.size, 0, none⟩) 0) := GroI.lit w (Nat.le_refl _)
  have D0 : Hid (Below w.heap.size w (w.alloc (.cells #[] 2))) := (Below.refl _ _).alloc (Nat.le_refl _) _
  have G0 : Hid (w.heap.size ≤ (w.alloc (.cells #[] 2)).heap.size) := D0.out.size
  have hz : x ≠ 0 := by omega
  obtain ⟨m, hmm⟩ : ∃ m, m = x * y := ⟨_, rfl⟩
  rw [← hmm] at *
  have r0 := Int.emod_nonneg i hz
  have r1 := Int.emod_lt_of_pos i (show 0 < x by omega)
  obtain ⟨hx1, hx2⟩ := hx
  go_enter Try.func114, Try.ntmps114
  go_wp2_with (first | (at_builtin; refine isAppI _ _ rfl ?_; refine wpGroI rfl _ _ rfl (w0 := w1) (y := i - 1) H1.out rfl rfl rfl (by simp) G1.out ?_; intro g2 c2 w2 O2 B2; have H2 := Lib.hid O2; have D2 := Lib.hid (D1.out.trans B2); have G2 : Hid (w.heap.size ≤ w2.heap.size) := D2.out.size; clear O2 B2) | (at_builtin; refine isAppI _ _ rfl ?_; refine wpGroI rfl _ _ rfl (w0 := (w.alloc (.cells #[] 2))) (y := i - x) H0.out rfl rfl (by simp [Act.eval]) (by simp) G0.out ?_; intro g1 c1 w1 O1 B1; have H1 := Lib.hid O1; have D1 := Lib.hid (D0.out.trans B1); have G1 : Hid (w.heap.size ≤ w1.heap.size) := D1.out.size; clear O1 B1))
  go_ret
  exact ⟨_, _, rfl, H2, D2⟩
set_option maxHeartbeats 1000000 in
theorem specBes4 (x y i : Int) (hx : 1 ≤ x ∧ x ≤ 16) (hy : 1 ≤ y ∧ y ≤ 16) (h0 : 0 ≤ i) (hi : i < x * y) (hm : x * y ≤ 256) (hw : IntKind.i64.wrap (x * y) = x * y) (w : World) (h1 : x ≤ i) (h2 : ¬ (0 < i % x)) (h3 : i % x + 1 < x) (h4 : i + x < x * y) :
    Calls Try.prog 114 #[.int .i64 x, .int .i64 y, .int .i64 i] w fun e w' => ∃ A c, e = .returned (.slice A (sidL x y i).length c) ∧ Hid (GroI w' w.heap.size (sidL x y i) A c) ∧ Hid (Below w.heap.size w w') := by
  have E : sidL x y i = ((([i - x] ++ []) ++ [i + 1]) ++ [i + x]) := by unfold sidL; rw [if_pos h1, if_neg h2, if_pos h3, if_pos h4]
  rw [E]
  have H0 : Hid (GroI (w.alloc (.cells #[] 2)) w.heap.size [] (some ⟨w.heap.size, 0, none⟩) 0) := GroI.lit w (Nat.le_refl _)
  have D0 : Hid (Below w.heap.size w (w.alloc (.cells #[] 2))) := (Below.refl _ _).alloc (Nat.le_refl _) _
  have G0 : Hid (w.heap.size ≤ (w.alloc (.cells #[] 2)).heap.size) := D0.out.size
  have hz : x ≠ 0 := by omega
  obtain ⟨m, hmm⟩ : ∃ m, m = x * y := ⟨_, rfl⟩
  rw [← hmm] at *
  have r0 := Int.emod_nonneg i hz
  have r1 := Int.emod_lt_of_pos i (show 0 < x by omega)
  obtain ⟨hx1, hx2⟩ := hx
  go_enter Try.func114, Try.ntmps114
  go_wp2_with (first | (at_builtin; refine isAppI _ _ rfl ?_; refine wpGroI rfl _ _ rfl (w0 := w2) (y := i + x) H2.out rfl rfl rfl (by simp) G2.out ?_; intro g3 c3 w3 O3 B3; have H3 := Lib.hid O3; have D3 := Lib.hid (D2.out.trans B3); have G3 : Hid (w.heap.size ≤ w3.heap.size) := D3.out.size; clear O3 B3) | (at_builtin; refine isAppI _ _ rfl ?_; refine wpGroI rfl _ _ rfl (w0 := w1) (y := i + 1) H1.out rfl rfl rfl (by simp) G1.out ?_; intro g2 c2 w2 O2 B2; have H2 := Lib.hid O2; have D2 := Lib.hid (D1.out.trans B2); have G2 : Hid (w.heap.size ≤ w2.heap.size) := D2.out.size; clear O2 B2) | (at_builtin; refine isAppI _ _ rfl ?_; refine wpGroI rfl _ _ rfl (w0 := (w.alloc (.cells #[] 2))) (y := i - x) H0.out rfl rfl (by simp [Act.eval]) (by simp) G0.out ?_; intro g1 c1 w1 O1 B1; have H1 := Lib.hid O1; have D1 := Lib.hid (D0.out.trans B1); have G1 : Hid (w.heap.size ≤ w1.heap.size) := D1.out.size; clear O1 B1))
  go_ret
  exact ⟨_, _, rfl, H3, D3⟩
set_option maxHeartbeats 1000000 in
theorem specBes5 (x y i : Int) (hx : 1 ≤ x ∧ x ≤ 16) (hy : 1 ≤ y ∧ y ≤ 16) (h0 : 0 ≤ i) (hi : i < x * y) (hm : x * y ≤ 256) (hw : IntKind.i64.wrap (x * y) = x * y) (w : World) (h1 : x ≤ i) (h2 : ¬ (0 < i % x)) (h3 : i % x + 1 < x) (h4 : ¬ (i + x < x * y)) :
    Calls Try.prog 114 #[.int .i64 x, .int .i64 y, .int .i64 i] w fun e w' => ∃ A c, e = .returned (.slice A (sidL x y i).length c) ∧ Hid (GroI w' w.heap.size (sidL x y i) A c) ∧ Hid (Below w.heap.size w w') := by
  have E : sidL x y i = ((([i - x] ++ []) ++ [i + 1]) ++ []) := by unfold sidL; rw [if_pos h1, if_neg h2, if_pos h3, if_neg h4]
  rw [E]
  have H0 : Hid (GroI (w.alloc (.cells #[] 2)) w.heap.size [] (some ⟨w.heap.size, 0, none⟩) 0) := GroI.lit w (Nat.le_refl _)
  have D0 : Hid (Below w.heap.size w (w.alloc (.cells #[] 2))) := (Below.refl _ _).alloc (Nat.le_refl _) _
  have G0 : Hid (w.heap.size ≤ (w.alloc (.cells #[] 2)).heap.size) := D0.out.size
  have hz : x ≠ 0 := by omega
  obtain ⟨m, hmm⟩ : ∃ m, m = x * y := ⟨_, rfl⟩
  rw [← hmm] at *
  have r0 := Int.emod_nonneg i hz
  have r1 := Int.emod_lt_of_pos i (show 0 < x by omega)
  obtain ⟨hx1, hx2⟩ := hx
  go_enter Try.func114, Try.ntmps114
  go_wp2_with (first | (at_builtin; refine isAppI _ _ rfl ?_; refine wpGroI rfl _ _ rfl (w0 := w1) (y := i + 1) H1.out rfl rfl rfl (by simp) G1.out ?_; intro g2 c2 w2 O2 B2; have H2 := Lib.hid O2; have D2 := Lib.hid (D1.out.trans B2); have G2 : Hid (w.heap.size ≤ w2.heap.size) := D2.out.size; clear O2 B2) | (at_builtin; refine isAppI _ _ rfl ?_; refine wpGroI rfl _ _ rfl (w0 := (w.alloc (.cells #[] 2))) (y := i - x) H0.out rfl rfl (by simp [Act.eval]) (by simp) G0.out ?_; intro g1 c1 w1 O1 B1; have H1 := Lib.hid O1; have D1 := Lib.hid (D0.out.trans B1); have G1 : Hid (w.heap.size ≤ w1.heap.size) := D1.out.size; clear O1 B1))
  go_ret
  exact ⟨_, _, rfl, H2, D2⟩
set_option maxHeartbeats 1000000 in
theorem specBes6 (x y i : Int) (hx : 1 ≤ x ∧ x ≤ 16) (hy : 1 ≤ y ∧ y ≤ 16) (h0 : 0 ≤ i) (hi : i < x * y) (hm : x * y ≤ 256) (hw : IntKind.i64.wrap (x * y) = x * y) (w : World) (h1 : x ≤ i) (h2 : ¬ (0 < i % x)) (h3 : ¬ (i % x + 1 < x)) (h4 : i + x < x * y) :
    Calls Try.prog 114 #[.int .i64 x, .int .i64 y, .int .i64 i] w fun e w' => ∃ A c, e = .returned (.slice A (sidL x y i).length c) ∧ Hid (GroI w' w.heap.size (sidL x y i) A c) ∧ Hid (Below w.heap.size w w') := by
  have E : sidL x y i = ((([i - x] ++ []) ++ []) ++ [i + x]) := by unfold sidL; rw [if_pos h1, if_neg h2, if_neg h3, if_pos h4]
  rw [E]
  have H0 : Hid (GroI (w.alloc (.cells #[] 2)) w.heap.size [] (some ⟨w.heap.size, 0, none⟩) 0) := GroI.lit w (Nat.le_refl _)
  have D0 : Hid (Below w.heap.size w (w.alloc (.cells #[] 2))) := (Below.refl _ _).alloc (Nat.le_refl _) _
  have G0 : Hid (w.heap.size ≤ (w.alloc (.cells #[] 2)).heap.size) := D0.out.size
  have hz : x ≠ 0 := by omega
  obtain ⟨m, hmm⟩ : ∃ m, m = x * y := ⟨_, rfl⟩
  rw [← hmm] at *
  have r0 := Int.emod_nonneg i hz
  have r1 := Int.emod_lt_of_pos i (show 0 < x by omega)
  obtain ⟨hx1, hx2⟩ := hx
  go_enter Try.func114, Try.ntmps114
  go_wp2_with (first | (at_builtin; refine isAppI _ _ rfl ?_; refine wpGroI rfl _ _ rfl (w0 := w1) (y := i + x) H1.out rfl rfl rfl (by simp) G1.out ?_; intro g2 c2 w2 O2 B2; have H2 := Lib.hid O2; have D2 := Lib.hid (D1.out.trans B2); have G2 : Hid (w.heap.size ≤ w2.heap.size) := D2.out.size; clear O2 B2) | (at_builtin; refine isAppI _ _ rfl ?_; refine wpGroI rfl _ _ rfl (w0 := (w.alloc (.cells #[] 2))) (y := i - x) H0.out rfl rfl (by simp [Act.eval]) (by simp) G0.out ?_; intro g1 c1 w1 O1 B1; have H1 := Lib.hid O1; have D1 := Lib.hid (D0.out.trans B1); have G1 : Hid (w.heap.size ≤ w1.heap.size) := D1.out.size; clear O1 B1))
  go_ret
  exact ⟨_, _, rfl, H2, D2⟩
set_option maxHeartbeats 1000000 in
theorem specBes7 (x y i : Int) (hx : 1 ≤ x ∧ x ≤ 16) (hy : 1 ≤ y ∧ y ≤ 16) (h0 : 0 ≤ i) (hi : i < x * y) (hm : x * y ≤ 256) (hw : IntKind.i64.wrap (x * y) = x * y) (w : World) (h1 : x ≤ i) (h2 : ¬ (0 < i % x)) (h3 : ¬ (i % x + 1 < x)) (h4 : ¬ (i + x < x * y)) :
    Calls Try.prog 114 #[.int .i64 x, .int .i64 y, .int .i64 i] w fun e w' => ∃ A c, e = .returned (.slice A (sidL x y i).length c) ∧ Hid (GroI w' w.heap.size (sidL x y i) A c) ∧ Hid (Below w.heap.size w w') := by
  have E : sidL x y i = ((([i - x] ++ []) ++ []) ++ []) := by unfold sidL; rw [if_pos h1, if_neg h2, if_neg h3, if_neg h4]
  rw [E]
  have H0 : Hid (GroI (w.alloc (.cells #[] 2)) w.heap.size [] (some ⟨w.heap.size, 0, none⟩) 0) := GroI.lit w (Nat.le_refl _)
  have D0 : Hid (Below w.heap.size w (w.alloc (.cells #[] 2))) := (Below.refl _ _).alloc (Nat.le_refl _) _
  have G0 : Hid (w.heap.size ≤ (w.alloc (.cells #[] 2)).heap.size) := D0.out.size
  have hz : x ≠ 0 := by omega
  obtain ⟨m, hmm⟩ : ∃ m, m = x * y := ⟨_, rfl⟩
  rw [← hmm] at *
  have r0 := Int.emod_nonneg i hz
  have r1 := Int.emod_lt_of_pos i (show 0 < x by omega)
  obtain ⟨hx1, hx2⟩ := hx
  go_enter Try.func114, Try.ntmps114
  go_wp2_with (first | (at_builtin; refine isAppI _ _ rfl ?_; refine wpGroI rfl _ _ rfl (w0 := (w.alloc (.cells #[] 2))) (y := i - x) H0.out rfl rfl (by simp [Act.eval]) (by simp) G0.out ?_; intro g1 c1 w1 O1 B1; have H1 := Lib.hid O1; have D1 := Lib.hid (D0.out.trans B1); have G1 : Hid (w.heap.size ≤ w1.heap.size) := D1.out.size; clear O1 B1))
  go_ret
  exact ⟨_, _, rfl, H1, D1⟩
set_option maxHeartbeats 1000000 in
theorem specBes8 (x y i : Int) (hx : 1 ≤ x ∧ x ≤ 16) (hy : 1 ≤ y ∧ y ≤ 16) (h0 : 0 ≤ i) (hi : i < x * y) (hm : x * y ≤ 256) (hw : IntKind.i64.wrap (x * y) = x * y) (w : World) (h1 : ¬ (x ≤ i)) (h2 : 0 < i % x) (h3 : i % x + 1 < x) (h4 : i + x < x * y) :
    Calls Try.prog 114 #[.int .i64 x, .int .i64 y, .int .i64 i] w fun e w' => ∃ A c, e = .returned (.slice A (sidL x y i).length c) ∧ Hid (GroI w' w.heap.size (sidL x y i) A c) ∧ Hid (Below w.heap.size w w') := by
  have E : sidL x y i = (((([] : List Int) ++ [i - 1]) ++ [i + 1]) ++ [i + x]) := by unfold sidL; rw [if_neg h1, if_pos h2, if_pos h3, if_pos h4]
  rw [E]
  have H0 : Hid (GroI (w.alloc (.cells #[] 2)) w.heap.size [] (some ⟨w.heap.size, 0, none⟩) 0) := GroI.lit w (Nat.le_refl _)
  have D0 : Hid (Below w.heap.size w (w.alloc (.cells #[] 2))) := (Below.refl _ _).alloc (Nat.le_refl _) _
  have G0 : Hid (w.heap.size ≤ (w.alloc (.cells #[] 2)).heap.size) := D0.out.size
  have hz : x ≠ 0 := by omega
  obtain ⟨m, hmm⟩ : ∃ m, m = x * y := ⟨_, rfl⟩
  rw [← hmm] at *
  have r0 := Int.emod_nonneg i hz
  have r1 := Int.emod_lt_of_pos i (show 0 < x by omega)
  obtain ⟨hx1, hx2⟩ := hx
  go_enter Try.func114, Try.ntmps114
  go_wp2_with (first | (at_builtin; refine isAppI _ _ rfl ?_; refine wpGroI rfl _ _ rfl (w0 := w2) (y := i + x) H2.out rfl rfl rfl (by simp) G2.out ?_; intro g3 c3 w3 O3 B3; have H3 := Lib.hid O3; have D3 := Lib.hid (D2.out.trans B3); have G3 : Hid (w.heap.size ≤ w3.heap.size) := D3.out.size; clear O3 B3) | (at_builtin; refine isAppI _ _ rfl ?_; refine wpGroI rfl _ _ rfl (w0 := w1) (y := i + 1) H1.out rfl rfl rfl (by simp) G1.out ?_; intro g2 c2 w2 O2 B2; have H2 := Lib.hid O2; have D2 := Lib.hid (D1.out.trans B2); have G2 : Hid (w.heap.size ≤ w2.heap.size) := D2.out.size; clear O2 B2) | (at_builtin; refine isAppI _ _ rfl ?_; refine wpGroI rfl _ _ rfl (w0 := (w.alloc (.cells #[] 2))) (y := i - 1) H0.out rfl rfl (by simp [Act.eval]) (by simp) G0.out ?_; intro g1 c1 w1 O1 B1; have H1 := Lib.hid O1; have D1 := Lib.hid (D0.out.trans B1); have G1 : Hid (w.heap.size ≤ w1.heap.size) := D1.out.size; clear O1 B1))
  go_ret
  exact ⟨_, _, rfl, H3, D3⟩
set_option maxHeartbeats 1000000 in
theorem specBes9 (x y i : Int) (hx : 1 ≤ x ∧ x ≤ 16) (hy : 1 ≤ y ∧ y ≤ 16) (h0 : 0 ≤ i) (hi : i < x * y) (hm : x * y ≤ 256) (hw : IntKind.i64.wrap (x * y) = x * y) (w : World) (h1 : ¬ (x ≤ i)) (h2 : 0 < i % x) (h3 : i % x + 1 < x) (h4 : ¬ (i + x < x * y)) :
    Calls Try.prog 114 #[.int .i64 x, .int .i64 y, .int .i64 i] w fun e w' => ∃ A c, e = .returned (.slice A (sidL x y i).length c) ∧ Hid (GroI w' w.heap.size (sidL x y i) A c) ∧ Hid (Below w.heap.size w w') := by
  have E : sidL x y i = (((([] : List Int) ++ [i - 1]) ++ [i + 1]) ++ []) := by unfold sidL; rw [if_neg h1, if_pos h2, if_pos h3, if_neg h4]
  rw [E]
  have H0 : Hid (GroI (w.alloc (.cells #[] 2)) w.heap.size [] (some ⟨w.heap.size, 0, none⟩) 0) := GroI.lit w (Nat.le_refl _)
  have D0 : Hid (Below w.heap.size w (w.alloc (.cells #[] 2))) := (Below.refl _ _).alloc (Nat.le_refl _) _
  have G0 : Hid (w.heap.size ≤ (w.alloc (.cells #[] 2)).heap.size) := D0.out.size
  have hz : x ≠ 0 := by omega
  obtain ⟨m, hmm⟩ : ∃ m, m = x * y := ⟨_, rfl⟩
  rw [← hmm] at *
  have r0 := Int.emod_nonneg i hz
  have r1 := Int.emod_lt_of_pos i (show 0 < x by omega)
  obtain ⟨hx1, hx2⟩ := hx
  go_enter Try.func114, Try.ntmps114
  go_wp2_with (first | (at_builtin; refine isAppI _ _ rfl ?_; refine wpGroI rfl _ _ rfl (w0 := w1) (y := i + 1) H1.out rfl rfl rfl (by simp) G1.out ?_; intro g2 c2 w2 O2 B2; have H2 := Lib.hid O2; have D2 := Lib.hid (D1.out.trans B2); have G2 : Hid (w.heap.size ≤ w2.heap.size) := D2.out.size; clear O2 B2) | (at_builtin; refine isAppI _ _ rfl ?_; refine wpGroI rfl _ _ rfl (w0 := (w.alloc (.cells #[] 2))) (y := i - 1) H0.out rfl rfl (by simp [Act.eval]) (by simp) G0.out ?_; intro g1 c1 w1 O1 B1; have H1 := Lib.hid O1; have D1 := Lib.hid (D0.out.trans B1); have G1 : Hid (w.heap.size ≤ w1.heap.size) := D1.out.size; clear O1 B1))
  go_ret
  exact ⟨_, _, rfl, H2, D2⟩
set_option maxHeartbeats 1000000 in
theorem specBes10 (x y i : Int) (hx : 1 ≤ x ∧ x ≤ 16) (hy : 1 ≤ y ∧ y ≤ 16) (h0 : 0 ≤ i) (hi : i < x * y) (hm : x * y ≤ 256) (hw : IntKind.i64.wrap (x * y) = x * y) (w : World) (h1 : ¬ (x ≤ i)) (h2 : 0 < i % x) (h3 : ¬ (i % x + 1 < x)) (h4 : i + x < x * y) :
    Calls Try.prog 114 #[.int .i64 x, .int .i64 y, .int .i64 i] w fun e w' => ∃ A c, e = .returned (.slice A (sidL x y i).length c) ∧ Hid (GroI w' w.heap.size (sidL x y i) A c) ∧ Hid (Below w.heap.size w w') := by
  have E : sidL x y i = (((([] : List Int) ++ [i - 1]) ++ []) ++ [i + x]) := by unfold sidL; rw [if_neg h1, if_pos h2, if_neg h3, if_pos h4]
  rw [E]
  have H0 : Hid (GroI (w.alloc (.cells #[] 2)) w.heap.size [] (some ⟨w.heap.size, 0, none⟩) 0) := GroI.lit w (Nat.le_refl _)
  have D0 : Hid (Below w.heap.size w (w.alloc (.cells #[] 2))) := (Below.refl _ _).alloc (Nat.le_refl _) _
  have G0 : Hid (w.heap.size ≤ (w.alloc (.cells #[] 2)).heap.size) := D0.out.size
  have hz : x ≠ 0 := by omega
  obtain ⟨m, hmm⟩ : ∃ m, m = x * y := ⟨_, rfl⟩
  rw [← hmm] at *
  have r0 := Int.emod_nonneg i hz
  have r1 := Int.emod_lt_of_pos i (show 0 < x by omega)
  obtain ⟨hx1, hx2⟩ := hx
  go_enter Try.func114, Try.ntmps114
  go_wp2_with (first | (at_builtin; refine isAppI _ _ rfl ?_; refine wpGroI rfl _ _ rfl (w0 := w1) (y := i + x) H1.out rfl rfl rfl (by simp) G1.out ?_; intro g2 c2 w2 O2 B2; have H2 := Lib.hid O2; have D2 := Lib.hid (D1.out.trans B2); have G2 : Hid (w.heap.size ≤ w2.heap.size) := D2.out.size; clear O2 B2) | (at_builtin; refine isAppI _ _ rfl ?_; refine wpGroI rfl _ _ rfl (w0 := (w.alloc (.cells #[] 2))) (y := i - 1) H0.out rfl rfl (by simp [Act.eval]) (by simp) G0.out ?_; intro g1 c1 w1 O1 B1; have H1 := Lib.hid O1; have D1 := Lib.hid (D0.out.trans B1); have G1 : Hid (w.heap.size ≤ w1.heap.size) := D1.out.size; clear O1 B1))
  go_ret
  exact ⟨_, _, rfl, H2, D2⟩
set_option maxHeartbeats 1000000 in
theorem specBes11 (x y i : Int) (hx : 1 ≤ x ∧ x ≤ 16) (hy : 1 ≤ y ∧ y ≤ 16) (h0 : 0 ≤ i) (hi : i < x * y) (hm : x * y ≤ 256) (hw : IntKind.i64.wrap (x * y) = x * y) (w : World) (h1 : ¬ (x ≤ i)) (h2 : 0 < i % x) (h3 : ¬ (i % x + 1 < x)) (h4 : ¬ (i + x < x * y)) :
    Calls Try.prog 114 #[.int .i64 x, .int .i64 y, .int .i64 i] w fun e w' => ∃ A c, e = .returned (.slice A (sidL x y i).length c) ∧ Hid (GroI w' w.heap.size (sidL x y i) A c) ∧ Hid (Below w.heap.size w w') := by
  have E : sidL x y i = (((([] : List Int) ++ [i - 1]) ++ []) ++ []) := by unfold sidL; rw [if_neg h1, if_pos h2, if_neg h3, if_neg h4]
  rw [E]
  have H0 : Hid (GroI (w.alloc (.cells #[] 2)) w.heap.size [] (some ⟨w.heap.size, 0, none⟩) 0) := GroI.lit w (Nat.le_refl _)
  have D0 : Hid (Below w.heap.size w (w.alloc (.cells #[] 2))) := (Below.refl _ _).alloc (Nat.le_refl _) _
  have G0 : Hid (w.heap.size ≤ (w.alloc (.cells #[] 2)).heap.size) := D0.out.size
  have hz : x ≠ 0 := by omega
  obtain ⟨m, hmm⟩ : ∃ m, m = x * y := ⟨_, rfl⟩
  rw [← hmm] at *
  have r0 := Int.emod_nonneg i hz
  have r1 := Int.emod_lt_of_pos i (show 0 < x by omega)
  obtain ⟨hx1, hx2⟩ := hx
  go_enter Try.func114, Try.ntmps114
  go_wp2_with (first | (at_builtin; refine isAppI _ _ rfl ?_; refine wpGroI rfl _ _ rfl (w0 := (w.alloc (.cells #[] 2))) (y := i - 1) H0.out rfl rfl (by simp [Act.eval]) (by simp) G0.out ?_; intro g1 c1 w1 O1 B1; have H1 := Lib.hid O1; have D1 := Lib.hid (D0.out.trans B1); have G1 : Hid (w.heap.size ≤ w1.heap.size) := D1.out.size; clear O1 B1))
  go_ret
  exact ⟨_, _, rfl, H1, D1⟩
set_option maxHeartbeats 1000000 in
theorem specBes12 (x y i : Int) (hx : 1 ≤ x ∧ x ≤ 16) (hy : 1 ≤ y ∧ y ≤ 16) (h0 : 0 ≤ i) (hi : i < x * y) (hm : x * y ≤ 256) (hw : IntKind.i64.wrap (x * y) = x * y) (w : World) (h1 : ¬ (x ≤ i)) (h2 : ¬ (0 < i % x)) (h3 : i % x + 1 < x) (h4 : i + x < x * y) :
    Calls Try.prog 114 #[.int .i64 x, .int .i64 y, .int .i64 i] w fun e w' => ∃ A c, e = .returned (.slice A (sidL x y i).length c) ∧ Hid (GroI w' w.heap.size (sidL x y i) A c) ∧ Hid (Below w.heap.size w w') := by
  have E : sidL x y i = (((([] : List Int) ++ []) ++ [i + 1]) ++ [i + x]) := by unfold sidL; rw [if_neg h1, if_neg h2, if_pos h3, if_pos h4]
  rw [E]
  have H0 : Hid (GroI (w.alloc (.cells #[] 2)) w.heap.size [] (some ⟨w.heap.size, 0, none⟩) 0) := GroI.lit w (Nat.le_refl _)
  have D0 : Hid (Below w.heap.size w (w.alloc (.cells #[] 2))) := (Below.refl _ _).alloc (Nat.le_refl _) _
  have G0 : Hid (w.heap.size ≤ (w.alloc (.cells #[] 2)).heap.size) := D0.out.size
  have hz : x ≠ 0 := by omega
  obtain ⟨m, hmm⟩ : ∃ m, m = x * y := ⟨_, rfl⟩
  rw [← hmm] at *
  have r0 := Int.emod_nonneg i hz
  have r1 := Int.emod_lt_of_pos i (show 0 < x by omega)
  obtain ⟨hx1, hx2⟩ := hx
  go_enter Try.func114, Try.ntmps114
  go_wp2_with (first | (at_builtin; refine isAppI _ _ rfl ?_; refine wpGroI rfl _ _ rfl (w0 := w1) (y := i + x) H1.out rfl rfl rfl (by simp) G1.out ?_; intro g2 c2 w2 O2 B2; have H2 := Lib.hid O2; have D2 := Lib.hid (D1.out.trans B2); have G2 : Hid (w.heap.size ≤ w2.heap.size) := D2.out.size; clear O2 B2) | (at_builtin; refine isAppI _ _ rfl ?_; refine wpGroI rfl _ _ rfl (w0 := (w.alloc (.cells #[] 2))) (y := i + 1) H0.out rfl rfl (by simp [Act.eval]) (by simp) G0.out ?_; intro g1 c1 w1 O1 B1; have H1 := Lib.hid O1; have D1 := Lib.hid (D0.out.trans B1); have G1 : Hid (w.heap.size ≤ w1.heap.size) := D1.out.size; clear O1 B1))
  go_ret
  exact ⟨_, _, rfl, H2, D2⟩
set_option maxHeartbeats 1000000 in
theorem specBes13 (x y i : Int) (hx : 1 ≤ x ∧ x ≤ 16) (hy : 1 ≤ y ∧ y ≤ 16) (h0 : 0 ≤ i) (hi : i < x * y) (hm : x * y ≤ 256) (hw : IntKind.i64.wrap (x * y) = x * y) (w : World) (h1 : ¬ (x ≤ i)) (h2 : ¬ (0 < i % x)) (h3 : i % x + 1 < x) (h4 : ¬ (i + x < x * y)) :
    Calls Try.prog 114 #[.int .i64 x, .int .i64 y, .int .i64 i] w fun e w' => ∃ A c, e = .returned (.slice A (sidL x y i).length c) ∧ Hid (GroI w' w.heap.size (sidL x y i) A c) ∧ Hid (Below w.heap.size w w') := by
  have E : sidL x y i = (((([] : List Int) ++ []) ++ [i + 1]) ++ []) := by unfold sidL; rw [if_neg h1, if_neg h2, if_pos h3, if_neg h4]
  rw [E]
  have H0 : Hid (GroI (w.alloc (.cells #[] 2)) w.heap.size [] (some ⟨w.heap.size, 0, none⟩) 0) := GroI.lit w (Nat.le_refl _)
  have D0 : Hid (Below w.heap.size w (w.alloc (.cells #[] 2))) := (Below.refl _ _).alloc (Nat.le_refl _) _
  have G0 : Hid (w.heap.size ≤ (w.alloc (.cells #[] 2)).heap.size) := D0.out.size
  have hz : x ≠ 0 := by omega
  obtain ⟨m, hmm⟩ : ∃ m, m = x * y := ⟨_, rfl⟩
  rw [← hmm] at *
  have r0 := Int.emod_nonneg i hz
  have r1 := Int.emod_lt_of_pos i (show 0 < x by omega)
  obtain ⟨hx1, hx2⟩ := hx
  go_enter Try.func114, Try.ntmps114
  go_wp2_with (first | (at_builtin; refine isAppI _ _ rfl ?_; refine wpGroI rfl _ _ rfl (w0 := (w.alloc (.cells #[] 2))) (y := i + 1) H0.out rfl rfl (by simp [Act.eval]) (by simp) G0.out ?_; intro g1 c1 w1 O1 B1; have H1 := Lib.hid O1; have D1 := Lib.hid (D0.out.trans B1); have G1 : Hid (w.heap.size ≤ w1.heap.size) := D1.out.size; clear O1 B1))
  go_ret
  exact ⟨_, _, rfl, H1, D1⟩
set_option maxHeartbeats 1000000 in
theorem specBes14 (x y i : Int) (hx : 1 ≤ x ∧ x ≤ 16) (hy : 1 ≤ y ∧ y ≤ 16) (h0 : 0 ≤ i) (hi : i < x * y) (hm : x * y ≤ 256) (hw : IntKind.i64.wrap (x * y) = x * y) (w : World) (h1 : ¬ (x ≤ i)) (h2 : ¬ (0 < i % x)) (h3 : ¬ (i % x + 1 < x)) (h4 : i + x < x * y) :
    Calls Try.prog 114 #[.int .i64 x, .int .i64 y, .int .i64 i] w fun e w' => ∃ A c, e = .returned (.slice A (sidL x y i).length c) ∧ Hid (GroI w' w.heap.size (sidL x y i) A c) ∧ Hid (Below w.heap.size w w') := by
  have E : sidL x y i = (((([] : List Int) ++ []) ++ []) ++ [i + x]) := by unfold sidL; rw [if_neg h1, if_neg h2, if_neg h3, if_pos h4]
  rw [E]
  have H0 : Hid (GroI (w.alloc (.cells #[] 2)) w.heap.size [] (some ⟨w.heap.size, 0, none⟩) 0) := GroI.lit w (Nat.le_refl _)
  have D0 : Hid (Below w.heap.size w (w.alloc (.cells #[] 2))) := (Below.refl _ _).alloc (Nat.le_refl _) _
  have G0 : Hid (w.heap.size ≤ (w.alloc (.cells #[] 2)).heap.size) := D0.out.size
  have hz : x ≠ 0 := by omega
  obtain ⟨m, hmm⟩ : ∃ m, m = x * y := ⟨_, rfl⟩
  rw [← hmm] at *
  have r0 := Int.emod_nonneg i hz
  have r1 := Int.emod_lt_of_pos i (show 0 < x by omega)
  obtain ⟨hx1, hx2⟩ := hx
  go_enter Try.func114, Try.ntmps114
  go_wp2_with (first | (at_builtin; refine isAppI _ _ rfl ?_; refine wpGroI rfl _ _ rfl (w0 := (w.alloc (.cells #[] 2))) (y := i + x) H0.out rfl rfl (by simp [Act.eval]) (by simp) G0.out ?_; intro g1 c1 w1 O1 B1; have H1 := Lib.hid O1; have D1 := Lib.hid (D0.out.trans B1); have G1 : Hid (w.heap.size ≤ w1.heap.size) := D1.out.size; clear O1 B1))
  go_ret
  exact ⟨_, _, rfl, H1, D1⟩
set_option maxHeartbeats 1000000 in
theorem specBes15 (x y i : Int) (hx : 1 ≤ x ∧ x ≤ 16) (hy : 1 ≤ y ∧ y ≤ 16) (h0 : 0 ≤ i) (hi : i < x * y) (hm : x * y ≤ 256) (hw : IntKind.i64.wrap (x * y) = x * y) (w : World) (h1 : ¬ (x ≤ i)) (h2 : ¬ (0 < i % x)) (h3 : ¬ (i % x + 1 < x)) (h4 : ¬ (i + x < x * y)) :
    Calls Try.prog 114 #[.int .i64 x, .int .i64 y, .int .i64 i] w fun e w' => ∃ A c, e = .returned (.slice A (sidL x y i).length c) ∧ Hid (GroI w' w.heap.size (sidL x y i) A c) ∧ Hid (Below w.heap.size w w') := by
  have E : sidL x y i = (((([] : List Int) ++ []) ++ []) ++ []) := by unfold sidL; rw [if_neg h1, if_neg h2, if_neg h3, if_neg h4]
  rw [E]
  have H0 : Hid (GroI (w.alloc (.cells #[] 2)) w.heap.size [] (some ⟨w.heap.size, 0, none⟩) 0) := GroI.lit w (Nat.le_refl _)
  have D0 : Hid (Below w.heap.size w (w.alloc (.cells #[] 2))) := (Below.refl _ _).alloc (Nat.le_refl _) _
  have G0 : Hid (w.heap.size ≤ (w.alloc (.cells #[] 2)).heap.size) := D0.out.size
  have hz : x ≠ 0 := by omega
  obtain ⟨m, hmm⟩ : ∃ m, m = x * y := ⟨_, rfl⟩
  rw [← hmm] at *
  have r0 := Int.emod_nonneg i hz
  have r1 := Int.emod_lt_of_pos i (show 0 < x by omega)
  obtain ⟨hx1, hx2⟩ := hx
  go_enter Try.func114, Try.ntmps114
  go_wp2_with fail
  go_ret
  exact ⟨_, _, rfl, H0, D0⟩
theorem specBes (x y i : Int) (hv : sidB x y = true) (h0 : 0 ≤ i) (hi : i < x * y) (w : World) :
    Calls Try.prog 114 #[.int .i64 x, .int .i64 y, .int .i64 i] w fun e w' => ∃ A c, e = .returned (.slice A (sidL x y i).length c) ∧ Hid (GroI w' w.heap.size (sidL x y i) A c) ∧ Hid (Below w.heap.size w w') := by
  obtain ⟨hx, hy⟩ := sidB_yes hv
  have hm := (sid_bd hv).2
  have hw := sid_in hv
  by_cases h1 : x ≤ i
  · by_cases h2 : 0 < i % x
    · by_cases h3 : i % x + 1 < x
      · by_cases h4 : i + x < x * y
        · exact specBes0 x y i hx hy h0 hi hm hw w h1 h2 h3 h4
        · exact specBes1 x y i hx hy h0 hi hm hw w h1 h2 h3 h4
      · by_cases h4 : i + x < x * y
        · exact specBes2 x y i hx hy h0 hi hm hw w h1 h2 h3 h4
        · exact specBes3 x y i hx hy h0 hi hm hw w h1 h2 h3 h4
    · by_cases h3 : i % x + 1 < x
      · by_cases h4 : i + x < x * y
        · exact specBes4 x y i hx hy h0 hi hm hw w h1 h2 h3 h4
        · exact specBes5 x y i hx hy h0 hi hm hw w h1 h2 h3 h4
      · by_cases h4 : i + x < x * y
        · exact specBes6 x y i hx hy h0 hi hm hw w h1 h2 h3 h4
        · exact specBes7 x y i hx hy h0 hi hm hw w h1 h2 h3 h4
  · by_cases h2 : 0 < i % x
    · by_cases h3 : i % x + 1 < x
      · by_cases h4 : i + x < x * y
        · exact specBes8 x y i hx hy h0 hi hm hw w h1 h2 h3 h4
        · exact specBes9 x y i hx hy h0 hi hm hw w h1 h2 h3 h4
      · by_cases h4 : i + x < x * y
        · exact specBes10 x y i hx hy h0 hi hm hw w h1 h2 h3 h4
        · exact specBes11 x y i hx hy h0 hi hm hw w h1 h2 h3 h4
    · by_cases h3 : i % x + 1 < x
      · by_cases h4 : i + x < x * y
        · exact specBes12 x y i hx hy h0 hi hm hw w h1 h2 h3 h4
        · exact specBes13 x y i hx hy h0 hi hm hw w h1 h2 h3 h4
      · by_cases h4 : i + x < x * y
        · exact specBes14 x y i hx hy h0 hi hm hw w h1 h2 h3 h4
        · exact specBes15 x y i hx hy h0 hi hm hw w h1 h2 h3 h4

end Go.Proofs.Ytnhcmloaanamnaa
