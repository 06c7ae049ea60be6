/-
  What is proved here: the sides of a place of a sheet, as the model tells them, as walks. Conditions: sides of a sheet, a place of it.
-/
import Derived.Test.YtgiblioilpedfaaFkb
namespace Go.Proofs.Ytgiblioilpedfaa
open Go.RowKit
set_option linter.unusedVariables false

theorem isAppI5 {ops : Array Oper} {rest : List Oper} {o : Oper} {a : Act} {Q : Exit → Act → World → Prop} {w : World} (s x : Operand)
    (ho : o.op = .call { callee := .builtin .append, args := #[s, x], argTypes := #[37, 37] }) (h : wpList Try.prog ops Q (o :: rest) a w) : wpList Try.prog ops Q (o :: rest) a w := h
set_option maxHeartbeats 2000000 in
theorem specBes0 (v : Nat) (x y i : Int) (A : Option Addr) (n c : Nat) (w : World) (V : VarT w v x y A n c) (hx : 1 ≤ x ∧ x ≤ 17) (hy : 1 ≤ y ∧ y ≤ 17) (h0 : 0 ≤ i) (hi : i < x * y) (hm : x * y ≤ 289) (hw : IntKind.i64.wrap (x * y) = x * y) (h1 : x ≤ i) (h2 : 0 < i % x) (h3 : i % x + 1 < x) (h4 : i + x < x * y) :
    Calls Try.prog 63 #[.pointer (some ⟨v, 0, none⟩), .int .i64 i] w fun e w' => ∃ B d, e = .returned (.slice B (Fk.sidL x y i).length d) ∧ Hid (Fk.GroI w' w.heap.size (Fk.sidL x y i) B d) ∧ Hid (Below w.heap.size w w') := by
  have E : Fk.sidL x y i = ((([i - x] ++ [i - 1]) ++ [i + 1]) ++ [i + x]) := by unfold Fk.sidL; rw [if_pos h1, if_pos h2, if_pos h3, if_pos h4]
  rw [E]
  have B0 : Below w.heap.size w (w.alloc (.cells #[] 2)) := (Below.refl _ _).alloc (Nat.le_refl _) _
  have H0 : Hid (Fk.GroI (w.alloc (.cells #[] 2)) w.heap.size [] (some ⟨w.heap.size, 0, none⟩) 0) := Fk.GroI.lit w (Nat.le_refl _)
  have D0 := Lib.hid B0
  have G0 : Hid (w.heap.size ≤ (w.alloc (.cells #[] 2)).heap.size) := D0.out.size
  have HV := Lib.hid V
  have V0 := V.below B0
  have q0 := V0.c0
  have q1 := V0.c1
  have hz : x ≠ 0 := by omega
  obtain ⟨m, hmm⟩ : ∃ m, m = x * y := ⟨_, rfl⟩
  rw [← hmm] at h4 hi hm
  have hwm : IntKind.i64.wrap (x * y) = m := by rw [hw]; exact hmm.symm
  have r0 := Int.emod_nonneg i hz
  have r1 := Int.emod_lt_of_pos i (show 0 < x by omega)
  obtain ⟨hx1, hx2⟩ := hx
  clear V V0 B0 hmm hw E
  go_enter Try.func63, Try.ntmps63
  go_wp2_with (first | (at_builtin; refine isAppI5 _ _ rfl ?_; refine Fk.wpGroI rfl _ _ rfl (w0 := w1) (y := i - 1) H1.out rfl rfl rfl (by simp) G1.out ?_; intro g2 c2 w2 O2 B2; have H2 := Lib.hid O2; have D2 := Lib.hid (D1.out.trans B2); have G2 : Hid (w.heap.size ≤ w2.heap.size) := D2.out.size; have V2 := HV.out.below D2.out; have q0 := V2.c0; have q1 := V2.c1; clear O2 B2 V2) | (at_builtin; refine isAppI5 _ _ rfl ?_; refine Fk.wpGroI rfl _ _ rfl (w0 := (w.alloc (.cells #[] 2))) (y := i - x) H0.out rfl rfl (by simp [Act.eval]) (by simp) G0.out ?_; intro g1 c1 w1 O1 B1; have H1 := Lib.hid O1; have D1 := Lib.hid (D0.out.trans B1); have G1 : Hid (w.heap.size ≤ w1.heap.size) := D1.out.size; have V1 := HV.out.below D1.out; have q0 := V1.c0; have q1 := V1.c1; clear O1 B1 V1))
  go_quiet (fail)
  have H3 := Lib.hid (H2.out.dn (n := nq))
  have D3 : Hid (Below w.heap.size w (w2.drewN nq)) := belowN D2.out
  have G3 : Hid (w.heap.size ≤ (w2.drewN nq).heap.size) := D3.out.size
  have V3 := HV.out.below D3.out
  have q0 := V3.c0
  have q1 := V3.c1
  clear V3
  generalize w2.drewN nq = w3 at *
  go_wp2_with (at_builtin; refine isAppI5 _ _ rfl ?_; refine Fk.wpGroI rfl _ _ rfl (w0 := w3) (y := i + 1) H3.out rfl rfl rfl (by simp) G3.out ?_; intro g4 c4 w4 O4 B4; have H4 := Lib.hid O4; have D4 := Lib.hid (D3.out.trans B4); have G4 : Hid (w.heap.size ≤ w4.heap.size) := D4.out.size; have V4 := HV.out.below D4.out; have q0 := V4.c0; have q1 := V4.c1; clear O4 B4 V4)
  go_quiet (fail)
  have H5 := Lib.hid (H4.out.dn (n := nq))
  have D5 : Hid (Below w.heap.size w (w4.drewN nq)) := belowN D4.out
  have G5 : Hid (w.heap.size ≤ (w4.drewN nq).heap.size) := D5.out.size
  have V5 := HV.out.below D5.out
  have q0 := V5.c0
  have q1 := V5.c1
  clear V5
  generalize w4.drewN nq = w5 at *
  go_wp2_with (at_builtin; refine isAppI5 _ _ rfl ?_; refine Fk.wpGroI rfl _ _ rfl (w0 := w5) (y := i + x) H5.out rfl rfl rfl (by simp) G5.out ?_; intro g6 c6 w6 O6 B6; have H6 := Lib.hid O6; have D6 := Lib.hid (D5.out.trans B6); have G6 : Hid (w.heap.size ≤ w6.heap.size) := D6.out.size; have V6 := HV.out.below D6.out; have q0 := V6.c0; have q1 := V6.c1; clear O6 B6 V6)
  go_ret
  exact ⟨_, _, rfl, H6, D6⟩

set_option maxHeartbeats 2000000 in
theorem specBes1 (v : Nat) (x y i : Int) (A : Option Addr) (n c : Nat) (w : World) (V : VarT w v x y A n c) (hx : 1 ≤ x ∧ x ≤ 17) (hy : 1 ≤ y ∧ y ≤ 17) (h0 : 0 ≤ i) (hi : i < x * y) (hm : x * y ≤ 289) (hw : IntKind.i64.wrap (x * y) = x * y) (h1 : x ≤ i) (h2 : 0 < i % x) (h3 : i % x + 1 < x) (h4 : ¬ (i + x < x * y)) :
    Calls Try.prog 63 #[.pointer (some ⟨v, 0, none⟩), .int .i64 i] w fun e w' => ∃ B d, e = .returned (.slice B (Fk.sidL x y i).length d) ∧ Hid (Fk.GroI w' w.heap.size (Fk.sidL x y i) B d) ∧ Hid (Below w.heap.size w w') := by
  have E : Fk.sidL x y i = ((([i - x] ++ [i - 1]) ++ [i + 1]) ++ []) := by unfold Fk.sidL; rw [if_pos h1, if_pos h2, if_pos h3, if_neg h4]
  rw [E]
  have B0 : Below w.heap.size w (w.alloc (.cells #[] 2)) := (Below.refl _ _).alloc (Nat.le_refl _) _
  have H0 : Hid (Fk.GroI (w.alloc (.cells #[] 2)) w.heap.size [] (some ⟨w.heap.size, 0, none⟩) 0) := Fk.GroI.lit w (Nat.le_refl _)
  have D0 := Lib.hid B0
  have G0 : Hid (w.heap.size ≤ (w.alloc (.cells #[] 2)).heap.size) := D0.out.size
  have HV := Lib.hid V
  have V0 := V.below B0
  have q0 := V0.c0
  have q1 := V0.c1
  have hz : x ≠ 0 := by omega
  obtain ⟨m, hmm⟩ : ∃ m, m = x * y := ⟨_, rfl⟩
  rw [← hmm] at h4 hi hm
  have hwm : IntKind.i64.wrap (x * y) = m := by rw [hw]; exact hmm.symm
  have r0 := Int.emod_nonneg i hz
  have r1 := Int.emod_lt_of_pos i (show 0 < x by omega)
  obtain ⟨hx1, hx2⟩ := hx
  clear V V0 B0 hmm hw E
  go_enter Try.func63, Try.ntmps63
  go_wp2_with (first | (at_builtin; refine isAppI5 _ _ rfl ?_; refine Fk.wpGroI rfl _ _ rfl (w0 := w1) (y := i - 1) H1.out rfl rfl rfl (by simp) G1.out ?_; intro g2 c2 w2 O2 B2; have H2 := Lib.hid O2; have D2 := Lib.hid (D1.out.trans B2); have G2 : Hid (w.heap.size ≤ w2.heap.size) := D2.out.size; have V2 := HV.out.below D2.out; have q0 := V2.c0; have q1 := V2.c1; clear O2 B2 V2) | (at_builtin; refine isAppI5 _ _ rfl ?_; refine Fk.wpGroI rfl _ _ rfl (w0 := (w.alloc (.cells #[] 2))) (y := i - x) H0.out rfl rfl (by simp [Act.eval]) (by simp) G0.out ?_; intro g1 c1 w1 O1 B1; have H1 := Lib.hid O1; have D1 := Lib.hid (D0.out.trans B1); have G1 : Hid (w.heap.size ≤ w1.heap.size) := D1.out.size; have V1 := HV.out.below D1.out; have q0 := V1.c0; have q1 := V1.c1; clear O1 B1 V1))
  go_quiet (fail)
  have H3 := Lib.hid (H2.out.dn (n := nq))
  have D3 : Hid (Below w.heap.size w (w2.drewN nq)) := belowN D2.out
  have G3 : Hid (w.heap.size ≤ (w2.drewN nq).heap.size) := D3.out.size
  have V3 := HV.out.below D3.out
  have q0 := V3.c0
  have q1 := V3.c1
  clear V3
  generalize w2.drewN nq = w3 at *
  go_wp2_with (at_builtin; refine isAppI5 _ _ rfl ?_; refine Fk.wpGroI rfl _ _ rfl (w0 := w3) (y := i + 1) H3.out rfl rfl rfl (by simp) G3.out ?_; intro g4 c4 w4 O4 B4; have H4 := Lib.hid O4; have D4 := Lib.hid (D3.out.trans B4); have G4 : Hid (w.heap.size ≤ w4.heap.size) := D4.out.size; have V4 := HV.out.below D4.out; have q0 := V4.c0; have q1 := V4.c1; clear O4 B4 V4)
  go_quiet (fail)
  have H5 := Lib.hid (H4.out.dn (n := nq))
  have D5 : Hid (Below w.heap.size w (w4.drewN nq)) := belowN D4.out
  have G5 : Hid (w.heap.size ≤ (w4.drewN nq).heap.size) := D5.out.size
  have V5 := HV.out.below D5.out
  have q0 := V5.c0
  have q1 := V5.c1
  clear V5
  generalize w4.drewN nq = w5 at *
  go_wp2_with fail
  go_ret
  exact ⟨_, _, rfl, H5, D5⟩

set_option maxHeartbeats 2000000 in
theorem specBes2 (v : Nat) (x y i : Int) (A : Option Addr) (n c : Nat) (w : World) (V : VarT w v x y A n c) (hx : 1 ≤ x ∧ x ≤ 17) (hy : 1 ≤ y ∧ y ≤ 17) (h0 : 0 ≤ i) (hi : i < x * y) (hm : x * y ≤ 289) (hw : IntKind.i64.wrap (x * y) = x * y) (h1 : x ≤ i) (h2 : 0 < i % x) (h3 : ¬ (i % x + 1 < x)) (h4 : i + x < x * y) :
    Calls Try.prog 63 #[.pointer (some ⟨v, 0, none⟩), .int .i64 i] w fun e w' => ∃ B d, e = .returned (.slice B (Fk.sidL x y i).length d) ∧ Hid (Fk.GroI w' w.heap.size (Fk.sidL x y i) B d) ∧ Hid (Below w.heap.size w w') := by
  have E : Fk.sidL x y i = ((([i - x] ++ [i - 1]) ++ []) ++ [i + x]) := by unfold Fk.sidL; rw [if_pos h1, if_pos h2, if_neg h3, if_pos h4]
  rw [E]
  have B0 : Below w.heap.size w (w.alloc (.cells #[] 2)) := (Below.refl _ _).alloc (Nat.le_refl _) _
  have H0 : Hid (Fk.GroI (w.alloc (.cells #[] 2)) w.heap.size [] (some ⟨w.heap.size, 0, none⟩) 0) := Fk.GroI.lit w (Nat.le_refl _)
  have D0 := Lib.hid B0
  have G0 : Hid (w.heap.size ≤ (w.alloc (.cells #[] 2)).heap.size) := D0.out.size
  have HV := Lib.hid V
  have V0 := V.below B0
  have q0 := V0.c0
  have q1 := V0.c1
  have hz : x ≠ 0 := by omega
  obtain ⟨m, hmm⟩ : ∃ m, m = x * y := ⟨_, rfl⟩
  rw [← hmm] at h4 hi hm
  have hwm : IntKind.i64.wrap (x * y) = m := by rw [hw]; exact hmm.symm
  have r0 := Int.emod_nonneg i hz
  have r1 := Int.emod_lt_of_pos i (show 0 < x by omega)
  obtain ⟨hx1, hx2⟩ := hx
  clear V V0 B0 hmm hw E
  go_enter Try.func63, Try.ntmps63
  go_wp2_with (first | (at_builtin; refine isAppI5 _ _ rfl ?_; refine Fk.wpGroI rfl _ _ rfl (w0 := w1) (y := i - 1) H1.out rfl rfl rfl (by simp) G1.out ?_; intro g2 c2 w2 O2 B2; have H2 := Lib.hid O2; have D2 := Lib.hid (D1.out.trans B2); have G2 : Hid (w.heap.size ≤ w2.heap.size) := D2.out.size; have V2 := HV.out.below D2.out; have q0 := V2.c0; have q1 := V2.c1; clear O2 B2 V2) | (at_builtin; refine isAppI5 _ _ rfl ?_; refine Fk.wpGroI rfl _ _ rfl (w0 := (w.alloc (.cells #[] 2))) (y := i - x) H0.out rfl rfl (by simp [Act.eval]) (by simp) G0.out ?_; intro g1 c1 w1 O1 B1; have H1 := Lib.hid O1; have D1 := Lib.hid (D0.out.trans B1); have G1 : Hid (w.heap.size ≤ w1.heap.size) := D1.out.size; have V1 := HV.out.below D1.out; have q0 := V1.c0; have q1 := V1.c1; clear O1 B1 V1))
  go_quiet (fail)
  have H3 := Lib.hid (H2.out.dn (n := nq))
  have D3 : Hid (Below w.heap.size w (w2.drewN nq)) := belowN D2.out
  have G3 : Hid (w.heap.size ≤ (w2.drewN nq).heap.size) := D3.out.size
  have V3 := HV.out.below D3.out
  have q0 := V3.c0
  have q1 := V3.c1
  clear V3
  generalize w2.drewN nq = w3 at *
  go_wp2_with fail
  go_quiet (fail)
  have H4 := Lib.hid (H3.out.dn (n := nq))
  have D4 : Hid (Below w.heap.size w (w3.drewN nq)) := belowN D3.out
  have G4 : Hid (w.heap.size ≤ (w3.drewN nq).heap.size) := D4.out.size
  have V4 := HV.out.below D4.out
  have q0 := V4.c0
  have q1 := V4.c1
  clear V4
  generalize w3.drewN nq = w4 at *
  go_wp2_with (at_builtin; refine isAppI5 _ _ rfl ?_; refine Fk.wpGroI rfl _ _ rfl (w0 := w4) (y := i + x) H4.out rfl rfl rfl (by simp) G4.out ?_; intro g5 c5 w5 O5 B5; have H5 := Lib.hid O5; have D5 := Lib.hid (D4.out.trans B5); have G5 : Hid (w.heap.size ≤ w5.heap.size) := D5.out.size; have V5 := HV.out.below D5.out; have q0 := V5.c0; have q1 := V5.c1; clear O5 B5 V5)
  go_ret
  exact ⟨_, _, rfl, H5, D5⟩

set_option maxHeartbeats 2000000 in
theorem specBes3 (v : Nat) (x y i : Int) (A : Option Addr) (n c : Nat) (w : World) (V : VarT w v x y A n c) (hx : 1 ≤ x ∧ x ≤ 17) (hy : 1 ≤ y ∧ y ≤ 17) (h0 : 0 ≤ i) (hi : i < x * y) (hm : x * y ≤ 289) (hw : IntKind.i64.wrap (x * y) = x * y) (h1 : x ≤ i) (h2 : 0 < i % x) (h3 : ¬ (i % x + 1 < x)) (h4 : ¬ (i + x < x * y)) :
    Calls Try.prog 63 #[.pointer (some ⟨v, 0, none⟩), .int .i64 i] w fun e w' => ∃ B d, e = .returned (.slice B (Fk.sidL x y i).length d) ∧ Hid (Fk.GroI w' w.heap.size (Fk.sidL x y i) B d) ∧ Hid (Below w.heap.size w w') := by
  have E : Fk.sidL x y i = ((([i - x] ++ [i - 1]) ++ []) ++ []) := by unfold Fk.sidL; rw [if_pos h1, if_pos h2, if_neg h3, if_neg h4]
  rw [E]
  have B0 : Below w.heap.size w (w.alloc (.cells #[] 2)) := (Below.refl _ _).alloc (Nat.le_refl _) _
  have H0 : Hid (Fk.GroI (w.alloc (.cells #[] 2)) w.heap.size [] (some ⟨w.heap.size, 0, none⟩) 0) := Fk.GroI.lit w (Nat.le_refl _)
  have D0 := Lib.hid B0
  have G0 : Hid (w.heap.size ≤ (w.alloc (.cells #[] 2)).heap.size) := D0.out.size
  have HV := Lib.hid V
  have V0 := V.below B0
  have q0 := V0.c0
  have q1 := V0.c1
  have hz : x ≠ 0 := by omega
  obtain ⟨m, hmm⟩ : ∃ m, m = x * y := ⟨_, rfl⟩
  rw [← hmm] at h4 hi hm
  have hwm : IntKind.i64.wrap (x * y) = m := by rw [hw]; exact hmm.symm
  have r0 := Int.emod_nonneg i hz
  have r1 := Int.emod_lt_of_pos i (show 0 < x by omega)
  obtain ⟨hx1, hx2⟩ := hx
  clear V V0 B0 hmm hw E
  go_enter Try.func63, Try.ntmps63
  go_wp2_with (first | (at_builtin; refine isAppI5 _ _ rfl ?_; refine Fk.wpGroI rfl _ _ rfl (w0 := w1) (y := i - 1) H1.out rfl rfl rfl (by simp) G1.out ?_; intro g2 c2 w2 O2 B2; have H2 := Lib.hid O2; have D2 := Lib.hid (D1.out.trans B2); have G2 : Hid (w.heap.size ≤ w2.heap.size) := D2.out.size; have V2 := HV.out.below D2.out; have q0 := V2.c0; have q1 := V2.c1; clear O2 B2 V2) | (at_builtin; refine isAppI5 _ _ rfl ?_; refine Fk.wpGroI rfl _ _ rfl (w0 := (w.alloc (.cells #[] 2))) (y := i - x) H0.out rfl rfl (by simp [Act.eval]) (by simp) G0.out ?_; intro g1 c1 w1 O1 B1; have H1 := Lib.hid O1; have D1 := Lib.hid (D0.out.trans B1); have G1 : Hid (w.heap.size ≤ w1.heap.size) := D1.out.size; have V1 := HV.out.below D1.out; have q0 := V1.c0; have q1 := V1.c1; clear O1 B1 V1))
  go_quiet (fail)
  have H3 := Lib.hid (H2.out.dn (n := nq))
  have D3 : Hid (Below w.heap.size w (w2.drewN nq)) := belowN D2.out
  have G3 : Hid (w.heap.size ≤ (w2.drewN nq).heap.size) := D3.out.size
  have V3 := HV.out.below D3.out
  have q0 := V3.c0
  have q1 := V3.c1
  clear V3
  generalize w2.drewN nq = w3 at *
  go_wp2_with fail
  go_quiet (fail)
  have H4 := Lib.hid (H3.out.dn (n := nq))
  have D4 : Hid (Below w.heap.size w (w3.drewN nq)) := belowN D3.out
  have G4 : Hid (w.heap.size ≤ (w3.drewN nq).heap.size) := D4.out.size
  have V4 := HV.out.below D4.out
  have q0 := V4.c0
  have q1 := V4.c1
  clear V4
  generalize w3.drewN nq = w4 at *
  go_wp2_with fail
  go_ret
  exact ⟨_, _, rfl, H4, D4⟩

set_option maxHeartbeats 2000000 in
theorem specBes4 (v : Nat) (x y i : Int) (A : Option Addr) (n c : Nat) (w : World) (V : VarT w v x y A n c) (hx : 1 ≤ x ∧ x ≤ 17) (hy : 1 ≤ y ∧ y ≤ 17) (h0 : 0 ≤ i) (hi : i < x * y) (hm : x * y ≤ 289) (hw : IntKind.i64.wrap (x * y) = x * y) (h1 : x ≤ i) (h2 : ¬ (0 < i % x)) (h3 : i % x + 1 < x) (h4 : i + x < x * y) :
    Calls Try.prog 63 #[.pointer (some ⟨v, 0, none⟩), .int .i64 i] w fun e w' => ∃ B d, e = .returned (.slice B (Fk.sidL x y i).length d) ∧ Hid (Fk.GroI w' w.heap.size (Fk.sidL x y i) B d) ∧ Hid (Below w.heap.size w w') := by
  have E : Fk.sidL x y i = ((([i - x] ++ []) ++ [i + 1]) ++ [i + x]) := by unfold Fk.sidL; rw [if_pos h1, if_neg h2, if_pos h3, if_pos h4]
  rw [E]
  have B0 : Below w.heap.size w (w.alloc (.cells #[] 2)) := (Below.refl _ _).alloc (Nat.le_refl _) _
  have H0 : Hid (Fk.GroI (w.alloc (.cells #[] 2)) w.heap.size [] (some ⟨w.heap.size, 0, none⟩) 0) := Fk.GroI.lit w (Nat.le_refl _)
  have D0 := Lib.hid B0
  have G0 : Hid (w.heap.size ≤ (w.alloc (.cells #[] 2)).heap.size) := D0.out.size
  have HV := Lib.hid V
  have V0 := V.below B0
  have q0 := V0.c0
  have q1 := V0.c1
  have hz : x ≠ 0 := by omega
  obtain ⟨m, hmm⟩ : ∃ m, m = x * y := ⟨_, rfl⟩
  rw [← hmm] at h4 hi hm
  have hwm : IntKind.i64.wrap (x * y) = m := by rw [hw]; exact hmm.symm
  have r0 := Int.emod_nonneg i hz
  have r1 := Int.emod_lt_of_pos i (show 0 < x by omega)
  obtain ⟨hx1, hx2⟩ := hx
  clear V V0 B0 hmm hw E
  go_enter Try.func63, Try.ntmps63
  go_wp2_with (first | (at_builtin; refine isAppI5 _ _ rfl ?_; refine Fk.wpGroI rfl _ _ rfl (w0 := (w.alloc (.cells #[] 2))) (y := i - x) H0.out rfl rfl (by simp [Act.eval]) (by simp) G0.out ?_; intro g1 c1 w1 O1 B1; have H1 := Lib.hid O1; have D1 := Lib.hid (D0.out.trans B1); have G1 : Hid (w.heap.size ≤ w1.heap.size) := D1.out.size; have V1 := HV.out.below D1.out; have q0 := V1.c0; have q1 := V1.c1; clear O1 B1 V1))
  go_quiet (fail)
  have H2 := Lib.hid (H1.out.dn (n := nq))
  have D2 : Hid (Below w.heap.size w (w1.drewN nq)) := belowN D1.out
  have G2 : Hid (w.heap.size ≤ (w1.drewN nq).heap.size) := D2.out.size
  have V2 := HV.out.below D2.out
  have q0 := V2.c0
  have q1 := V2.c1
  clear V2
  generalize w1.drewN nq = w2 at *
  go_wp2_with (at_builtin; refine isAppI5 _ _ rfl ?_; refine Fk.wpGroI rfl _ _ rfl (w0 := w2) (y := i + 1) H2.out rfl rfl rfl (by simp) G2.out ?_; intro g3 c3 w3 O3 B3; have H3 := Lib.hid O3; have D3 := Lib.hid (D2.out.trans B3); have G3 : Hid (w.heap.size ≤ w3.heap.size) := D3.out.size; have V3 := HV.out.below D3.out; have q0 := V3.c0; have q1 := V3.c1; clear O3 B3 V3)
  go_quiet (fail)
  have H4 := Lib.hid (H3.out.dn (n := nq))
  have D4 : Hid (Below w.heap.size w (w3.drewN nq)) := belowN D3.out
  have G4 : Hid (w.heap.size ≤ (w3.drewN nq).heap.size) := D4.out.size
  have V4 := HV.out.below D4.out
  have q0 := V4.c0
  have q1 := V4.c1
  clear V4
  generalize w3.drewN nq = w4 at *
  go_wp2_with (at_builtin; refine isAppI5 _ _ rfl ?_; refine Fk.wpGroI rfl _ _ rfl (w0 := w4) (y := i + x) H4.out rfl rfl rfl (by simp) G4.out ?_; intro g5 c5 w5 O5 B5; have H5 := Lib.hid O5; have D5 := Lib.hid (D4.out.trans B5); have G5 : Hid (w.heap.size ≤ w5.heap.size) := D5.out.size; have V5 := HV.out.below D5.out; have q0 := V5.c0; have q1 := V5.c1; clear O5 B5 V5)
  go_ret
  exact ⟨_, _, rfl, H5, D5⟩

set_option maxHeartbeats 2000000 in
theorem specBes5 (v : Nat) (x y i : Int) (A : Option Addr) (n c : Nat) (w : World) (V : VarT w v x y A n c) (hx : 1 ≤ x ∧ x ≤ 17) (hy : 1 ≤ y ∧ y ≤ 17) (h0 : 0 ≤ i) (hi : i < x * y) (hm : x * y ≤ 289) (hw : IntKind.i64.wrap (x * y) = x * y) (h1 : x ≤ i) (h2 : ¬ (0 < i % x)) (h3 : i % x + 1 < x) (h4 : ¬ (i + x < x * y)) :
    Calls Try.prog 63 #[.pointer (some ⟨v, 0, none⟩), .int .i64 i] w fun e w' => ∃ B d, e = .returned (.slice B (Fk.sidL x y i).length d) ∧ Hid (Fk.GroI w' w.heap.size (Fk.sidL x y i) B d) ∧ Hid (Below w.heap.size w w') := by
  have E : Fk.sidL x y i = ((([i - x] ++ []) ++ [i + 1]) ++ []) := by unfold Fk.sidL; rw [if_pos h1, if_neg h2, if_pos h3, if_neg h4]
  rw [E]
  have B0 : Below w.heap.size w (w.alloc (.cells #[] 2)) := (Below.refl _ _).alloc (Nat.le_refl _) _
  have H0 : Hid (Fk.GroI (w.alloc (.cells #[] 2)) w.heap.size [] (some ⟨w.heap.size, 0, none⟩) 0) := Fk.GroI.lit w (Nat.le_refl _)
  have D0 := Lib.hid B0
  have G0 : Hid (w.heap.size ≤ (w.alloc (.cells #[] 2)).heap.size) := D0.out.size
  have HV := Lib.hid V
  have V0 := V.below B0
  have q0 := V0.c0
  have q1 := V0.c1
  have hz : x ≠ 0 := by omega
  obtain ⟨m, hmm⟩ : ∃ m, m = x * y := ⟨_, rfl⟩
  rw [← hmm] at h4 hi hm
  have hwm : IntKind.i64.wrap (x * y) = m := by rw [hw]; exact hmm.symm
  have r0 := Int.emod_nonneg i hz
  have r1 := Int.emod_lt_of_pos i (show 0 < x by omega)
  obtain ⟨hx1, hx2⟩ := hx
  clear V V0 B0 hmm hw E
  go_enter Try.func63, Try.ntmps63
  go_wp2_with (first | (at_builtin; refine isAppI5 _ _ rfl ?_; refine Fk.wpGroI rfl _ _ rfl (w0 := (w.alloc (.cells #[] 2))) (y := i - x) H0.out rfl rfl (by simp [Act.eval]) (by simp) G0.out ?_; intro g1 c1 w1 O1 B1; have H1 := Lib.hid O1; have D1 := Lib.hid (D0.out.trans B1); have G1 : Hid (w.heap.size ≤ w1.heap.size) := D1.out.size; have V1 := HV.out.below D1.out; have q0 := V1.c0; have q1 := V1.c1; clear O1 B1 V1))
  go_quiet (fail)
  have H2 := Lib.hid (H1.out.dn (n := nq))
  have D2 : Hid (Below w.heap.size w (w1.drewN nq)) := belowN D1.out
  have G2 : Hid (w.heap.size ≤ (w1.drewN nq).heap.size) := D2.out.size
  have V2 := HV.out.below D2.out
  have q0 := V2.c0
  have q1 := V2.c1
  clear V2
  generalize w1.drewN nq = w2 at *
  go_wp2_with (at_builtin; refine isAppI5 _ _ rfl ?_; refine Fk.wpGroI rfl _ _ rfl (w0 := w2) (y := i + 1) H2.out rfl rfl rfl (by simp) G2.out ?_; intro g3 c3 w3 O3 B3; have H3 := Lib.hid O3; have D3 := Lib.hid (D2.out.trans B3); have G3 : Hid (w.heap.size ≤ w3.heap.size) := D3.out.size; have V3 := HV.out.below D3.out; have q0 := V3.c0; have q1 := V3.c1; clear O3 B3 V3)
  go_quiet (fail)
  have H4 := Lib.hid (H3.out.dn (n := nq))
  have D4 : Hid (Below w.heap.size w (w3.drewN nq)) := belowN D3.out
  have G4 : Hid (w.heap.size ≤ (w3.drewN nq).heap.size) := D4.out.size
  have V4 := HV.out.below D4.out
  have q0 := V4.c0
  have q1 := V4.c1
  clear V4
  generalize w3.drewN nq = w4 at *
  go_wp2_with fail
  go_ret
  exact ⟨_, _, rfl, H4, D4⟩

set_option maxHeartbeats 2000000 in
theorem specBes6 (v : Nat) (x y i : Int) (A : Option Addr) (n c : Nat) (w : World) (V : VarT w v x y A n c) (hx : 1 ≤ x ∧ x ≤ 17) (hy : 1 ≤ y ∧ y ≤ 17) (h0 : 0 ≤ i) (hi : i < x * y) (hm : x * y ≤ 289) (hw : IntKind.i64.wrap (x * y) = x * y) (h1 : x ≤ i) (h2 : ¬ (0 < i % x)) (h3 : ¬ (i % x + 1 < x)) (h4 : i + x < x * y) :
    Calls Try.prog 63 #[.pointer (some ⟨v, 0, none⟩), .int .i64 i] w fun e w' => ∃ B d, e = .returned (.slice B (Fk.sidL x y i).length d) ∧ Hid (Fk.GroI w' w.heap.size (Fk.sidL x y i) B d) ∧ Hid (Below w.heap.size w w') := by
  have E : Fk.sidL x y i = ((([i - x] ++ []) ++ []) ++ [i + x]) := by unfold Fk.sidL; rw [if_pos h1, if_neg h2, if_neg h3, if_pos h4]
  rw [E]
  have B0 : Below w.heap.size w (w.alloc (.cells #[] 2)) := (Below.refl _ _).alloc (Nat.le_refl _) _
  have H0 : Hid (Fk.GroI (w.alloc (.cells #[] 2)) w.heap.size [] (some ⟨w.heap.size, 0, none⟩) 0) := Fk.GroI.lit w (Nat.le_refl _)
  have D0 := Lib.hid B0
  have G0 : Hid (w.heap.size ≤ (w.alloc (.cells #[] 2)).heap.size) := D0.out.size
  have HV := Lib.hid V
  have V0 := V.below B0
  have q0 := V0.c0
  have q1 := V0.c1
  have hz : x ≠ 0 := by omega
  obtain ⟨m, hmm⟩ : ∃ m, m = x * y := ⟨_, rfl⟩
  rw [← hmm] at h4 hi hm
  have hwm : IntKind.i64.wrap (x * y) = m := by rw [hw]; exact hmm.symm
  have r0 := Int.emod_nonneg i hz
  have r1 := Int.emod_lt_of_pos i (show 0 < x by omega)
  obtain ⟨hx1, hx2⟩ := hx
  clear V V0 B0 hmm hw E
  go_enter Try.func63, Try.ntmps63
  go_wp2_with (first | (at_builtin; refine isAppI5 _ _ rfl ?_; refine Fk.wpGroI rfl _ _ rfl (w0 := (w.alloc (.cells #[] 2))) (y := i - x) H0.out rfl rfl (by simp [Act.eval]) (by simp) G0.out ?_; intro g1 c1 w1 O1 B1; have H1 := Lib.hid O1; have D1 := Lib.hid (D0.out.trans B1); have G1 : Hid (w.heap.size ≤ w1.heap.size) := D1.out.size; have V1 := HV.out.below D1.out; have q0 := V1.c0; have q1 := V1.c1; clear O1 B1 V1))
  go_quiet (fail)
  have H2 := Lib.hid (H1.out.dn (n := nq))
  have D2 : Hid (Below w.heap.size w (w1.drewN nq)) := belowN D1.out
  have G2 : Hid (w.heap.size ≤ (w1.drewN nq).heap.size) := D2.out.size
  have V2 := HV.out.below D2.out
  have q0 := V2.c0
  have q1 := V2.c1
  clear V2
  generalize w1.drewN nq = w2 at *
  go_wp2_with fail
  go_quiet (fail)
  have H3 := Lib.hid (H2.out.dn (n := nq))
  have D3 : Hid (Below w.heap.size w (w2.drewN nq)) := belowN D2.out
  have G3 : Hid (w.heap.size ≤ (w2.drewN nq).heap.size) := D3.out.size
  have V3 := HV.out.below D3.out
  have q0 := V3.c0
  have q1 := V3.c1
  clear V3
  generalize w2.drewN nq = w3 at *
  go_wp2_with (at_builtin; refine isAppI5 _ _ rfl ?_; refine Fk.wpGroI rfl _ _ rfl (w0 := w3) (y := i + x) H3.out rfl rfl rfl (by simp) G3.out ?_; intro g4 c4 w4 O4 B4; have H4 := Lib.hid O4; have D4 := Lib.hid (D3.out.trans B4); have G4 : Hid (w.heap.size ≤ w4.heap.size) := D4.out.size; have V4 := HV.out.below D4.out; have q0 := V4.c0; have q1 := V4.c1; clear O4 B4 V4)
  go_ret
  exact ⟨_, _, rfl, H4, D4⟩

set_option maxHeartbeats 2000000 in
theorem specBes7 (v : Nat) (x y i : Int) (A : Option Addr) (n c : Nat) (w : World) (V : VarT w v x y A n c) (hx : 1 ≤ x ∧ x ≤ 17) (hy : 1 ≤ y ∧ y ≤ 17) (h0 : 0 ≤ i) (hi : i < x * y) (hm : x * y ≤ 289) (hw : IntKind.i64.wrap (x * y) = x * y) (h1 : x ≤ i) (h2 : ¬ (0 < i % x)) (h3 : ¬ (i % x + 1 < x)) (h4 : ¬ (i + x < x * y)) :
    Calls Try.prog 63 #[.pointer (some ⟨v, 0, none⟩), .int .i64 i] w fun e w' => ∃ B d, e = .returned (.slice B (Fk.sidL x y i).length d) ∧ Hid (Fk.GroI w' w.heap.size (Fk.sidL x y i) B d) ∧ Hid (Below w.heap.size w w') := by
  have E : Fk.sidL x y i = ((([i - x] ++ []) ++ []) ++ []) := by unfold Fk.sidL; rw [if_pos h1, if_neg h2, if_neg h3, if_neg h4]
  rw [E]
  have B0 : Below w.heap.size w (w.alloc (.cells #[] 2)) := (Below.refl _ _).alloc (Nat.le_refl _) _
  have H0 : Hid (Fk.GroI (w.alloc (.cells #[] 2)) w.heap.size [] (some ⟨w.heap.size, 0, none⟩) 0) := Fk.GroI.lit w (Nat.le_refl _)
  have D0 := Lib.hid B0
  have G0 : Hid (w.heap.size ≤ (w.alloc (.cells #[] 2)).heap.size) := D0.out.size
  have HV := Lib.hid V
  have V0 := V.below B0
  have q0 := V0.c0
  have q1 := V0.c1
  have hz : x ≠ 0 := by omega
  obtain ⟨m, hmm⟩ : ∃ m, m = x * y := ⟨_, rfl⟩
  rw [← hmm] at h4 hi hm
  have hwm : IntKind.i64.wrap (x * y) = m := by rw [hw]; exact hmm.symm
  have r0 := Int.emod_nonneg i hz
  have r1 := Int.emod_lt_of_pos i (show 0 < x by omega)
  obtain ⟨hx1, hx2⟩ := hx
  clear V V0 B0 hmm hw E
  go_enter Try.func63, Try.ntmps63
  go_wp2_with (first | (at_builtin; refine isAppI5 _ _ rfl ?_; refine Fk.wpGroI rfl _ _ rfl (w0 := (w.alloc (.cells #[] 2))) (y := i - x) H0.out rfl rfl (by simp [Act.eval]) (by simp) G0.out ?_; intro g1 c1 w1 O1 B1; have H1 := Lib.hid O1; have D1 := Lib.hid (D0.out.trans B1); have G1 : Hid (w.heap.size ≤ w1.heap.size) := D1.out.size; have V1 := HV.out.below D1.out; have q0 := V1.c0; have q1 := V1.c1; clear O1 B1 V1))
  go_quiet (fail)
  have H2 := Lib.hid (H1.out.dn (n := nq))
  have D2 : Hid (Below w.heap.size w (w1.drewN nq)) := belowN D1.out
  have G2 : Hid (w.heap.size ≤ (w1.drewN nq).heap.size) := D2.out.size
  have V2 := HV.out.below D2.out
  have q0 := V2.c0
  have q1 := V2.c1
  clear V2
  generalize w1.drewN nq = w2 at *
  go_wp2_with fail
  go_quiet (fail)
  have H3 := Lib.hid (H2.out.dn (n := nq))
  have D3 : Hid (Below w.heap.size w (w2.drewN nq)) := belowN D2.out
  have G3 : Hid (w.heap.size ≤ (w2.drewN nq).heap.size) := D3.out.size
  have V3 := HV.out.below D3.out
  have q0 := V3.c0
  have q1 := V3.c1
  clear V3
  generalize w2.drewN nq = w3 at *
  go_wp2_with fail
  go_ret
  exact ⟨_, _, rfl, H3, D3⟩

set_option maxHeartbeats 2000000 in
theorem specBes8 (v : Nat) (x y i : Int) (A : Option Addr) (n c : Nat) (w : World) (V : VarT w v x y A n c) (hx : 1 ≤ x ∧ x ≤ 17) (hy : 1 ≤ y ∧ y ≤ 17) (h0 : 0 ≤ i) (hi : i < x * y) (hm : x * y ≤ 289) (hw : IntKind.i64.wrap (x * y) = x * y) (h1 : ¬ (x ≤ i)) (h2 : 0 < i % x) (h3 : i % x + 1 < x) (h4 : i + x < x * y) :
    Calls Try.prog 63 #[.pointer (some ⟨v, 0, none⟩), .int .i64 i] w fun e w' => ∃ B d, e = .returned (.slice B (Fk.sidL x y i).length d) ∧ Hid (Fk.GroI w' w.heap.size (Fk.sidL x y i) B d) ∧ Hid (Below w.heap.size w w') := by
  have E : Fk.sidL x y i = (((([] : List Int) ++ [i - 1]) ++ [i + 1]) ++ [i + x]) := by unfold Fk.sidL; rw [if_neg h1, if_pos h2, if_pos h3, if_pos h4]
  rw [E]
  have B0 : Below w.heap.size w (w.alloc (.cells #[] 2)) := (Below.refl _ _).alloc (Nat.le_refl _) _
  have H0 : Hid (Fk.GroI (w.alloc (.cells #[] 2)) w.heap.size [] (some ⟨w.heap.size, 0, none⟩) 0) := Fk.GroI.lit w (Nat.le_refl _)
  have D0 := Lib.hid B0
  have G0 : Hid (w.heap.size ≤ (w.alloc (.cells #[] 2)).heap.size) := D0.out.size
  have HV := Lib.hid V
  have V0 := V.below B0
  have q0 := V0.c0
  have q1 := V0.c1
  have hz : x ≠ 0 := by omega
  obtain ⟨m, hmm⟩ : ∃ m, m = x * y := ⟨_, rfl⟩
  rw [← hmm] at h4 hi hm
  have hwm : IntKind.i64.wrap (x * y) = m := by rw [hw]; exact hmm.symm
  have r0 := Int.emod_nonneg i hz
  have r1 := Int.emod_lt_of_pos i (show 0 < x by omega)
  obtain ⟨hx1, hx2⟩ := hx
  clear V V0 B0 hmm hw E
  go_enter Try.func63, Try.ntmps63
  go_wp2_with (first | (at_builtin; refine isAppI5 _ _ rfl ?_; refine Fk.wpGroI rfl _ _ rfl (w0 := (w.alloc (.cells #[] 2))) (y := i - 1) H0.out rfl rfl (by simp [Act.eval]) (by simp) G0.out ?_; intro g1 c1 w1 O1 B1; have H1 := Lib.hid O1; have D1 := Lib.hid (D0.out.trans B1); have G1 : Hid (w.heap.size ≤ w1.heap.size) := D1.out.size; have V1 := HV.out.below D1.out; have q0 := V1.c0; have q1 := V1.c1; clear O1 B1 V1))
  go_quiet (fail)
  have H2 := Lib.hid (H1.out.dn (n := nq))
  have D2 : Hid (Below w.heap.size w (w1.drewN nq)) := belowN D1.out
  have G2 : Hid (w.heap.size ≤ (w1.drewN nq).heap.size) := D2.out.size
  have V2 := HV.out.below D2.out
  have q0 := V2.c0
  have q1 := V2.c1
  clear V2
  generalize w1.drewN nq = w2 at *
  go_wp2_with (at_builtin; refine isAppI5 _ _ rfl ?_; refine Fk.wpGroI rfl _ _ rfl (w0 := w2) (y := i + 1) H2.out rfl rfl rfl (by simp) G2.out ?_; intro g3 c3 w3 O3 B3; have H3 := Lib.hid O3; have D3 := Lib.hid (D2.out.trans B3); have G3 : Hid (w.heap.size ≤ w3.heap.size) := D3.out.size; have V3 := HV.out.below D3.out; have q0 := V3.c0; have q1 := V3.c1; clear O3 B3 V3)
  go_quiet (fail)
  have H4 := Lib.hid (H3.out.dn (n := nq))
  have D4 : Hid (Below w.heap.size w (w3.drewN nq)) := belowN D3.out
  have G4 : Hid (w.heap.size ≤ (w3.drewN nq).heap.size) := D4.out.size
  have V4 := HV.out.below D4.out
  have q0 := V4.c0
  have q1 := V4.c1
  clear V4
  generalize w3.drewN nq = w4 at *
  go_wp2_with (at_builtin; refine isAppI5 _ _ rfl ?_; refine Fk.wpGroI rfl _ _ rfl (w0 := w4) (y := i + x) H4.out rfl rfl rfl (by simp) G4.out ?_; intro g5 c5 w5 O5 B5; have H5 := Lib.hid O5; have D5 := Lib.hid (D4.out.trans B5); have G5 : Hid (w.heap.size ≤ w5.heap.size) := D5.out.size; have V5 := HV.out.below D5.out; have q0 := V5.c0; have q1 := V5.c1; clear O5 B5 V5)
  go_ret
  exact ⟨_, _, rfl, H5, D5⟩

set_option maxHeartbeats 2000000 in
theorem specBes9 (v : Nat) (x y i : Int) (A : Option Addr) (n c : Nat) (w : World) (V : VarT w v x y A n c) (hx : 1 ≤ x ∧ x ≤ 17) (hy : 1 ≤ y ∧ y ≤ 17) (h0 : 0 ≤ i) (hi : i < x * y) (hm : x * y ≤ 289) (hw : IntKind.i64.wrap (x * y) = x * y) (h1 : ¬ (x ≤ i)) (h2 : 0 < i % x) (h3 : i % x + 1 < x) (h4 : ¬ (i + x < x * y)) :
    Calls Try.prog 63 #[.pointer (some ⟨v, 0, none⟩), .int .i64 i] w fun e w' => ∃ B d, e = .returned (.slice B (Fk.sidL x y i).length d) ∧ Hid (Fk.GroI w' w.heap.size (Fk.sidL x y i) B d) ∧ Hid (Below w.heap.size w w') := by
  have E : Fk.sidL x y i = (((([] : List Int) ++ [i - 1]) ++ [i + 1]) ++ []) := by unfold Fk.sidL; rw [if_neg h1, if_pos h2, if_pos h3, if_neg h4]
  rw [E]
  have B0 : Below w.heap.size w (w.alloc (.cells #[] 2)) := (Below.refl _ _).alloc (Nat.le_refl _) _
  have H0 : Hid (Fk.GroI (w.alloc (.cells #[] 2)) w.heap.size [] (some ⟨w.heap.size, 0, none⟩) 0) := Fk.GroI.lit w (Nat.le_refl _)
  have D0 := Lib.hid B0
  have G0 : Hid (w.heap.size ≤ (w.alloc (.cells #[] 2)).heap.size) := D0.out.size
  have HV := Lib.hid V
  have V0 := V.below B0
  have q0 := V0.c0
  have q1 := V0.c1
  have hz : x ≠ 0 := by omega
  obtain ⟨m, hmm⟩ : ∃ m, m = x * y := ⟨_, rfl⟩
  rw [← hmm] at h4 hi hm
  have hwm : IntKind.i64.wrap (x * y) = m := by rw [hw]; exact hmm.symm
  have r0 := Int.emod_nonneg i hz
  have r1 := Int.emod_lt_of_pos i (show 0 < x by omega)
  obtain ⟨hx1, hx2⟩ := hx
  clear V V0 B0 hmm hw E
  go_enter Try.func63, Try.ntmps63
  go_wp2_with (first | (at_builtin; refine isAppI5 _ _ rfl ?_; refine Fk.wpGroI rfl _ _ rfl (w0 := (w.alloc (.cells #[] 2))) (y := i - 1) H0.out rfl rfl (by simp [Act.eval]) (by simp) G0.out ?_; intro g1 c1 w1 O1 B1; have H1 := Lib.hid O1; have D1 := Lib.hid (D0.out.trans B1); have G1 : Hid (w.heap.size ≤ w1.heap.size) := D1.out.size; have V1 := HV.out.below D1.out; have q0 := V1.c0; have q1 := V1.c1; clear O1 B1 V1))
  go_quiet (fail)
  have H2 := Lib.hid (H1.out.dn (n := nq))
  have D2 : Hid (Below w.heap.size w (w1.drewN nq)) := belowN D1.out
  have G2 : Hid (w.heap.size ≤ (w1.drewN nq).heap.size) := D2.out.size
  have V2 := HV.out.below D2.out
  have q0 := V2.c0
  have q1 := V2.c1
  clear V2
  generalize w1.drewN nq = w2 at *
  go_wp2_with (at_builtin; refine isAppI5 _ _ rfl ?_; refine Fk.wpGroI rfl _ _ rfl (w0 := w2) (y := i + 1) H2.out rfl rfl rfl (by simp) G2.out ?_; intro g3 c3 w3 O3 B3; have H3 := Lib.hid O3; have D3 := Lib.hid (D2.out.trans B3); have G3 : Hid (w.heap.size ≤ w3.heap.size) := D3.out.size; have V3 := HV.out.below D3.out; have q0 := V3.c0; have q1 := V3.c1; clear O3 B3 V3)
  go_quiet (fail)
  have H4 := Lib.hid (H3.out.dn (n := nq))
  have D4 : Hid (Below w.heap.size w (w3.drewN nq)) := belowN D3.out
  have G4 : Hid (w.heap.size ≤ (w3.drewN nq).heap.size) := D4.out.size
  have V4 := HV.out.below D4.out
  have q0 := V4.c0
  have q1 := V4.c1
  clear V4
  generalize w3.drewN nq = w4 at *
  go_wp2_with fail
  go_ret
  exact ⟨_, _, rfl, H4, D4⟩

set_option maxHeartbeats 2000000 in
theorem specBes10 (v : Nat) (x y i : Int) (A : Option Addr) (n c : Nat) (w : World) (V : VarT w v x y A n c) (hx : 1 ≤ x ∧ x ≤ 17) (hy : 1 ≤ y ∧ y ≤ 17) (h0 : 0 ≤ i) (hi : i < x * y) (hm : x * y ≤ 289) (hw : IntKind.i64.wrap (x * y) = x * y) (h1 : ¬ (x ≤ i)) (h2 : 0 < i % x) (h3 : ¬ (i % x + 1 < x)) (h4 : i + x < x * y) :
    Calls Try.prog 63 #[.pointer (some ⟨v, 0, none⟩), .int .i64 i] w fun e w' => ∃ B d, e = .returned (.slice B (Fk.sidL x y i).length d) ∧ Hid (Fk.GroI w' w.heap.size (Fk.sidL x y i) B d) ∧ Hid (Below w.heap.size w w') := by
  have E : Fk.sidL x y i = (((([] : List Int) ++ [i - 1]) ++ []) ++ [i + x]) := by unfold Fk.sidL; rw [if_neg h1, if_pos h2, if_neg h3, if_pos h4]
  rw [E]
  have B0 : Below w.heap.size w (w.alloc (.cells #[] 2)) := (Below.refl _ _).alloc (Nat.le_refl _) _
  have H0 : Hid (Fk.GroI (w.alloc (.cells #[] 2)) w.heap.size [] (some ⟨w.heap.size, 0, none⟩) 0) := Fk.GroI.lit w (Nat.le_refl _)
  have D0 := Lib.hid B0
  have G0 : Hid (w.heap.size ≤ (w.alloc (.cells #[] 2)).heap.size) := D0.out.size
  have HV := Lib.hid V
  have V0 := V.below B0
  have q0 := V0.c0
  have q1 := V0.c1
  have hz : x ≠ 0 := by omega
  obtain ⟨m, hmm⟩ : ∃ m, m = x * y := ⟨_, rfl⟩
  rw [← hmm] at h4 hi hm
  have hwm : IntKind.i64.wrap (x * y) = m := by rw [hw]; exact hmm.symm
  have r0 := Int.emod_nonneg i hz
  have r1 := Int.emod_lt_of_pos i (show 0 < x by omega)
  obtain ⟨hx1, hx2⟩ := hx
  clear V V0 B0 hmm hw E
  go_enter Try.func63, Try.ntmps63
  go_wp2_with (first | (at_builtin; refine isAppI5 _ _ rfl ?_; refine Fk.wpGroI rfl _ _ rfl (w0 := (w.alloc (.cells #[] 2))) (y := i - 1) H0.out rfl rfl (by simp [Act.eval]) (by simp) G0.out ?_; intro g1 c1 w1 O1 B1; have H1 := Lib.hid O1; have D1 := Lib.hid (D0.out.trans B1); have G1 : Hid (w.heap.size ≤ w1.heap.size) := D1.out.size; have V1 := HV.out.below D1.out; have q0 := V1.c0; have q1 := V1.c1; clear O1 B1 V1))
  go_quiet (fail)
  have H2 := Lib.hid (H1.out.dn (n := nq))
  have D2 : Hid (Below w.heap.size w (w1.drewN nq)) := belowN D1.out
  have G2 : Hid (w.heap.size ≤ (w1.drewN nq).heap.size) := D2.out.size
  have V2 := HV.out.below D2.out
  have q0 := V2.c0
  have q1 := V2.c1
  clear V2
  generalize w1.drewN nq = w2 at *
  go_wp2_with fail
  go_quiet (fail)
  have H3 := Lib.hid (H2.out.dn (n := nq))
  have D3 : Hid (Below w.heap.size w (w2.drewN nq)) := belowN D2.out
  have G3 : Hid (w.heap.size ≤ (w2.drewN nq).heap.size) := D3.out.size
  have V3 := HV.out.below D3.out
  have q0 := V3.c0
  have q1 := V3.c1
  clear V3
  generalize w2.drewN nq = w3 at *
  go_wp2_with (at_builtin; refine isAppI5 _ _ rfl ?_; refine Fk.wpGroI rfl _ _ rfl (w0 := w3) (y := i + x) H3.out rfl rfl rfl (by simp) G3.out ?_; intro g4 c4 w4 O4 B4; have H4 := Lib.hid O4; have D4 := Lib.hid (D3.out.trans B4); have G4 : Hid (w.heap.size ≤ w4.heap.size) := D4.out.size; have V4 := HV.out.below D4.out; have q0 := V4.c0; have q1 := V4.c1; clear O4 B4 V4)
  go_ret
  exact ⟨_, _, rfl, H4, D4⟩

set_option maxHeartbeats 2000000 in
theorem specBes11 (v : Nat) (x y i : Int) (A : Option Addr) (n c : Nat) (w : World) (V : VarT w v x y A n c) (hx : 1 ≤ x ∧ x ≤ 17) (hy : 1 ≤ y ∧ y ≤ 17) (h0 : 0 ≤ i) (hi : i < x * y) (hm : x * y ≤ 289) (hw : IntKind.i64.wrap (x * y) = x * y) (h1 : ¬ (x ≤ i)) (h2 : 0 < i % x) (h3 : ¬ (i % x + 1 < x)) (h4 : ¬ (i + x < x * y)) :
    Calls Try.prog 63 #[.pointer (some ⟨v, 0, none⟩), .int .i64 i] w fun e w' => ∃ B d, e = .returned (.slice B (Fk.sidL x y i).length d) ∧ Hid (Fk.GroI w' w.heap.size (Fk.sidL x y i) B d) ∧ Hid (Below w.heap.size w w') := by
  have E : Fk.sidL x y i = (((([] : List Int) ++ [i - 1]) ++ []) ++ []) := by unfold Fk.sidL; rw [if_neg h1, if_pos h2, if_neg h3, if_neg h4]
  rw [E]
  have B0 : Below w.heap.size w (w.alloc (.cells #[] 2)) := (Below.refl _ _).alloc (Nat.le_refl _) _
  have H0 : Hid (Fk.GroI (w.alloc (.cells #[] 2)) w.heap.size [] (some ⟨w.heap.size, 0, none⟩) 0) := Fk.GroI.lit w (Nat.le_refl _)
  have D0 := Lib.hid B0
  have G0 : Hid (w.heap.size ≤ (w.alloc (.cells #[] 2)).heap.size) := D0.out.size
  have HV := Lib.hid V
  have V0 := V.below B0
  have q0 := V0.c0
  have q1 := V0.c1
  have hz : x ≠ 0 := by omega
  obtain ⟨m, hmm⟩ : ∃ m, m = x * y := ⟨_, rfl⟩
  rw [← hmm] at h4 hi hm
  have hwm : IntKind.i64.wrap (x * y) = m := by rw [hw]; exact hmm.symm
  have r0 := Int.emod_nonneg i hz
  have r1 := Int.emod_lt_of_pos i (show 0 < x by omega)
  obtain ⟨hx1, hx2⟩ := hx
  clear V V0 B0 hmm hw E
  go_enter Try.func63, Try.ntmps63
  go_wp2_with (first | (at_builtin; refine isAppI5 _ _ rfl ?_; refine Fk.wpGroI rfl _ _ rfl (w0 := (w.alloc (.cells #[] 2))) (y := i - 1) H0.out rfl rfl (by simp [Act.eval]) (by simp) G0.out ?_; intro g1 c1 w1 O1 B1; have H1 := Lib.hid O1; have D1 := Lib.hid (D0.out.trans B1); have G1 : Hid (w.heap.size ≤ w1.heap.size) := D1.out.size; have V1 := HV.out.below D1.out; have q0 := V1.c0; have q1 := V1.c1; clear O1 B1 V1))
  go_quiet (fail)
  have H2 := Lib.hid (H1.out.dn (n := nq))
  have D2 : Hid (Below w.heap.size w (w1.drewN nq)) := belowN D1.out
  have G2 : Hid (w.heap.size ≤ (w1.drewN nq).heap.size) := D2.out.size
  have V2 := HV.out.below D2.out
  have q0 := V2.c0
  have q1 := V2.c1
  clear V2
  generalize w1.drewN nq = w2 at *
  go_wp2_with fail
  go_quiet (fail)
  have H3 := Lib.hid (H2.out.dn (n := nq))
  have D3 : Hid (Below w.heap.size w (w2.drewN nq)) := belowN D2.out
  have G3 : Hid (w.heap.size ≤ (w2.drewN nq).heap.size) := D3.out.size
  have V3 := HV.out.below D3.out
  have q0 := V3.c0
  have q1 := V3.c1
  clear V3
  generalize w2.drewN nq = w3 at *
  go_wp2_with fail
  go_ret
  exact ⟨_, _, rfl, H3, D3⟩

set_option maxHeartbeats 2000000 in
theorem specBes12 (v : Nat) (x y i : Int) (A : Option Addr) (n c : Nat) (w : World) (V : VarT w v x y A n c) (hx : 1 ≤ x ∧ x ≤ 17) (hy : 1 ≤ y ∧ y ≤ 17) (h0 : 0 ≤ i) (hi : i < x * y) (hm : x * y ≤ 289) (hw : IntKind.i64.wrap (x * y) = x * y) (h1 : ¬ (x ≤ i)) (h2 : ¬ (0 < i % x)) (h3 : i % x + 1 < x) (h4 : i + x < x * y) :
    Calls Try.prog 63 #[.pointer (some ⟨v, 0, none⟩), .int .i64 i] w fun e w' => ∃ B d, e = .returned (.slice B (Fk.sidL x y i).length d) ∧ Hid (Fk.GroI w' w.heap.size (Fk.sidL x y i) B d) ∧ Hid (Below w.heap.size w w') := by
  have E : Fk.sidL x y i = (((([] : List Int) ++ []) ++ [i + 1]) ++ [i + x]) := by unfold Fk.sidL; rw [if_neg h1, if_neg h2, if_pos h3, if_pos h4]
  rw [E]
  have B0 : Below w.heap.size w (w.alloc (.cells #[] 2)) := (Below.refl _ _).alloc (Nat.le_refl _) _
  have H0 : Hid (Fk.GroI (w.alloc (.cells #[] 2)) w.heap.size [] (some ⟨w.heap.size, 0, none⟩) 0) := Fk.GroI.lit w (Nat.le_refl _)
  have D0 := Lib.hid B0
  have G0 : Hid (w.heap.size ≤ (w.alloc (.cells #[] 2)).heap.size) := D0.out.size
  have HV := Lib.hid V
  have V0 := V.below B0
  have q0 := V0.c0
  have q1 := V0.c1
  have hz : x ≠ 0 := by omega
  obtain ⟨m, hmm⟩ : ∃ m, m = x * y := ⟨_, rfl⟩
  rw [← hmm] at h4 hi hm
  have hwm : IntKind.i64.wrap (x * y) = m := by rw [hw]; exact hmm.symm
  have r0 := Int.emod_nonneg i hz
  have r1 := Int.emod_lt_of_pos i (show 0 < x by omega)
  obtain ⟨hx1, hx2⟩ := hx
  clear V V0 B0 hmm hw E
  go_enter Try.func63, Try.ntmps63
  go_wp2_with fail
  go_quiet (fail)
  have H1 := Lib.hid (H0.out.dn (n := nq))
  have D1 : Hid (Below w.heap.size w ((w.alloc (.cells #[] 2)).drewN nq)) := belowN D0.out
  have G1 : Hid (w.heap.size ≤ ((w.alloc (.cells #[] 2)).drewN nq).heap.size) := D1.out.size
  have V1 := HV.out.below D1.out
  have q0 := V1.c0
  have q1 := V1.c1
  clear V1
  generalize (w.alloc (.cells #[] 2)).drewN nq = w1 at *
  go_wp2_with (at_builtin; refine isAppI5 _ _ rfl ?_; refine Fk.wpGroI rfl _ _ rfl (w0 := w1) (y := i + 1) H1.out rfl rfl rfl (by simp) G1.out ?_; intro g2 c2 w2 O2 B2; have H2 := Lib.hid O2; have D2 := Lib.hid (D1.out.trans B2); have G2 : Hid (w.heap.size ≤ w2.heap.size) := D2.out.size; have V2 := HV.out.below D2.out; have q0 := V2.c0; have q1 := V2.c1; clear O2 B2 V2)
  go_quiet (fail)
  have H3 := Lib.hid (H2.out.dn (n := nq))
  have D3 : Hid (Below w.heap.size w (w2.drewN nq)) := belowN D2.out
  have G3 : Hid (w.heap.size ≤ (w2.drewN nq).heap.size) := D3.out.size
  have V3 := HV.out.below D3.out
  have q0 := V3.c0
  have q1 := V3.c1
  clear V3
  generalize w2.drewN nq = w3 at *
  go_wp2_with (at_builtin; refine isAppI5 _ _ rfl ?_; refine Fk.wpGroI rfl _ _ rfl (w0 := w3) (y := i + x) H3.out rfl rfl rfl (by simp) G3.out ?_; intro g4 c4 w4 O4 B4; have H4 := Lib.hid O4; have D4 := Lib.hid (D3.out.trans B4); have G4 : Hid (w.heap.size ≤ w4.heap.size) := D4.out.size; have V4 := HV.out.below D4.out; have q0 := V4.c0; have q1 := V4.c1; clear O4 B4 V4)
  go_ret
  exact ⟨_, _, rfl, H4, D4⟩

set_option maxHeartbeats 2000000 in
theorem specBes13 (v : Nat) (x y i : Int) (A : Option Addr) (n c : Nat) (w : World) (V : VarT w v x y A n c) (hx : 1 ≤ x ∧ x ≤ 17) (hy : 1 ≤ y ∧ y ≤ 17) (h0 : 0 ≤ i) (hi : i < x * y) (hm : x * y ≤ 289) (hw : IntKind.i64.wrap (x * y) = x * y) (h1 : ¬ (x ≤ i)) (h2 : ¬ (0 < i % x)) (h3 : i % x + 1 < x) (h4 : ¬ (i + x < x * y)) :
    Calls Try.prog 63 #[.pointer (some ⟨v, 0, none⟩), .int .i64 i] w fun e w' => ∃ B d, e = .returned (.slice B (Fk.sidL x y i).length d) ∧ Hid (Fk.GroI w' w.heap.size (Fk.sidL x y i) B d) ∧ Hid (Below w.heap.size w w') := by
  have E : Fk.sidL x y i = (((([] : List Int) ++ []) ++ [i + 1]) ++ []) := by unfold Fk.sidL; rw [if_neg h1, if_neg h2, if_pos h3, if_neg h4]
  rw [E]
  have B0 : Below w.heap.size w (w.alloc (.cells #[] 2)) := (Below.refl _ _).alloc (Nat.le_refl _) _
  have H0 : Hid (Fk.GroI (w.alloc (.cells #[] 2)) w.heap.size [] (some ⟨w.heap.size, 0, none⟩) 0) := Fk.GroI.lit w (Nat.le_refl _)
  have D0 := Lib.hid B0
  have G0 : Hid (w.heap.size ≤ (w.alloc (.cells #[] 2)).heap.size) := D0.out.size
  have HV := Lib.hid V
  have V0 := V.below B0
  have q0 := V0.c0
  have q1 := V0.c1
  have hz : x ≠ 0 := by omega
  obtain ⟨m, hmm⟩ : ∃ m, m = x * y := ⟨_, rfl⟩
  rw [← hmm] at h4 hi hm
  have hwm : IntKind.i64.wrap (x * y) = m := by rw [hw]; exact hmm.symm
  have r0 := Int.emod_nonneg i hz
  have r1 := Int.emod_lt_of_pos i (show 0 < x by omega)
  obtain ⟨hx1, hx2⟩ := hx
  clear V V0 B0 hmm hw E
  go_enter Try.func63, Try.ntmps63
  go_wp2_with fail
  go_quiet (fail)
  have H1 := Lib.hid (H0.out.dn (n := nq))
  have D1 : Hid (Below w.heap.size w ((w.alloc (.cells #[] 2)).drewN nq)) := belowN D0.out
  have G1 : Hid (w.heap.size ≤ ((w.alloc (.cells #[] 2)).drewN nq).heap.size) := D1.out.size
  have V1 := HV.out.below D1.out
  have q0 := V1.c0
  have q1 := V1.c1
  clear V1
  generalize (w.alloc (.cells #[] 2)).drewN nq = w1 at *
  go_wp2_with (at_builtin; refine isAppI5 _ _ rfl ?_; refine Fk.wpGroI rfl _ _ rfl (w0 := w1) (y := i + 1) H1.out rfl rfl rfl (by simp) G1.out ?_; intro g2 c2 w2 O2 B2; have H2 := Lib.hid O2; have D2 := Lib.hid (D1.out.trans B2); have G2 : Hid (w.heap.size ≤ w2.heap.size) := D2.out.size; have V2 := HV.out.below D2.out; have q0 := V2.c0; have q1 := V2.c1; clear O2 B2 V2)
  go_quiet (fail)
  have H3 := Lib.hid (H2.out.dn (n := nq))
  have D3 : Hid (Below w.heap.size w (w2.drewN nq)) := belowN D2.out
  have G3 : Hid (w.heap.size ≤ (w2.drewN nq).heap.size) := D3.out.size
  have V3 := HV.out.below D3.out
  have q0 := V3.c0
  have q1 := V3.c1
  clear V3
  generalize w2.drewN nq = w3 at *
  go_wp2_with fail
  go_ret
  exact ⟨_, _, rfl, H3, D3⟩

set_option maxHeartbeats 2000000 in
theorem specBes14 (v : Nat) (x y i : Int) (A : Option Addr) (n c : Nat) (w : World) (V : VarT w v x y A n c) (hx : 1 ≤ x ∧ x ≤ 17) (hy : 1 ≤ y ∧ y ≤ 17) (h0 : 0 ≤ i) (hi : i < x * y) (hm : x * y ≤ 289) (hw : IntKind.i64.wrap (x * y) = x * y) (h1 : ¬ (x ≤ i)) (h2 : ¬ (0 < i % x)) (h3 : ¬ (i % x + 1 < x)) (h4 : i + x < x * y) :
    Calls Try.prog 63 #[.pointer (some ⟨v, 0, none⟩), .int .i64 i] w fun e w' => ∃ B d, e = .returned (.slice B (Fk.sidL x y i).length d) ∧ Hid (Fk.GroI w' w.heap.size (Fk.sidL x y i) B d) ∧ Hid (Below w.heap.size w w') := by
  have E : Fk.sidL x y i = (((([] : List Int) ++ []) ++ []) ++ [i + x]) := by unfold Fk.sidL; rw [if_neg h1, if_neg h2, if_neg h3, if_pos h4]
  rw [E]
  have B0 : Below w.heap.size w (w.alloc (.cells #[] 2)) := (Below.refl _ _).alloc (Nat.le_refl _) _
  have H0 : Hid (Fk.GroI (w.alloc (.cells #[] 2)) w.heap.size [] (some ⟨w.heap.size, 0, none⟩) 0) := Fk.GroI.lit w (Nat.le_refl _)
  have D0 := Lib.hid B0
  have G0 : Hid (w.heap.size ≤ (w.alloc (.cells #[] 2)).heap.size) := D0.out.size
  have HV := Lib.hid V
  have V0 := V.below B0
  have q0 := V0.c0
  have q1 := V0.c1
  have hz : x ≠ 0 := by omega
  obtain ⟨m, hmm⟩ : ∃ m, m = x * y := ⟨_, rfl⟩
  rw [← hmm] at h4 hi hm
  have hwm : IntKind.i64.wrap (x * y) = m := by rw [hw]; exact hmm.symm
  have r0 := Int.emod_nonneg i hz
  have r1 := Int.emod_lt_of_pos i (show 0 < x by omega)
  obtain ⟨hx1, hx2⟩ := hx
  clear V V0 B0 hmm hw E
  go_enter Try.func63, Try.ntmps63
  go_wp2_with fail
  go_quiet (fail)
  have H1 := Lib.hid (H0.out.dn (n := nq))
  have D1 : Hid (Below w.heap.size w ((w.alloc (.cells #[] 2)).drewN nq)) := belowN D0.out
  have G1 : Hid (w.heap.size ≤ ((w.alloc (.cells #[] 2)).drewN nq).heap.size) := D1.out.size
  have V1 := HV.out.below D1.out
  have q0 := V1.c0
  have q1 := V1.c1
  clear V1
  generalize (w.alloc (.cells #[] 2)).drewN nq = w1 at *
  go_wp2_with fail
  go_quiet (fail)
  have H2 := Lib.hid (H1.out.dn (n := nq))
  have D2 : Hid (Below w.heap.size w (w1.drewN nq)) := belowN D1.out
  have G2 : Hid (w.heap.size ≤ (w1.drewN nq).heap.size) := D2.out.size
  have V2 := HV.out.below D2.out
  have q0 := V2.c0
  have q1 := V2.c1
  clear V2
  generalize w1.drewN nq = w2 at *
  go_wp2_with (at_builtin; refine isAppI5 _ _ rfl ?_; refine Fk.wpGroI rfl _ _ rfl (w0 := w2) (y := i + x) H2.out rfl rfl rfl (by simp) G2.out ?_; intro g3 c3 w3 O3 B3; have H3 := Lib.hid O3; have D3 := Lib.hid (D2.out.trans B3); have G3 : Hid (w.heap.size ≤ w3.heap.size) := D3.out.size; have V3 := HV.out.below D3.out; have q0 := V3.c0; have q1 := V3.c1; clear O3 B3 V3)
  go_ret
  exact ⟨_, _, rfl, H3, D3⟩

set_option maxHeartbeats 2000000 in
theorem specBes15 (v : Nat) (x y i : Int) (A : Option Addr) (n c : Nat) (w : World) (V : VarT w v x y A n c) (hx : 1 ≤ x ∧ x ≤ 17) (hy : 1 ≤ y ∧ y ≤ 17) (h0 : 0 ≤ i) (hi : i < x * y) (hm : x * y ≤ 289) (hw : IntKind.i64.wrap (x * y) = x * y) (h1 : ¬ (x ≤ i)) (h2 : ¬ (0 < i % x)) (h3 : ¬ (i % x + 1 < x)) (h4 : ¬ (i + x < x * y)) :
    Calls Try.prog 63 #[.pointer (some ⟨v, 0, none⟩), .int .i64 i] w fun e w' => ∃ B d, e = .returned (.slice B (Fk.sidL x y i).length d) ∧ Hid (Fk.GroI w' w.heap.size (Fk.sidL x y i) B d) ∧ Hid (Below w.heap.size w w') := by
  have E : Fk.sidL x y i = (((([] : List Int) ++ []) ++ []) ++ []) := by unfold Fk.sidL; rw [if_neg h1, if_neg h2, if_neg h3, if_neg h4]
  rw [E]
  have B0 : Below w.heap.size w (w.alloc (.cells #[] 2)) := (Below.refl _ _).alloc (Nat.le_refl _) _
  have H0 : Hid (Fk.GroI (w.alloc (.cells #[] 2)) w.heap.size [] (some ⟨w.heap.size, 0, none⟩) 0) := Fk.GroI.lit w (Nat.le_refl _)
  have D0 := Lib.hid B0
  have G0 : Hid (w.heap.size ≤ (w.alloc (.cells #[] 2)).heap.size) := D0.out.size
  have HV := Lib.hid V
  have V0 := V.below B0
  have q0 := V0.c0
  have q1 := V0.c1
  have hz : x ≠ 0 := by omega
  obtain ⟨m, hmm⟩ : ∃ m, m = x * y := ⟨_, rfl⟩
  rw [← hmm] at h4 hi hm
  have hwm : IntKind.i64.wrap (x * y) = m := by rw [hw]; exact hmm.symm
  have r0 := Int.emod_nonneg i hz
  have r1 := Int.emod_lt_of_pos i (show 0 < x by omega)
  obtain ⟨hx1, hx2⟩ := hx
  clear V V0 B0 hmm hw E
  go_enter Try.func63, Try.ntmps63
  go_wp2_with fail
  go_quiet (fail)
  have H1 := Lib.hid (H0.out.dn (n := nq))
  have D1 : Hid (Below w.heap.size w ((w.alloc (.cells #[] 2)).drewN nq)) := belowN D0.out
  have G1 : Hid (w.heap.size ≤ ((w.alloc (.cells #[] 2)).drewN nq).heap.size) := D1.out.size
  have V1 := HV.out.below D1.out
  have q0 := V1.c0
  have q1 := V1.c1
  clear V1
  generalize (w.alloc (.cells #[] 2)).drewN nq = w1 at *
  go_wp2_with fail
  go_quiet (fail)
  have H2 := Lib.hid (H1.out.dn (n := nq))
  have D2 : Hid (Below w.heap.size w (w1.drewN nq)) := belowN D1.out
  have G2 : Hid (w.heap.size ≤ (w1.drewN nq).heap.size) := D2.out.size
  have V2 := HV.out.below D2.out
  have q0 := V2.c0
  have q1 := V2.c1
  clear V2
  generalize w1.drewN nq = w2 at *
  go_wp2_with fail
  go_ret
  exact ⟨_, _, rfl, H2, D2⟩

theorem specBes (v : Nat) (x y i : Int) (A : Option Addr) (n c : Nat) (w : World) (V : VarT w v x y A n c) (hv : sidesB x y = true) (h0 : 0 ≤ i) (hi : i < x * y) :
    Calls Try.prog 63 #[.pointer (some ⟨v, 0, none⟩), .int .i64 i] w fun e w' => ∃ B d, e = .returned (.slice B (Fk.sidL x y i).length d) ∧ Hid (Fk.GroI w' w.heap.size (Fk.sidL x y i) B d) ∧ Hid (Below w.heap.size w w') := by
  obtain ⟨hx, hy⟩ := Fk.sidesB_yes hv
  have hm := (Fk.sides_bd hv).2
  have hw : IntKind.i64.wrap (x * y) = x * y := IntWalk.i64_in _ (by have := (Fk.sides_bd hv).1; omega)
  by_cases h1 : x ≤ i
  · by_cases h2 : 0 < i % x
    · by_cases h3 : i % x + 1 < x
      · by_cases h4 : i + x < x * y
        · exact specBes0 v x y i A n c w V hx hy h0 hi hm hw h1 h2 h3 h4
        · exact specBes1 v x y i A n c w V hx hy h0 hi hm hw h1 h2 h3 h4
      · by_cases h4 : i + x < x * y
        · exact specBes2 v x y i A n c w V hx hy h0 hi hm hw h1 h2 h3 h4
        · exact specBes3 v x y i A n c w V hx hy h0 hi hm hw h1 h2 h3 h4
    · by_cases h3 : i % x + 1 < x
      · by_cases h4 : i + x < x * y
        · exact specBes4 v x y i A n c w V hx hy h0 hi hm hw h1 h2 h3 h4
        · exact specBes5 v x y i A n c w V hx hy h0 hi hm hw h1 h2 h3 h4
      · by_cases h4 : i + x < x * y
        · exact specBes6 v x y i A n c w V hx hy h0 hi hm hw h1 h2 h3 h4
        · exact specBes7 v x y i A n c w V hx hy h0 hi hm hw h1 h2 h3 h4
  · by_cases h2 : 0 < i % x
    · by_cases h3 : i % x + 1 < x
      · by_cases h4 : i + x < x * y
        · exact specBes8 v x y i A n c w V hx hy h0 hi hm hw h1 h2 h3 h4
        · exact specBes9 v x y i A n c w V hx hy h0 hi hm hw h1 h2 h3 h4
      · by_cases h4 : i + x < x * y
        · exact specBes10 v x y i A n c w V hx hy h0 hi hm hw h1 h2 h3 h4
        · exact specBes11 v x y i A n c w V hx hy h0 hi hm hw h1 h2 h3 h4
    · by_cases h3 : i % x + 1 < x
      · by_cases h4 : i + x < x * y
        · exact specBes12 v x y i A n c w V hx hy h0 hi hm hw h1 h2 h3 h4
        · exact specBes13 v x y i A n c w V hx hy h0 hi hm hw h1 h2 h3 h4
      · by_cases h4 : i + x < x * y
        · exact specBes14 v x y i A n c w V hx hy h0 hi hm hw h1 h2 h3 h4
        · exact specBes15 v x y i A n c w V hx hy h0 hi hm hw h1 h2 h3 h4

end Go.Proofs.Ytgiblioilpedfaa
