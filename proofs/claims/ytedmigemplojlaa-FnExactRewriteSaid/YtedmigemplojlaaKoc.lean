/-
  What is proved here: the three grammars that are given, and their laws, as walks. Conditions: none.
-/
import Derived.Test.YtedmigemplojlaaGrm
namespace Go.Proofs.Ytedmigemplojlaa
open Go.RowKit

def GivenG (st : ByteArray) (n : Nat) (ss : List ByteArray) (w : World) (e : Ending) (w' : World) : Prop :=
  ∃ g, e = .returned (.agg #[.string st, .slice (some ⟨g, 0, none⟩) n n]) ∧ w.heap.size ≤ g ∧ g < w'.heap.size ∧ Hid (OwnS w' g (some ⟨g, 0, none⟩) ss) ∧ Hid (Below w.heap.size w w')

/-- two blocks that are made, the second one of texts -/
theorem givenG_two {w : World} {st : ByteArray} {n : Nat} {ss : List ByteArray} {t u : TypeId} {v : Array Value} (hv : ∀ j, j < ss.length → v[j]? = some (.string (atS ss j))) :
    GivenG st n ss w (.returned (.agg #[.string st, .slice (some ⟨w.heap.size + 1, 0, none⟩) n n])) ((w.alloc (.cells #[.string st, .slice (some ⟨w.heap.size + 1, 0, none⟩) n n] t)).alloc (.cells v u)) := by
  refine ⟨w.heap.size + 1, rfl, by omega, by simp, ?_, ((Below.refl _ _).alloc (Nat.le_refl _) _).alloc (by simp) _⟩
  intro _
  refine ⟨w.heap.size + 1, 0, rfl, Nat.le_refl _, by simp, fun j hj => ?_, fun j hj => ?_⟩
  · rw [World.cell?_alloc2_new, Nat.zero_add, hv j hj]
  · have h := World.frozen?_alloc_new (w.alloc (.cells #[.string st, .slice (some ⟨w.heap.size + 1, 0, none⟩) n n] t)) v u (0 + j)
    rw [show (w.alloc (.cells #[.string st, .slice (some ⟨w.heap.size + 1, 0, none⟩) n n] t)).heap.size = w.heap.size + 1 by simp] at h
    exact h

/-- a local variable that holds a grammar -/
structure VarG (w : World) (x : Nat) (st : ByteArray) (A : Option Addr) (n c : Nat) : Prop where
  lt : x < w.heap.size
  c0 : w.cell? ⟨x, 0, none⟩ = some (.string st)
  c1 : w.cell? ⟨x, 1, none⟩ = some (.slice A n c)

theorem varG_new (w : World) (st : ByteArray) (A : Option Addr) (n c : Nat) (t : TypeId) : VarG (w.alloc (.cells #[.string st, .slice A n c] t)) w.heap.size st A n c := by
  refine ⟨by simp, ?_, ?_⟩ <;> simp [World.cell?, World.alloc, -World.alloc_eq]
theorem VarG.below {w w' : World} {x : Nat} {st : ByteArray} {A : Option Addr} {n c : Nat} (h : VarG w x st A n c) (hb : Below w.heap.size w w') : VarG w' x st A n c :=
  ⟨Nat.lt_of_lt_of_le h.lt hb.size, by rw [hb.cell h.lt]; exact h.c0, by rw [hb.cell h.lt]; exact h.c1⟩
theorem VarG.butG {w w' : World} {x B g : Nat} {st : ByteArray} {A : Option Addr} {n c : Nat} (h : VarG w x st A n c) (hb : ButG B (some ⟨g, 0, none⟩) w w') (hx : x ≠ g) : VarG w' x st A n c := by
  have e : w'.heap[x]? = w.heap[x]? := hb.block x h.lt fun a ha => by injection ha with ha; subst ha; exact hx
  exact ⟨Nat.lt_of_lt_of_le h.lt hb.size, by rw [World.cell?_of_block (w := w) e]; exact h.c0, by rw [World.cell?_of_block (w := w) e]; exact h.c1⟩

def kochL : List ByteArray := [⟨#[70]⟩, ⟨#[70, 43, 70, 45, 45, 70, 43, 70]⟩]
theorem koch_s (w : World) : Calls Try.prog 24 #[] w (GivenG ⟨#[70]⟩ 1 kochL w) := by
  go_enter Try.func24, Try.ntmps24
  go_wp2_with fail
  exact bodyPost_ret (v := .agg #[.string ⟨#[70]⟩, .slice (some ⟨w.heap.size + 1, 0, none⟩) 1 1]) (by simp [results, Try.results24, go_sem]) rfl (givenG_two fun j hj => by
    have h : j = 0 ∨ j = 1 := by have : j < 2 := hj; omega
    rcases h with rfl | rfl <;> rfl)

theorem koch_i (w : World) : Calls Try.prog 25 #[] w (GivenG ⟨#[70]⟩ 1 kochL w) := by
  go_enter Try.func25, Try.ntmps25
  go_wp2_with fail
  exact bodyPost_ret (v := .agg #[.string ⟨#[70]⟩, .slice (some ⟨w.heap.size + 1, 0, none⟩) 1 1]) (by simp [results, Try.results25, go_sem]) rfl (givenG_two fun j hj => by
    have h : j = 0 ∨ j = 1 := by have : j < 2 := hj; omega
    rcases h with rfl | rfl <;> rfl)

set_option maxRecDepth 1000000 in
theorem lawKoch (w : World) : Calls Try.prog 6 #[] w fun e w' => e = .returned (.bool true) ∧ Below w.heap.size w w' := by
  have hl : Hid (kochL.length = 2 * 1) := rfl
  go_enter Try.func6, Try.ntmps6
  go_wp2_with fail
  refine (koch_s _).mono ?_
  rintro e w1 ⟨g1, rfl, l1, s1, O1, B1⟩
  have hb1 : Below w1.heap.size w1 (w1.alloc (.cells #[.string ⟨#[70]⟩, .slice (some ⟨g1, 0, none⟩) 1 1] 30)) := (Below.refl _ _).alloc (Nat.le_refl _) _
  have V1 := Lib.hid (varG_new w1 ⟨#[70]⟩ (some ⟨g1, 0, none⟩) 1 1 30)
  have R1 := Lib.hid (O1.out.row.below hb1)
  have C1 := Lib.hid (B1.out.trans (hb1.mono B1.out.size))
  have L1 : Hid (w.heap.size ≤ w1.heap.size) := B1.out.size
  have s2 := hb1.size
  clear hb1 O1 B1 l1 s1
  go_wp2_with fail
  generalize w1.alloc (.cells #[.string ⟨#[70]⟩, .slice (some ⟨g1, 0, none⟩) 1 1] 30) = a1 at *
  generalize w1.heap.size = x1 at *
  refine (koch_i _).mono ?_
  rintro e w2 ⟨g2, rfl, l2, t2, O2, B2⟩
  have hb2 : Below w2.heap.size w2 (w2.alloc (.cells #[.string ⟨#[70]⟩, .slice (some ⟨g2, 0, none⟩) 1 1] 30)) := (Below.refl _ _).alloc (Nat.le_refl _) _
  have V2 := Lib.hid (varG_new w2 ⟨#[70]⟩ (some ⟨g2, 0, none⟩) 1 1 30)
  have V1b := Lib.hid ((V1.out.below B2.out).below hb2)
  have R1b := Lib.hid ((R1.out.below (B2.out.mono s2)).below (hb2.mono (Nat.le_trans s2 B2.out.size)))
  have O2b := Lib.hid (O2.out.below hb2)
  have C2 := Lib.hid (C1.out.trans ((B2.out.trans (hb2.mono B2.out.size)).mono C1.out.size))
  have hx : x1 < w2.heap.size := (V1.out.below B2.out).lt
  have c0 := (V1.out.below B2.out).c0
  have c1 := (V1.out.below B2.out).c1
  have N1 : Hid (x1 ≠ g2) := by have := V1.out.lt; show x1 ≠ g2; omega
  have N2 : Hid (w2.heap.size ≠ g2) := by show w2.heap.size ≠ g2; omega
  have N3 : Hid (x1 ≤ g2) := by show x1 ≤ g2; omega
  have N4 : Hid (g2 < w2.heap.size) := t2
  have s3 := hb2.size
  clear hb2 V1 R1 O2 C1 B2 l2 t2
  go_wp2_with fail
  clear c0 c1 hx
  generalize w2.alloc (.cells #[.string ⟨#[70]⟩, .slice (some ⟨g2, 0, none⟩) 1 1] 30) = a2 at *
  generalize w2.heap.size = x2 at *
  have N5 : Hid (x1 ≤ a2.heap.size) := Nat.le_of_lt V1b.out.lt
  refine (eqGrammar_is ⟨#[70]⟩ _ _ 1 _ _ kochL a2 a2.heap.size (Nat.le_refl _) O2b.out.row (R1b.out.mono N5.out) hl.out (by decide)).mono ?_
  rintro e w3 ⟨rfl, B3⟩
  have V1c := Lib.hid (V1b.out.below B3.out)
  have V2c := Lib.hid (V2.out.below B3.out)
  have R1c := Lib.hid (R1b.out.below (B3.out.mono N5.out))
  have O2c := Lib.hid (O2b.out.below B3.out)
  have C3 := Lib.hid (C2.out.trans (B3.out.mono C2.out.size))
  have N6 : Hid (g2 < w3.heap.size) := by have := N4.out; have := B3.out.size; show g2 < w3.heap.size; omega
  clear V1b V2 R1b O2b C2 B3 s2 s3 N5
  have c0 := V1c.out.c0
  have c1 := V1c.out.c1
  have d0 := V2c.out.c0
  have d1 := V2c.out.c1
  go_wp2_with fail
  refine (markGrammar_is ⟨#[70]⟩ g2 1 1 1 kochL w3 N6.out O2c.out hl.out (by decide) (by decide) (by decide)).mono ?_
  rintro e w4 ⟨rfl, O4, B4⟩
  have V1d := Lib.hid (V1c.out.butG B4.out N1.out)
  have V2d := Lib.hid (V2c.out.butG B4.out N2.out)
  have R1d := Lib.hid (R1c.out.butG B4.out N3.out)
  have C4 := Lib.hid (C3.out.trans (B4.out.toBelow.mono (Nat.le_trans L1.out N3.out)))
  clear c0 c1 d0 d1 V1c V2c R1c O2c C3 B4 N6
  have d0 := V2d.out.c0
  have d1 := V2d.out.c1
  go_wp2_with fail
  refine (heldGrammar_is ⟨#[70]⟩ (some ⟨g2, 0, none⟩) 1 1 1 w4.heap.size w4 (Nat.le_refl _) O4.out.row (by decide) (by decide) (by decide)).mono ?_
  rintro e w5 ⟨rfl, B5⟩
  have V1e := Lib.hid (V1d.out.below B5.out)
  have V2e := Lib.hid (V2d.out.below B5.out)
  have R1e := Lib.hid (R1d.out.below (B5.out.mono (Nat.le_of_lt V1d.out.lt)))
  have O5 := Lib.hid (O4.out.below B5.out)
  have C5 := Lib.hid (C4.out.trans (B5.out.mono C4.out.size))
  clear d0 d1 V1d V2d R1d O4 C4 B5
  go_wp2_with fail
  refine (koch_i _).mono ?_
  rintro e w6 ⟨g6, rfl, l6, t6, O6, B6⟩
  have hb6 : Below w6.heap.size w6 (w6.alloc (.cells #[.string ⟨#[70]⟩, .slice (some ⟨g6, 0, none⟩) 1 1] 30)) := (Below.refl _ _).alloc (Nat.le_refl _) _
  have V6 := Lib.hid (varG_new w6 ⟨#[70]⟩ (some ⟨g6, 0, none⟩) 1 1 30)
  have V1f := Lib.hid ((V1e.out.below B6.out).below hb6)
  have V2f := Lib.hid ((V2e.out.below B6.out).below hb6)
  have R1f := Lib.hid ((R1e.out.below (B6.out.mono (Nat.le_of_lt V1e.out.lt))).below (hb6.mono (Nat.le_trans (Nat.le_of_lt V1e.out.lt) B6.out.size)))
  have O5f := Lib.hid ((O5.out.below B6.out).below hb6)
  have O6f := Lib.hid (O6.out.below hb6)
  have C6 := Lib.hid (C5.out.trans ((B6.out.trans (hb6.mono B6.out.size)).mono C5.out.size))
  have hx : x1 < w6.heap.size := (V1e.out.below B6.out).lt
  have c0 := (V1e.out.below B6.out).c0
  have c1 := (V1e.out.below B6.out).c1
  clear hb6 V1e V2e R1e O5 O6 C5 B6 l6 t6
  go_wp2_with fail
  clear c0 c1 hx
  generalize w6.alloc (.cells #[.string ⟨#[70]⟩, .slice (some ⟨g6, 0, none⟩) 1 1] 30) = a6 at *
  generalize w6.heap.size = x6 at *
  refine (eqGrammar_is ⟨#[70]⟩ _ _ 1 _ _ kochL a6 a6.heap.size (Nat.le_refl _) O6f.out.row (R1f.out.mono (Nat.le_of_lt V1f.out.lt)) hl.out (by decide)).mono ?_
  rintro e w7 ⟨rfl, B7⟩
  have V2g := Lib.hid (V2f.out.below B7.out)
  have O7 := Lib.hid (O5f.out.below B7.out)
  have C7 := Lib.hid (C6.out.trans (B7.out.mono C6.out.size))
  clear V1f V2f V6 R1f O5f O6f C6 B7
  have d0 := V2g.out.c0
  have d1 := V2g.out.c1
  go_wp2_with fail
  refine (heldGrammar_is ⟨#[70]⟩ (some ⟨g2, 0, none⟩) 1 1 1 w7.heap.size w7 (Nat.le_refl _) O7.out.row (by decide) (by decide) (by decide)).mono ?_
  rintro e w8 ⟨rfl, B8⟩
  have C8 := Lib.hid (C7.out.trans (B8.out.mono C7.out.size))
  clear d0 d1 V2g O7 C7 B8
  go_wp2_with fail
  go_ret
  exact ⟨rfl, C8.out⟩

def dragonL : List ByteArray := [⟨#[88]⟩, ⟨#[88, 43, 89, 70, 43]⟩, ⟨#[89]⟩, ⟨#[45, 70, 88, 45, 89]⟩]
theorem dragon_s (w : World) : Calls Try.prog 28 #[] w (GivenG ⟨#[70, 88]⟩ 2 dragonL w) := by
  go_enter Try.func28, Try.ntmps28
  go_wp2_with fail
  exact bodyPost_ret (v := .agg #[.string ⟨#[70, 88]⟩, .slice (some ⟨w.heap.size + 1, 0, none⟩) 2 2]) (by simp [results, Try.results28, go_sem]) rfl (givenG_two fun j hj => by
    have h : j = 0 ∨ j = 1 ∨ j = 2 ∨ j = 3 := by have : j < 4 := hj; omega
    rcases h with rfl | rfl | rfl | rfl <;> rfl)

theorem dragon_i (w : World) : Calls Try.prog 29 #[] w (GivenG ⟨#[70, 88]⟩ 2 dragonL w) := by
  go_enter Try.func29, Try.ntmps29
  go_wp2_with fail
  exact bodyPost_ret (v := .agg #[.string ⟨#[70, 88]⟩, .slice (some ⟨w.heap.size + 1, 0, none⟩) 2 2]) (by simp [results, Try.results29, go_sem]) rfl (givenG_two fun j hj => by
    have h : j = 0 ∨ j = 1 ∨ j = 2 ∨ j = 3 := by have : j < 4 := hj; omega
    rcases h with rfl | rfl | rfl | rfl <;> rfl)

set_option maxRecDepth 1000000 in
theorem lawDragon (w : World) : Calls Try.prog 7 #[] w fun e w' => e = .returned (.bool true) ∧ Below w.heap.size w w' := by
  have hl : Hid (dragonL.length = 2 * 2) := rfl
  go_enter Try.func7, Try.ntmps7
  go_wp2_with fail
  refine (dragon_s _).mono ?_
  rintro e w1 ⟨g1, rfl, l1, s1, O1, B1⟩
  have hb1 : Below w1.heap.size w1 (w1.alloc (.cells #[.string ⟨#[70, 88]⟩, .slice (some ⟨g1, 0, none⟩) 2 2] 30)) := (Below.refl _ _).alloc (Nat.le_refl _) _
  have V1 := Lib.hid (varG_new w1 ⟨#[70, 88]⟩ (some ⟨g1, 0, none⟩) 2 2 30)
  have R1 := Lib.hid (O1.out.row.below hb1)
  have C1 := Lib.hid (B1.out.trans (hb1.mono B1.out.size))
  have L1 : Hid (w.heap.size ≤ w1.heap.size) := B1.out.size
  have s2 := hb1.size
  clear hb1 O1 B1 l1 s1
  go_wp2_with fail
  generalize w1.alloc (.cells #[.string ⟨#[70, 88]⟩, .slice (some ⟨g1, 0, none⟩) 2 2] 30) = a1 at *
  generalize w1.heap.size = x1 at *
  refine (dragon_i _).mono ?_
  rintro e w2 ⟨g2, rfl, l2, t2, O2, B2⟩
  have hb2 : Below w2.heap.size w2 (w2.alloc (.cells #[.string ⟨#[70, 88]⟩, .slice (some ⟨g2, 0, none⟩) 2 2] 30)) := (Below.refl _ _).alloc (Nat.le_refl _) _
  have V2 := Lib.hid (varG_new w2 ⟨#[70, 88]⟩ (some ⟨g2, 0, none⟩) 2 2 30)
  have V1b := Lib.hid ((V1.out.below B2.out).below hb2)
  have R1b := Lib.hid ((R1.out.below (B2.out.mono s2)).below (hb2.mono (Nat.le_trans s2 B2.out.size)))
  have O2b := Lib.hid (O2.out.below hb2)
  have C2 := Lib.hid (C1.out.trans ((B2.out.trans (hb2.mono B2.out.size)).mono C1.out.size))
  have hx : x1 < w2.heap.size := (V1.out.below B2.out).lt
  have c0 := (V1.out.below B2.out).c0
  have c1 := (V1.out.below B2.out).c1
  have N1 : Hid (x1 ≠ g2) := by have := V1.out.lt; show x1 ≠ g2; omega
  have N2 : Hid (w2.heap.size ≠ g2) := by show w2.heap.size ≠ g2; omega
  have N3 : Hid (x1 ≤ g2) := by show x1 ≤ g2; omega
  have N4 : Hid (g2 < w2.heap.size) := t2
  have s3 := hb2.size
  clear hb2 V1 R1 O2 C1 B2 l2 t2
  go_wp2_with fail
  clear c0 c1 hx
  generalize w2.alloc (.cells #[.string ⟨#[70, 88]⟩, .slice (some ⟨g2, 0, none⟩) 2 2] 30) = a2 at *
  generalize w2.heap.size = x2 at *
  have N5 : Hid (x1 ≤ a2.heap.size) := Nat.le_of_lt V1b.out.lt
  refine (eqGrammar_is ⟨#[70, 88]⟩ _ _ 2 _ _ dragonL a2 a2.heap.size (Nat.le_refl _) O2b.out.row (R1b.out.mono N5.out) hl.out (by decide)).mono ?_
  rintro e w3 ⟨rfl, B3⟩
  have V1c := Lib.hid (V1b.out.below B3.out)
  have V2c := Lib.hid (V2.out.below B3.out)
  have R1c := Lib.hid (R1b.out.below (B3.out.mono N5.out))
  have O2c := Lib.hid (O2b.out.below B3.out)
  have C3 := Lib.hid (C2.out.trans (B3.out.mono C2.out.size))
  have N6 : Hid (g2 < w3.heap.size) := by have := N4.out; have := B3.out.size; show g2 < w3.heap.size; omega
  clear V1b V2 R1b O2b C2 B3 s2 s3 N5
  have c0 := V1c.out.c0
  have c1 := V1c.out.c1
  have d0 := V2c.out.c0
  have d1 := V2c.out.c1
  go_wp2_with fail
  refine (markGrammar_is ⟨#[70, 88]⟩ g2 2 2 1 dragonL w3 N6.out O2c.out hl.out (by decide) (by decide) (by decide)).mono ?_
  rintro e w4 ⟨rfl, O4, B4⟩
  have V1d := Lib.hid (V1c.out.butG B4.out N1.out)
  have V2d := Lib.hid (V2c.out.butG B4.out N2.out)
  have R1d := Lib.hid (R1c.out.butG B4.out N3.out)
  have C4 := Lib.hid (C3.out.trans (B4.out.toBelow.mono (Nat.le_trans L1.out N3.out)))
  clear c0 c1 d0 d1 V1c V2c R1c O2c C3 B4 N6
  have d0 := V2d.out.c0
  have d1 := V2d.out.c1
  go_wp2_with fail
  refine (heldGrammar_is ⟨#[70, 88]⟩ (some ⟨g2, 0, none⟩) 2 2 1 w4.heap.size w4 (Nat.le_refl _) O4.out.row (by decide) (by decide) (by decide)).mono ?_
  rintro e w5 ⟨rfl, B5⟩
  have V1e := Lib.hid (V1d.out.below B5.out)
  have V2e := Lib.hid (V2d.out.below B5.out)
  have R1e := Lib.hid (R1d.out.below (B5.out.mono (Nat.le_of_lt V1d.out.lt)))
  have O5 := Lib.hid (O4.out.below B5.out)
  have C5 := Lib.hid (C4.out.trans (B5.out.mono C4.out.size))
  clear d0 d1 V1d V2d R1d O4 C4 B5
  go_wp2_with fail
  refine (dragon_i _).mono ?_
  rintro e w6 ⟨g6, rfl, l6, t6, O6, B6⟩
  have hb6 : Below w6.heap.size w6 (w6.alloc (.cells #[.string ⟨#[70, 88]⟩, .slice (some ⟨g6, 0, none⟩) 2 2] 30)) := (Below.refl _ _).alloc (Nat.le_refl _) _
  have V6 := Lib.hid (varG_new w6 ⟨#[70, 88]⟩ (some ⟨g6, 0, none⟩) 2 2 30)
  have V1f := Lib.hid ((V1e.out.below B6.out).below hb6)
  have V2f := Lib.hid ((V2e.out.below B6.out).below hb6)
  have R1f := Lib.hid ((R1e.out.below (B6.out.mono (Nat.le_of_lt V1e.out.lt))).below (hb6.mono (Nat.le_trans (Nat.le_of_lt V1e.out.lt) B6.out.size)))
  have O5f := Lib.hid ((O5.out.below B6.out).below hb6)
  have O6f := Lib.hid (O6.out.below hb6)
  have C6 := Lib.hid (C5.out.trans ((B6.out.trans (hb6.mono B6.out.size)).mono C5.out.size))
  have hx : x1 < w6.heap.size := (V1e.out.below B6.out).lt
  have c0 := (V1e.out.below B6.out).c0
  have c1 := (V1e.out.below B6.out).c1
  clear hb6 V1e V2e R1e O5 O6 C5 B6 l6 t6
  go_wp2_with fail
  clear c0 c1 hx
  generalize w6.alloc (.cells #[.string ⟨#[70, 88]⟩, .slice (some ⟨g6, 0, none⟩) 2 2] 30) = a6 at *
  generalize w6.heap.size = x6 at *
  refine (eqGrammar_is ⟨#[70, 88]⟩ _ _ 2 _ _ dragonL a6 a6.heap.size (Nat.le_refl _) O6f.out.row (R1f.out.mono (Nat.le_of_lt V1f.out.lt)) hl.out (by decide)).mono ?_
  rintro e w7 ⟨rfl, B7⟩
  have V2g := Lib.hid (V2f.out.below B7.out)
  have O7 := Lib.hid (O5f.out.below B7.out)
  have C7 := Lib.hid (C6.out.trans (B7.out.mono C6.out.size))
  clear V1f V2f V6 R1f O5f O6f C6 B7
  have d0 := V2g.out.c0
  have d1 := V2g.out.c1
  go_wp2_with fail
  refine (heldGrammar_is ⟨#[70, 88]⟩ (some ⟨g2, 0, none⟩) 2 2 1 w7.heap.size w7 (Nat.le_refl _) O7.out.row (by decide) (by decide) (by decide)).mono ?_
  rintro e w8 ⟨rfl, B8⟩
  have C8 := Lib.hid (C7.out.trans (B8.out.mono C7.out.size))
  clear d0 d1 V2g O7 C7 B8
  go_wp2_with fail
  go_ret
  exact ⟨rfl, C8.out⟩

def bushL : List ByteArray := [⟨#[70]⟩, ⟨#[70, 91, 43, 70, 93, 70, 91, 45, 70, 93, 70]⟩]
theorem bush_s (w : World) : Calls Try.prog 30 #[] w (GivenG ⟨#[70]⟩ 1 bushL w) := by
  go_enter Try.func30, Try.ntmps30
  go_wp2_with fail
  exact bodyPost_ret (v := .agg #[.string ⟨#[70]⟩, .slice (some ⟨w.heap.size + 1, 0, none⟩) 1 1]) (by simp [results, Try.results30, go_sem]) rfl (givenG_two fun j hj => by
    have h : j = 0 ∨ j = 1 := by have : j < 2 := hj; omega
    rcases h with rfl | rfl <;> rfl)

theorem bush_i (w : World) : Calls Try.prog 31 #[] w (GivenG ⟨#[70]⟩ 1 bushL w) := by
  go_enter Try.func31, Try.ntmps31
  go_wp2_with fail
  exact bodyPost_ret (v := .agg #[.string ⟨#[70]⟩, .slice (some ⟨w.heap.size + 1, 0, none⟩) 1 1]) (by simp [results, Try.results31, go_sem]) rfl (givenG_two fun j hj => by
    have h : j = 0 ∨ j = 1 := by have : j < 2 := hj; omega
    rcases h with rfl | rfl <;> rfl)

set_option maxRecDepth 1000000 in
theorem lawBush (w : World) : Calls Try.prog 8 #[] w fun e w' => e = .returned (.bool true) ∧ Below w.heap.size w w' := by
  have hl : Hid (bushL.length = 2 * 1) := rfl
  go_enter Try.func8, Try.ntmps8
  go_wp2_with fail
  refine (bush_s _).mono ?_
  rintro e w1 ⟨g1, rfl, l1, s1, O1, B1⟩
  have hb1 : Below w1.heap.size w1 (w1.alloc (.cells #[.string ⟨#[70]⟩, .slice (some ⟨g1, 0, none⟩) 1 1] 30)) := (Below.refl _ _).alloc (Nat.le_refl _) _
  have V1 := Lib.hid (varG_new w1 ⟨#[70]⟩ (some ⟨g1, 0, none⟩) 1 1 30)
  have R1 := Lib.hid (O1.out.row.below hb1)
  have C1 := Lib.hid (B1.out.trans (hb1.mono B1.out.size))
  have L1 : Hid (w.heap.size ≤ w1.heap.size) := B1.out.size
  have s2 := hb1.size
  clear hb1 O1 B1 l1 s1
  go_wp2_with fail
  generalize w1.alloc (.cells #[.string ⟨#[70]⟩, .slice (some ⟨g1, 0, none⟩) 1 1] 30) = a1 at *
  generalize w1.heap.size = x1 at *
  refine (bush_i _).mono ?_
  rintro e w2 ⟨g2, rfl, l2, t2, O2, B2⟩
  have hb2 : Below w2.heap.size w2 (w2.alloc (.cells #[.string ⟨#[70]⟩, .slice (some ⟨g2, 0, none⟩) 1 1] 30)) := (Below.refl _ _).alloc (Nat.le_refl _) _
  have V2 := Lib.hid (varG_new w2 ⟨#[70]⟩ (some ⟨g2, 0, none⟩) 1 1 30)
  have V1b := Lib.hid ((V1.out.below B2.out).below hb2)
  have R1b := Lib.hid ((R1.out.below (B2.out.mono s2)).below (hb2.mono (Nat.le_trans s2 B2.out.size)))
  have O2b := Lib.hid (O2.out.below hb2)
  have C2 := Lib.hid (C1.out.trans ((B2.out.trans (hb2.mono B2.out.size)).mono C1.out.size))
  have hx : x1 < w2.heap.size := (V1.out.below B2.out).lt
  have c0 := (V1.out.below B2.out).c0
  have c1 := (V1.out.below B2.out).c1
  have N1 : Hid (x1 ≠ g2) := by have := V1.out.lt; show x1 ≠ g2; omega
  have N2 : Hid (w2.heap.size ≠ g2) := by show w2.heap.size ≠ g2; omega
  have N3 : Hid (x1 ≤ g2) := by show x1 ≤ g2; omega
  have N4 : Hid (g2 < w2.heap.size) := t2
  have s3 := hb2.size
  clear hb2 V1 R1 O2 C1 B2 l2 t2
  go_wp2_with fail
  clear c0 c1 hx
  generalize w2.alloc (.cells #[.string ⟨#[70]⟩, .slice (some ⟨g2, 0, none⟩) 1 1] 30) = a2 at *
  generalize w2.heap.size = x2 at *
  have N5 : Hid (x1 ≤ a2.heap.size) := Nat.le_of_lt V1b.out.lt
  refine (eqGrammar_is ⟨#[70]⟩ _ _ 1 _ _ bushL a2 a2.heap.size (Nat.le_refl _) O2b.out.row (R1b.out.mono N5.out) hl.out (by decide)).mono ?_
  rintro e w3 ⟨rfl, B3⟩
  have V1c := Lib.hid (V1b.out.below B3.out)
  have V2c := Lib.hid (V2.out.below B3.out)
  have R1c := Lib.hid (R1b.out.below (B3.out.mono N5.out))
  have O2c := Lib.hid (O2b.out.below B3.out)
  have C3 := Lib.hid (C2.out.trans (B3.out.mono C2.out.size))
  have N6 : Hid (g2 < w3.heap.size) := by have := N4.out; have := B3.out.size; show g2 < w3.heap.size; omega
  clear V1b V2 R1b O2b C2 B3 s2 s3 N5
  have c0 := V1c.out.c0
  have c1 := V1c.out.c1
  have d0 := V2c.out.c0
  have d1 := V2c.out.c1
  go_wp2_with fail
  refine (markGrammar_is ⟨#[70]⟩ g2 1 1 1 bushL w3 N6.out O2c.out hl.out (by decide) (by decide) (by decide)).mono ?_
  rintro e w4 ⟨rfl, O4, B4⟩
  have V1d := Lib.hid (V1c.out.butG B4.out N1.out)
  have V2d := Lib.hid (V2c.out.butG B4.out N2.out)
  have R1d := Lib.hid (R1c.out.butG B4.out N3.out)
  have C4 := Lib.hid (C3.out.trans (B4.out.toBelow.mono (Nat.le_trans L1.out N3.out)))
  clear c0 c1 d0 d1 V1c V2c R1c O2c C3 B4 N6
  have d0 := V2d.out.c0
  have d1 := V2d.out.c1
  go_wp2_with fail
  refine (heldGrammar_is ⟨#[70]⟩ (some ⟨g2, 0, none⟩) 1 1 1 w4.heap.size w4 (Nat.le_refl _) O4.out.row (by decide) (by decide) (by decide)).mono ?_
  rintro e w5 ⟨rfl, B5⟩
  have V1e := Lib.hid (V1d.out.below B5.out)
  have V2e := Lib.hid (V2d.out.below B5.out)
  have R1e := Lib.hid (R1d.out.below (B5.out.mono (Nat.le_of_lt V1d.out.lt)))
  have O5 := Lib.hid (O4.out.below B5.out)
  have C5 := Lib.hid (C4.out.trans (B5.out.mono C4.out.size))
  clear d0 d1 V1d V2d R1d O4 C4 B5
  go_wp2_with fail
  refine (bush_i _).mono ?_
  rintro e w6 ⟨g6, rfl, l6, t6, O6, B6⟩
  have hb6 : Below w6.heap.size w6 (w6.alloc (.cells #[.string ⟨#[70]⟩, .slice (some ⟨g6, 0, none⟩) 1 1] 30)) := (Below.refl _ _).alloc (Nat.le_refl _) _
  have V6 := Lib.hid (varG_new w6 ⟨#[70]⟩ (some ⟨g6, 0, none⟩) 1 1 30)
  have V1f := Lib.hid ((V1e.out.below B6.out).below hb6)
  have V2f := Lib.hid ((V2e.out.below B6.out).below hb6)
  have R1f := Lib.hid ((R1e.out.below (B6.out.mono (Nat.le_of_lt V1e.out.lt))).below (hb6.mono (Nat.le_trans (Nat.le_of_lt V1e.out.lt) B6.out.size)))
  have O5f := Lib.hid ((O5.out.below B6.out).below hb6)
  have O6f := Lib.hid (O6.out.below hb6)
  have C6 := Lib.hid (C5.out.trans ((B6.out.trans (hb6.mono B6.out.size)).mono C5.out.size))
  have hx : x1 < w6.heap.size := (V1e.out.below B6.out).lt
  have c0 := (V1e.out.below B6.out).c0
  have c1 := (V1e.out.below B6.out).c1
  clear hb6 V1e V2e R1e O5 O6 C5 B6 l6 t6
  go_wp2_with fail
  clear c0 c1 hx
  generalize w6.alloc (.cells #[.string ⟨#[70]⟩, .slice (some ⟨g6, 0, none⟩) 1 1] 30) = a6 at *
  generalize w6.heap.size = x6 at *
  refine (eqGrammar_is ⟨#[70]⟩ _ _ 1 _ _ bushL a6 a6.heap.size (Nat.le_refl _) O6f.out.row (R1f.out.mono (Nat.le_of_lt V1f.out.lt)) hl.out (by decide)).mono ?_
  rintro e w7 ⟨rfl, B7⟩
  have V2g := Lib.hid (V2f.out.below B7.out)
  have O7 := Lib.hid (O5f.out.below B7.out)
  have C7 := Lib.hid (C6.out.trans (B7.out.mono C6.out.size))
  clear V1f V2f V6 R1f O5f O6f C6 B7
  have d0 := V2g.out.c0
  have d1 := V2g.out.c1
  go_wp2_with fail
  refine (heldGrammar_is ⟨#[70]⟩ (some ⟨g2, 0, none⟩) 1 1 1 w7.heap.size w7 (Nat.le_refl _) O7.out.row (by decide) (by decide) (by decide)).mono ?_
  rintro e w8 ⟨rfl, B8⟩
  have C8 := Lib.hid (C7.out.trans (B8.out.mono C7.out.size))
  clear d0 d1 V2g O7 C7 B8
  go_wp2_with fail
  go_ret
  exact ⟨rfl, C8.out⟩

end Go.Proofs.Ytedmigemplojlaa
