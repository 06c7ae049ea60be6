/-
  What is proved here: four rows that grow beside one another: of complex numbers, and one of 32-bit numbers, each of which may lose its last. Conditions: at most 1048576 of them.
-/
import Derived.Test.YthhimielelpcoaaGrt
import Derived.Test.YthhimielelpcoaaTwp
namespace Go.Proofs.Ythhimielelpcoaa
open Flt Go.RowKit
set_option linter.unusedVariables false
set_option linter.unusedSimpArgs false

theorem info_fE : (Try.prog.info? 43).map (fun i => (i.zero, i.size, i.bytes)) = some (some (.float .f32 0), 1, 4) := by kernel_rfl
/-- a row of 32-bit numbers that the call owns -/
def GroE (w : World) (G : Nat) (L : List Nat) (A : Option Addr) (c : Nat) : Prop := w.ownsRow G 43 1 (.slice A L.length c) L.length (L.map (Value.float .f32))
theorem GroE.cases {w : World} {G c : Nat} {L : List Nat} {A : Option Addr} (h : GroE w G L A c) : (A = none ∧ c = 0 ∧ L = []) ∨ ∃ g, A = some ⟨g, 0, none⟩ := by
  rcases h.2 with ⟨h1, _⟩ | ⟨g, cap, cur, h0, _⟩
  · injection h1 with e1 e2 e3
    exact .inl ⟨e1, e3, List.eq_nil_of_length_eq_zero e2⟩
  · injection h0 with e1 e2 e3
    exact .inr ⟨g, e1⟩
theorem GroE.lit (w : World) {G : Nat} (h : G ≤ w.heap.size) : GroE (w.alloc (.cells #[] 43)) G [] (some ⟨w.heap.size, 0, none⟩) 0 := World.ownsRow_lit w #[] 0 h (by decide) rfl
theorem GroE.lt {w : World} {G c : Nat} {L : List Nat} {A : Option Addr} (h : GroE w G L A c) : ∀ a, A = some a → G ≤ a.block ∧ a.block < w.heap.size := by
  rcases h.cases with ⟨rfl, _, _⟩ | ⟨g, rfl⟩
  · intro a ha; cases ha
  · intro a ha
    injection ha with ha
    subst ha
    exact World.ownsRow.lt h g rfl
theorem GroE.heap {w w' : World} {G c : Nat} {L : List Nat} {X : Option Addr} (o : GroE w G L X c) (h : ∀ x, X = some x → w'.heap[x.block]? = w.heap[x.block]?) : GroE w' G L X c := by
  refine ⟨o.1, ?_⟩
  rcases o.2 with h1 | ⟨g1, cap, cur, h0, h2, h3, h4⟩
  · exact .inl h1
  · injection h0 with e1 e2 e3
    exact .inr ⟨g1, cap, cur, by rw [← e1, ← e3], h2, (h _ e1).trans h3, h4⟩
theorem own_pop {w : World} {G c : Nat} {t : TypeId} {A : Option Addr} {xs : List Value} {x : Value} (h : w.ownsRow G t 1 (.slice A (xs.length + 1) c) (xs.length + 1) (xs ++ [x])) : w.ownsRow G t 1 (.slice A xs.length c) xs.length xs := by
  refine ⟨by omega, ?_⟩
  rcases h.2 with ⟨_, e⟩ | ⟨g, cap, cur, h0, h2, h3, h4, h5, h6, h7⟩
  · omega
  · injection h0 with e1 e2 e3
    refine .inr ⟨g, cap, cur, by rw [← e1, ← e3], h2, h3, by omega, h5, h6, ?_⟩
    have h8 := congrArg (List.take xs.length) h7
    rw [List.take_take, List.take_left' rfl, Nat.min_eq_left (by omega)] at h8
    rw [Nat.mul_one]; exact h8
theorem own_cap {w : World} {G n c : Nat} {t : TypeId} {A : Option Addr} {xs : List Value} (h : w.ownsRow G t 1 (.slice A n c) n xs) : n ≤ c := by
  rcases h.2 with ⟨h1, h2⟩ | ⟨g, cap, cur, h0, _, _, h4, _⟩
  · omega
  · injection h0 with e1 e2 e3
    omega
theorem GroE.pop {w : World} {G c u : Nat} {L : List Nat} {A : Option Addr} (h : GroE w G (L ++ [u]) A c) : GroE w G L A c := by
  have h1 : w.ownsRow G 43 1 (.slice A (L ++ [u]).length c) (L ++ [u]).length ((L ++ [u]).map (Value.float .f32)) := h
  rw [List.length_append, List.map_append] at h1
  have := own_pop (xs := L.map (Value.float .f32)) (x := .float .f32 u) (by rw [List.length_map]; exact h1)
  rwa [List.length_map] at this
theorem GroC.pop {w : World} {G c : Nat} {L : List (Nat × Nat)} {u : Nat × Nat} {A : Option Addr} (h : GroC w G (L ++ [u]) A c) : GroC w G L A c := by
  have h1 : w.ownsRow G 113 1 (.slice A (L ++ [u]).length c) (L ++ [u]).length ((L ++ [u]).map (fun p : Nat × Nat => Value.complex .f32 p.1 p.2)) := h
  rw [List.length_append, List.map_append] at h1
  have := own_pop (xs := L.map (fun p : Nat × Nat => Value.complex .f32 p.1 p.2)) (x := .complex .f32 u.1 u.2) (by rw [List.length_map]; exact h1)
  rwa [List.length_map] at this
theorem GroE.last {w : World} {G c u g : Nat} {L : List Nat} (h : GroE w G (L ++ [u]) (some ⟨g, 0, none⟩) c) : w.cell? ⟨g, L.length, none⟩ = some (.float .f32 u) := by
  rw [World.ownsRow.cellAt h _ (by rw [List.length_append]; simp only [List.length_singleton]; omega), List.map_append, List.getElem?_append_right (by rw [List.length_map]; exact Nat.le_refl _), List.length_map, Nat.sub_self]; rfl
theorem GroC.last {w : World} {G c g : Nat} {L : List (Nat × Nat)} {u : Nat × Nat} (h : GroC w G (L ++ [u]) (some ⟨g, 0, none⟩) c) : w.cell? ⟨g, L.length, none⟩ = some (.complex .f32 u.1 u.2) := by
  rw [World.ownsRow.cellAt h _ (by rw [List.length_append]; simp only [List.length_singleton]; omega), List.map_append, List.getElem?_append_right (by rw [List.length_map]; exact Nat.le_refl _), List.length_map, Nat.sub_self]; rfl

theorem wpGroE {ops : Array Oper} {rest : List Oper} {o : Oper} {a : Act} {Q : Exit → Act → World → Prop} (hgd : o.guard = none) (s x : Operand)
    (ho : o.op = .call { callee := .builtin .append, args := #[s, x], argTypes := #[33, 33] })
    {w w0 : World} {G c y : Nat} {L : List Nat} {A : Option Addr} (hO : GroE w0 G L A c) (hw : w = w0.alloc (.cells #[.float .f32 y] 43)) (hs : a.eval s = .slice A L.length c) (hx : a.eval x = .slice (some ⟨w0.heap.size, 0, none⟩) 1 1) (hL : L.length ≤ 1048576) (hG : G ≤ w0.heap.size)
    (h : ∀ g' c' w', GroE w' G (L ++ [y]) (some ⟨g', 0, none⟩) c' → ButT A w0 w' → ((∃ b, A = some b ∧ b.block = g') ∨ w0.heap.size ≤ g') → wpList Try.prog ops Q rest (a.put o.dst (.slice (some ⟨g', 0, none⟩) (L.length + 1) c')) w') :
    wpList Try.prog ops Q (o :: rest) a w := by
  subst hw
  obtain ⟨i0, hi, hz0, hz1, hz2⟩ := info_parts info_fE
  have hba : Below w0.heap.size w0 (w0.alloc (.cells #[.float .f32 y] 43)) := (Below.refl _ _).alloc (Nat.le_refl _) _
  have hal : GroE (w0.alloc (.cells #[.float .f32 y] 43)) G L A c := hO.heap fun x hx => hba.block _ (hO.lt x hx).2
  refine wpList_append_lies _ hgd s x 33 ho G 43 i0 (.float .f32 0) 1 4 Try.underlying33 hi hz0 hz1 hz2 rfl (by decide) _ L.length (L.map (Value.float .f32)) hs hal ⟨w0.heap.size, 0, none⟩ 1 1 [.float .f32 y] hx rfl (World.ownsRow.cells (World.ownsRow_lit (base := G) (e := 43) (size := 1) w0 #[.float .f32 y] 1 hG (by decide) rfl) rfl) (by intro u hu; rw [List.mem_singleton.1 hu]; rfl) (by decide) (by unfold maxLen; omega) (by omega) (by simp; omega) _ rfl ?_
  intro g' cap w' h1 h2 h3 h4
  refine h g' cap w' ?_ ⟨h2.os.trans hba.os, h2.tape.trans hba.tape, h2.output.trans hba.output, Nat.le_trans hba.size h2.size, fun k hk hd => ?_⟩ ?_
  · unfold GroE
    rw [List.length_append, List.map_append]
    exact h1
  · rw [h2.block k (Nat.lt_of_lt_of_le hk hba.size) (by
      intro e
      rcases hO.cases with ⟨rfl, _, _⟩ | ⟨g, rfl⟩
      · cases e
      · injection e with e
        exact hd _ rfl e.symm)]
    exact hba.block k hk
  · rcases h3 with h | h
    · rcases hO.cases with ⟨rfl, _, _⟩ | ⟨g, rfl⟩
      · cases h
      · injection h with h
        exact .inl ⟨_, rfl, h⟩
    · right
      have : (w0.alloc (.cells #[.float .f32 y] 43)).heap.size = w0.heap.size + 1 := by simp
      omega

/-- four rows beside one another -/
structure R4 (G : Nat) (w0 wr : World) (g1 c1 g2 c2 g3 c3 g4 c4 : Nat) (L1 L2 L3 : List (Nat × Nat)) (L4 : List Nat) : Prop where
  o1 : GroC wr G L1 (some ⟨g1, 0, none⟩) c1
  o2 : GroC wr G L2 (some ⟨g2, 0, none⟩) c2
  o3 : GroC wr G L3 (some ⟨g3, 0, none⟩) c3
  o4 : GroE wr G L4 (some ⟨g4, 0, none⟩) c4
  d : g1 ≠ g2 ∧ g1 ≠ g3 ∧ g1 ≠ g4 ∧ g2 ≠ g3 ∧ g2 ≠ g4 ∧ g3 ≠ g4
  bel : Below G w0 wr
theorem R4.lts {G : Nat} {w0 wr : World} {g1 c1 g2 c2 g3 c3 g4 c4 : Nat} {L1 L2 L3 : List (Nat × Nat)} {L4 : List Nat} (h : R4 G w0 wr g1 c1 g2 c2 g3 c3 g4 c4 L1 L2 L3 L4) : (G ≤ g1 ∧ G ≤ g2 ∧ G ≤ g3 ∧ G ≤ g4) ∧ g1 < wr.heap.size ∧ g2 < wr.heap.size ∧ g3 < wr.heap.size ∧ g4 < wr.heap.size :=
  ⟨⟨(h.o1.lt _ rfl).1, (h.o2.lt _ rfl).1, (h.o3.lt _ rfl).1, (h.o4.lt _ rfl).1⟩, (h.o1.lt _ rfl).2, (h.o2.lt _ rfl).2, (h.o3.lt _ rfl).2, (h.o4.lt _ rfl).2⟩
theorem R4.below {G : Nat} {w0 wr w2 : World} {g1 c1 g2 c2 g3 c3 g4 c4 : Nat} {L1 L2 L3 : List (Nat × Nat)} {L4 : List Nat} (h : R4 G w0 wr g1 c1 g2 c2 g3 c3 g4 c4 L1 L2 L3 L4) (hb : Below wr.heap.size wr w2) : R4 G w0 w2 g1 c1 g2 c2 g3 c3 g4 c4 L1 L2 L3 L4 := by
  obtain ⟨⟨a1, a2, a3, a4⟩, b1, b2, b3, b4⟩ := h.lts
  exact ⟨h.o1.below hb, h.o2.below hb, h.o3.below hb, h.o4.heap (fun x hx => hb.block _ (h.o4.lt x hx).2), h.d, h.bel.trans (hb.mono (by omega))⟩
theorem butT_eq {g k : Nat} {w w' : World} (h : ButT (some ⟨g, 0, none⟩) w w') (hk : k < w.heap.size) (hn : g ≠ k) : w'.heap[k]? = w.heap[k]? := h.block k hk fun a ha => by injection ha with ha; subst ha; exact hn
theorem pos_is {g g' : Nat} {w : World} (h : (∃ b : Addr, some (⟨g, 0, none⟩ : Addr) = some b ∧ b.block = g') ∨ w.heap.size ≤ g') : g' = g ∨ w.heap.size ≤ g' := by
  rcases h with ⟨b, e, h⟩ | h
  · injection e with e
    subst e
    exact .inl h.symm
  · exact .inr h
theorem R4.up1 {G : Nat} {w0 wr w2 : World} {g1 c1 g2 c2 g3 c3 g4 c4 g c : Nat} {L1 L2 L3 L : List (Nat × Nat)} {L4 : List Nat} (h : R4 G w0 wr g1 c1 g2 c2 g3 c3 g4 c4 L1 L2 L3 L4) (o : GroC w2 G L (some ⟨g, 0, none⟩) c) (b : ButT (some ⟨g1, 0, none⟩) wr w2) (p : g = g1 ∨ wr.heap.size ≤ g) : R4 G w0 w2 g c g2 c2 g3 c3 g4 c4 L L2 L3 L4 := by
  obtain ⟨⟨a1, a2, a3, a4⟩, b1, b2, b3, b4⟩ := h.lts
  obtain ⟨d1, d2, d3, d4, d5, d6⟩ := h.d
  exact ⟨o, h.o2.heap (fun x hx => by injection hx with hx; subst hx; exact butT_eq b b2 d1), h.o3.heap (fun x hx => by injection hx with hx; subst hx; exact butT_eq b b3 d2), h.o4.heap (fun x hx => by injection hx with hx; subst hx; exact butT_eq b b4 d3), by omega, ButT.below h.bel b (by omega) (fun a ha => by injection ha with ha; subst ha; exact a1)⟩
theorem R4.up2 {G : Nat} {w0 wr w2 : World} {g1 c1 g2 c2 g3 c3 g4 c4 g c : Nat} {L1 L2 L3 L : List (Nat × Nat)} {L4 : List Nat} (h : R4 G w0 wr g1 c1 g2 c2 g3 c3 g4 c4 L1 L2 L3 L4) (o : GroC w2 G L (some ⟨g, 0, none⟩) c) (b : ButT (some ⟨g2, 0, none⟩) wr w2) (p : g = g2 ∨ wr.heap.size ≤ g) : R4 G w0 w2 g1 c1 g c g3 c3 g4 c4 L1 L L3 L4 := by
  obtain ⟨⟨a1, a2, a3, a4⟩, b1, b2, b3, b4⟩ := h.lts
  obtain ⟨d1, d2, d3, d4, d5, d6⟩ := h.d
  exact ⟨h.o1.heap (fun x hx => by injection hx with hx; subst hx; exact butT_eq b b1 d1.symm), o, h.o3.heap (fun x hx => by injection hx with hx; subst hx; exact butT_eq b b3 d4), h.o4.heap (fun x hx => by injection hx with hx; subst hx; exact butT_eq b b4 d5), by omega, ButT.below h.bel b (by omega) (fun a ha => by injection ha with ha; subst ha; exact a2)⟩
theorem R4.up3 {G : Nat} {w0 wr w2 : World} {g1 c1 g2 c2 g3 c3 g4 c4 g c : Nat} {L1 L2 L3 L : List (Nat × Nat)} {L4 : List Nat} (h : R4 G w0 wr g1 c1 g2 c2 g3 c3 g4 c4 L1 L2 L3 L4) (o : GroC w2 G L (some ⟨g, 0, none⟩) c) (b : ButT (some ⟨g3, 0, none⟩) wr w2) (p : g = g3 ∨ wr.heap.size ≤ g) : R4 G w0 w2 g1 c1 g2 c2 g c g4 c4 L1 L2 L L4 := by
  obtain ⟨⟨a1, a2, a3, a4⟩, b1, b2, b3, b4⟩ := h.lts
  obtain ⟨d1, d2, d3, d4, d5, d6⟩ := h.d
  exact ⟨h.o1.heap (fun x hx => by injection hx with hx; subst hx; exact butT_eq b b1 d2.symm), h.o2.heap (fun x hx => by injection hx with hx; subst hx; exact butT_eq b b2 d4.symm), o, h.o4.heap (fun x hx => by injection hx with hx; subst hx; exact butT_eq b b4 d6), by omega, ButT.below h.bel b (by omega) (fun a ha => by injection ha with ha; subst ha; exact a3)⟩
theorem R4.up4 {G : Nat} {w0 wr w2 : World} {g1 c1 g2 c2 g3 c3 g4 c4 g c : Nat} {L1 L2 L3 : List (Nat × Nat)} {L4 L : List Nat} (h : R4 G w0 wr g1 c1 g2 c2 g3 c3 g4 c4 L1 L2 L3 L4) (o : GroE w2 G L (some ⟨g, 0, none⟩) c) (b : ButT (some ⟨g4, 0, none⟩) wr w2) (p : g = g4 ∨ wr.heap.size ≤ g) : R4 G w0 w2 g1 c1 g2 c2 g3 c3 g c L1 L2 L3 L := by
  obtain ⟨⟨a1, a2, a3, a4⟩, b1, b2, b3, b4⟩ := h.lts
  obtain ⟨d1, d2, d3, d4, d5, d6⟩ := h.d
  exact ⟨h.o1.heap (fun x hx => by injection hx with hx; subst hx; exact butT_eq b b1 d3.symm), h.o2.heap (fun x hx => by injection hx with hx; subst hx; exact butT_eq b b2 d5.symm), h.o3.heap (fun x hx => by injection hx with hx; subst hx; exact butT_eq b b3 d6.symm), o, by omega, ButT.below h.bel b (by omega) (fun a ha => by injection ha with ha; subst ha; exact a4)⟩
theorem R4.pop {G : Nat} {w0 wr : World} {g1 c1 g2 c2 g3 c3 g4 c4 u : Nat} {L1 L2 L3 : List (Nat × Nat)} {q : Nat × Nat} {L4 : List Nat} (h : R4 G w0 wr g1 c1 g2 c2 g3 c3 g4 c4 L1 L2 (L3 ++ [q]) (L4 ++ [u])) : R4 G w0 wr g1 c1 g2 c2 g3 c3 g4 c4 L1 L2 L3 L4 := ⟨h.o1, h.o2, h.o3.pop, h.o4.pop, h.d, h.bel⟩
end Go.Proofs.Ythhimielelpcoaa
