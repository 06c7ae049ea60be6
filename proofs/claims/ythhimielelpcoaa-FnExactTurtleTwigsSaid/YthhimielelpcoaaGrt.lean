/-
  What is proved here: rows of complex numbers and of turtles that grow one by one, while nothing but their own block changes; a turtle is taken off; a line behind a variable, and the program's closure that draws it, as steps of a walk. Conditions: at most 1048576 of them.
-/
import Derived.Test.YthhimielelpcoaaTrq
import Derived.Deep.AppendLies
import Derived.Deep.RegionLaw
namespace Go.Proofs.Ythhimielelpcoaa
open Flt Go.RowKit
set_option linter.unusedVariables false
set_option linter.unusedSimpArgs false

/-- nothing but a row's own block, and new ones, has changed -/
structure ButT (A : Option Addr) (w w' : World) : Prop where
  os : w'.os = w.os
  tape : w'.tape = w.tape
  output : w'.output = w.output
  size : w.heap.size ≤ w'.heap.size
  block : ∀ k, k < w.heap.size → (∀ a, A = some a → a.block ≠ k) → w'.heap[k]? = w.heap[k]?
theorem ButT.of {A : Option Addr} {w w' : World} (h : Below w.heap.size w w') : ButT A w w' := ⟨h.os, h.tape, h.output, h.size, fun k hk _ => h.block k hk⟩
theorem ButT.below {A : Option Addr} {G : Nat} {w0 w w' : World} (hb : Below G w0 w) (h : ButT A w w') (hG : G ≤ w.heap.size) (hA : ∀ a, A = some a → G ≤ a.block) : Below G w0 w' :=
  hb.trans ⟨h.os, h.tape, h.output, h.size, fun k hk => h.block k (by omega) fun a ha => by have := hA a ha; omega⟩
theorem ownsRow_butT {w w' : World} {G size n : Nat} {t : TypeId} {A X : Option Addr} {c : Nat} {xs : List Value} (o : w.ownsRow G t size (.slice X n c) n xs) (hb : ButT A w w') (hd : ∀ a x, A = some a → X = some x → a.block ≠ x.block) : w'.ownsRow G t size (.slice X n c) n xs := by
  refine ⟨o.1, ?_⟩
  rcases o.2 with h1 | ⟨g1, cap, cur, h0, h2, h3, h4⟩
  · exact .inl h1
  · refine .inr ⟨g1, cap, cur, h0, h2, ?_, h4⟩
    have hlt : g1 < w.heap.size := by
      rcases Nat.lt_or_ge g1 w.heap.size with h | h
      · exact h
      · rw [Array.getElem?_eq_none h] at h3; cases h3
    injection h0 with e1 e2 e3
    rw [hb.block _ hlt fun a ha => hd a _ ha e1]; exact h3
theorem GroC.butT {w w' : World} {G c : Nat} {L : List (Nat × Nat)} {A X : Option Addr} (o : GroC w G L X c) (hb : ButT A w w') (hd : ∀ a x, A = some a → X = some x → a.block ≠ x.block) : GroC w' G L X c := ownsRow_butT o hb hd
/-- a row's block is as it was -/
theorem GroC.heap {w w' : World} {G c : Nat} {L : List (Nat × Nat)} {X : Option Addr} (o : GroC w G L X c) (h : ∀ x, X = some x → w'.heap[x.block]? = w.heap[x.block]?) : GroC w' G L X c := by
  refine ⟨o.1, ?_⟩
  rcases o.2 with h1 | ⟨g1, cap, cur, h0, h2, h3, h4⟩
  · exact .inl h1
  · injection h0 with e1 e2 e3
    exact .inr ⟨g1, cap, cur, by rw [← e1, ← e3], h2, (h _ e1).trans h3, h4⟩

theorem wpGroD {ops : Array Oper} {rest : List Oper} {o : Oper} {a : Act} {Q : Exit → Act → World → Prop} (hgd : o.guard = none) (s x : Operand)
    (ho : o.op = .call { callee := .builtin .append, args := #[s, x], argTypes := #[50, 50] })
    {w w0 : World} {G c : Nat} {y : Nat × Nat} {L : List (Nat × Nat)} {A : Option Addr} (hO : GroC w0 G L A c) (hw : w = w0.alloc (.cells #[.complex .f32 y.1 y.2] 113)) (hs : a.eval s = .slice A L.length c) (hx : a.eval x = .slice (some ⟨w0.heap.size, 0, none⟩) 1 1) (hL : L.length ≤ 1048576) (hG : G ≤ w0.heap.size)
    (h : ∀ g' c' w', GroC w' G (L ++ [y]) (some ⟨g', 0, none⟩) c' → ButT A w0 w' → ((∃ b, A = some b ∧ b.block = g') ∨ w0.heap.size ≤ g') → wpList Try.prog ops Q rest (a.put o.dst (.slice (some ⟨g', 0, none⟩) (L.length + 1) c')) w') :
    wpList Try.prog ops Q (o :: rest) a w := by
  subst hw
  obtain ⟨i0, hi, hz0, hz1, hz2⟩ := info_parts info_cG
  have hba : Below w0.heap.size w0 (w0.alloc (.cells #[.complex .f32 y.1 y.2] 113)) := (Below.refl _ _).alloc (Nat.le_refl _) _
  have hal : GroC (w0.alloc (.cells #[.complex .f32 y.1 y.2] 113)) G L A c := hO.below hba
  refine wpList_append_lies _ hgd s x 50 ho G 113 i0 (.complex .f32 0 0) 1 8 Try.underlying50 hi hz0 hz1 hz2 rfl (by decide) _ L.length (L.map (fun p : Nat × Nat => Value.complex .f32 p.1 p.2)) hs hal ⟨w0.heap.size, 0, none⟩ 1 1 [.complex .f32 y.1 y.2] hx rfl (World.ownsRow.cells (World.ownsRow_lit (base := G) (e := 113) (size := 1) w0 #[.complex .f32 y.1 y.2] 1 hG (by decide) rfl) rfl) (by intro u hu; rw [List.mem_singleton.1 hu]; rfl) (by decide) (by unfold maxLen; omega) (by omega) (by simp; omega) _ rfl ?_
  intro g' cap w' h1 h2 h3 h4
  refine h g' cap w' ?_ ⟨h2.os.trans hba.os, h2.tape.trans hba.tape, h2.output.trans hba.output, Nat.le_trans hba.size h2.size, fun k hk hd => ?_⟩ ?_
  · unfold GroC
    rw [List.length_append, List.map_append]
    exact h1
  · rw [h2.block k (Nat.lt_of_lt_of_le hk hba.size) (by
      intro e
      rcases hO.cases with ⟨rfl, _, _⟩ | ⟨g, rfl⟩
      · cases e
      · injection e with e
        exact hd _ rfl e.symm)]
    exact hba.block k hk
  · rcases h3 with h | h
    · rcases hO.cases with ⟨rfl, _, _⟩ | ⟨g, rfl⟩
      · cases h
      · injection h with h
        exact .inl ⟨_, rfl, h⟩
    · right
      have : (w0.alloc (.cells #[.complex .f32 y.1 y.2] 113)).heap.size = w0.heap.size + 1 := by simp
      omega

/-! turtles -/
abbrev TU := Nat × Nat × Nat
def ttA (p : TU) : Array Value := #[.complex .f32 p.1 p.2.1, .float .f32 p.2.2]
def ttL (L : List TU) : List Value := L.flatMap fun p => (ttA p).toList
theorem ttL_len (L : List TU) : (ttL L).length = L.length * 2 := by
  induction L with
  | nil => rfl
  | cons p L ih =>
    show ((ttA p).toList ++ ttL L).length = _
    rw [List.length_append, ih, List.length_cons]
    show 2 + _ = _
    omega
theorem ttL_snoc (L : List TU) (p : TU) : ttL (L ++ [p]) = ttL L ++ (ttA p).toList := by
  unfold ttL
  rw [List.flatMap_append]
  simp
theorem info_tur : (Try.prog.info? 157).map (fun i => (i.zero, i.size, i.bytes)) = some (some (.agg #[.complex .f32 0 0, .float .f32 0]), 2, 12) := by kernel_rfl
/-- a row of turtles that the call owns -/
def GroT (w : World) (G : Nat) (L : List TU) (A : Option Addr) (c : Nat) : Prop := w.ownsRow G 157 2 (.slice A L.length c) L.length (ttL L)
theorem GroT.nil (w : World) (G : Nat) : GroT w G [] none 0 := World.ownsRow_nil _ _ _ _
theorem GroT.cases {w : World} {G c : Nat} {L : List TU} {A : Option Addr} (h : GroT w G L A c) : (A = none ∧ c = 0 ∧ L = []) ∨ ∃ g, A = some ⟨g, 0, none⟩ := by
  rcases h.2 with ⟨h1, _⟩ | ⟨g, cap, cur, h0, _⟩
  · injection h1 with e1 e2 e3
    exact .inl ⟨e1, e3, List.eq_nil_of_length_eq_zero e2⟩
  · injection h0 with e1 e2 e3
    exact .inr ⟨g, e1⟩
theorem GroT.lt {w : World} {G c : Nat} {L : List TU} {A : Option Addr} (h : GroT w G L A c) : ∀ a, A = some a → G ≤ a.block ∧ a.block < w.heap.size := by
  rcases h.cases with ⟨rfl, _, _⟩ | ⟨g, rfl⟩
  · intro a ha; cases ha
  · intro a ha
    injection ha with ha
    subst ha
    exact World.ownsRow.lt h g rfl
theorem GroT.butT {w w' : World} {G c : Nat} {L : List TU} {A X : Option Addr} (o : GroT w G L X c) (hb : ButT A w w') (hd : ∀ a x, A = some a → X = some x → a.block ≠ x.block) : GroT w' G L X c := ownsRow_butT o hb hd
theorem GroT.heap {w w' : World} {G c : Nat} {L : List TU} {X : Option Addr} (o : GroT w G L X c) (h : ∀ x, X = some x → w'.heap[x.block]? = w.heap[x.block]?) : GroT w' G L X c := by
  refine ⟨o.1, ?_⟩
  rcases o.2 with h1 | ⟨g1, cap, cur, h0, h2, h3, h4⟩
  · exact .inl h1
  · injection h0 with e1 e2 e3
    exact .inr ⟨g1, cap, cur, by rw [← e1, ← e3], h2, (h _ e1).trans h3, h4⟩
/-- the last turtle is taken off -/
theorem GroT.pop {w : World} {G c : Nat} {L : List TU} {p : TU} {A : Option Addr} (h : GroT w G (L ++ [p]) A c) : GroT w G L A c := by
  refine ⟨by rw [ttL_len], ?_⟩
  rcases h.2 with ⟨_, e⟩ | ⟨g, cap, cur, h0, h2, h3, h4, h5, h6, h7⟩
  · rw [List.length_append] at e; simp at e
  · injection h0 with e1 e2 e3
    refine .inr ⟨g, cap, cur, by rw [← e1, ← e3], h2, h3, by rw [List.length_append] at h4; omega, h5, h6, ?_⟩
    rw [ttL_snoc, List.length_append] at h7
    have h8 := congrArg (List.take (L.length * 2)) h7
    rw [List.take_take, List.take_append_of_le_length (by rw [ttL_len]; exact Nat.le_refl _), ← ttL_len L, List.take_length] at h8
    rw [← h8]
    congr 1
    rw [ttL_len]
    simp only [List.length_singleton]
    omega
/-- the two cells of the last turtle -/
theorem GroT.last {w : World} {G c : Nat} {L : List TU} {p : TU} {A : Option Addr} (h : GroT w G (L ++ [p]) A c) : ∃ g, A = some ⟨g, 0, none⟩ ∧ w.cell? ⟨g, L.length * 2, none⟩ = some (.complex .f32 p.1 p.2.1) ∧ w.cell? ⟨g, L.length * 2 + 1, none⟩ = some (.float .f32 p.2.2) := by
  rcases h.cases with ⟨_, _, e⟩ | ⟨g, rfl⟩
  · have := congrArg List.length e; rw [List.length_append] at this; simp at this
  · refine ⟨g, rfl, ?_, ?_⟩
    · rw [World.ownsRow.cellAt h _ (by rw [List.length_append]; simp only [List.length_singleton]; omega), ttL_snoc, List.getElem?_append_right (by rw [ttL_len]; exact Nat.le_refl _), ttL_len, Nat.sub_self]; rfl
    · rw [World.ownsRow.cellAt h _ (by rw [List.length_append]; simp only [List.length_singleton]; omega), ttL_snoc, List.getElem?_append_right (by rw [ttL_len]; omega), ttL_len, show L.length * 2 + 1 - L.length * 2 = 1 by omega]; rfl

theorem GroT.capT {w : World} {G c : Nat} {L : List TU} {A : Option Addr} (h : GroT w G L A c) : L.length ≤ c := by
  rcases h.2 with ⟨h1, h2⟩ | ⟨g, cap, cur, h0, _, _, h4, _⟩
  · omega
  · injection h0 with e1 e2 e3
    omega
theorem wpGroT {ops : Array Oper} {rest : List Oper} {o : Oper} {a : Act} {Q : Exit → Act → World → Prop} (hgd : o.guard = none) (s x : Operand)
    (ho : o.op = .call { callee := .builtin .append, args := #[s, x], argTypes := #[158, 158] })
    {w w0 : World} {G c : Nat} {p : TU} {L : List TU} {A : Option Addr} (hO : GroT w0 G L A c) (hw : w = w0.alloc (.cells #[.complex .f32 p.1 p.2.1, .float .f32 p.2.2] 157)) (hs : a.eval s = .slice A L.length c) (hx : a.eval x = .slice (some ⟨w0.heap.size, 0, none⟩) 1 1) (hL : L.length ≤ 1048576) (hG : G ≤ w0.heap.size)
    (h : ∀ g' c' w', GroT w' G (L ++ [p]) (some ⟨g', 0, none⟩) c' → ButT A w0 w' → ((∃ b, A = some b ∧ b.block = g') ∨ w0.heap.size ≤ g') → wpList Try.prog ops Q rest (a.put o.dst (.slice (some ⟨g', 0, none⟩) (L.length + 1) c')) w') :
    wpList Try.prog ops Q (o :: rest) a w := by
  subst hw
  obtain ⟨i0, hi, hz0, hz1, hz2⟩ := info_parts info_tur
  have hba : Below w0.heap.size w0 (w0.alloc (.cells #[.complex .f32 p.1 p.2.1, .float .f32 p.2.2] 157)) := (Below.refl _ _).alloc (Nat.le_refl _) _
  have hal : GroT (w0.alloc (.cells #[.complex .f32 p.1 p.2.1, .float .f32 p.2.2] 157)) G L A c := hO.heap fun x hx => hba.block _ (hO.lt x hx).2
  refine wpList_append_lies _ hgd s x 158 ho G 157 i0 (.agg #[.complex .f32 0 0, .float .f32 0]) 2 12 Try.underlying158 hi hz0 hz1 hz2 rfl (by decide) _ L.length (ttL L) hs hal ⟨w0.heap.size, 0, none⟩ 1 1 [.complex .f32 p.1 p.2.1, .float .f32 p.2.2] hx rfl (World.ownsRow.cells (World.ownsRow_lit (base := G) (e := 157) (size := 2) w0 #[.complex .f32 p.1 p.2.1, .float .f32 p.2.2] 1 hG (by decide) rfl) rfl) (by intro u hu; simp at hu; rcases hu with rfl | rfl <;> rfl) (by decide) (by unfold maxLen; omega) (by omega) (by simp; omega) _ rfl ?_
  intro g' cap w' h1 h2 h3 h4
  refine h g' cap w' ?_ ⟨h2.os.trans hba.os, h2.tape.trans hba.tape, h2.output.trans hba.output, Nat.le_trans hba.size h2.size, fun k hk hd => ?_⟩ ?_
  · unfold GroT
    rw [List.length_append, ttL_snoc]
    exact h1
  · rw [h2.block k (Nat.lt_of_lt_of_le hk hba.size) (by
      intro e
      rcases hO.cases with ⟨rfl, _, _⟩ | ⟨g, rfl⟩
      · cases e
      · injection e with e
        exact hd _ rfl e.symm)]
    exact hba.block k hk
  · rcases h3 with h | h
    · rcases hO.cases with ⟨rfl, _, _⟩ | ⟨g, rfl⟩
      · cases h
      · injection h with h
        exact .inl ⟨_, rfl, h⟩
    · right
      have : (w0.alloc (.cells #[.complex .f32 p.1 p.2.1, .float .f32 p.2.2] 157)).heap.size = w0.heap.size + 1 := by simp
      omega
end Go.Proofs.Ythhimielelpcoaa
