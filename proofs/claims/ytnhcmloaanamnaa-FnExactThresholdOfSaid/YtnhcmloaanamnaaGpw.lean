/-
  What is proved here: rows of integers, and of slices of integers, that grow one by one and change no block but their own, as steps of a walk. Conditions: at most 1048576 of them.
-/
import Derived.Test.YtnhcmloaanamnaaGri
namespace Go.Proofs.Ytnhcmloaanamnaa
open Go.RowKit
set_option linter.unusedVariables false

/-- nothing but the block of a row, and new ones, has changed -/
structure ButA (A : Option Addr) (w w' : World) : Prop where
  os : w'.os = w.os
  tape : w'.tape = w.tape
  output : w'.output = w.output
  size : w.heap.size ≤ w'.heap.size
  block : ∀ k, k < w.heap.size → (∀ a, A = some a → a.block ≠ k) → w'.heap[k]? = w.heap[k]?
theorem ButA.of {A : Option Addr} {w w' : World} (h : Below w.heap.size w w') : ButA A w w' := ⟨h.os, h.tape, h.output, h.size, fun k hk _ => h.block k hk⟩
theorem ButA.setCell {w : World} {q : Addr} {A : Option Addr} (hq : ∀ a, A = some a → a.block = q.block) (hA : A ≠ none) (u : Value) : ButA A w (w.setCell q u) :=
  ⟨rfl, rfl, rfl, by simp [World.setCell], fun k hk hd => by
    obtain ⟨a, e⟩ := Option.ne_none_iff_exists'.1 hA
    have h1 := hd a e
    have h2 := hq a e
    exact Below.heap_setCell _ _ _ _ (by omega)⟩
theorem ButA.below {A : Option Addr} {G : Nat} {w0 w w' : World} (hb : Below G w0 w) (h : ButA A w w') (hG : G ≤ w.heap.size) (hA : ∀ a, A = some a → G ≤ a.block) : Below G w0 w' :=
  hb.trans ⟨h.os, h.tape, h.output, h.size, fun k hk => h.block k (by omega) fun a ha => by have := hA a ha; omega⟩
theorem RowV.butA {w w' : World} {B n : Nat} {A X : Option Addr} {V : Nat → Value} (r : RowV w B X n V) (hb : ButA A w w') (hB : B ≤ w.heap.size) (hd : ∀ a x, A = some a → X = some x → a.block ≠ x.block) : RowV w' B X n V := fun h0 => by
  obtain ⟨b, off, hA, h1, hc⟩ := r h0
  have e : w'.heap[b]? = w.heap[b]? := hb.block b (by omega) fun a ha => hd a _ ha hA
  exact ⟨b, off, hA, h1, fun j hj => by rw [World.cell?_of_block (w := w) e]; exact hc j hj⟩
theorem RowW.butA {w w' : World} {lo hi n : Nat} {A X : Option Addr} {V : Nat → Value} (r : RowW w lo hi X n V) (hb : ButA A w w') (hd : ∀ a x, A = some a → X = some x → a.block ≠ x.block) : RowW w' lo hi X n V :=
  ⟨Nat.le_trans r.le hb.size, r.inn, fun h0 => by
    obtain ⟨b, off, hA, h1, h2, hc, hf⟩ := r.row h0
    have e : w'.heap[b]? = w.heap[b]? := hb.block b (Nat.lt_of_lt_of_le h2 r.le) fun a ha => hd a _ ha hA
    exact ⟨b, off, hA, h1, h2, fun j hj => by rw [World.cell?_of_block (w := w) e]; exact hc j hj, fun j hj => by rw [World.frozen?_of_block (w := w) e]; exact hf j hj⟩⟩
theorem ownsRow_butA {w w' : World} {G size n : Nat} {t : TypeId} {A X : Option Addr} {c : Nat} {xs : List Value} (o : w.ownsRow G t size (.slice X n c) n xs) (hb : ButA A w w') (hd : ∀ a x, A = some a → X = some x → a.block ≠ x.block) : w'.ownsRow G t size (.slice X n c) n xs := by
  refine ⟨o.1, ?_⟩
  rcases o.2 with h1 | ⟨g1, cap, cur, h0, h2, h3, h4⟩
  · exact .inl h1
  · refine .inr ⟨g1, cap, cur, h0, h2, ?_, h4⟩
    have hlt : g1 < w.heap.size := by
      rcases Nat.lt_or_ge g1 w.heap.size with h | h
      · exact h
      · rw [Array.getElem?_eq_none h] at h3; cases h3
    injection h0 with e1 e2 e3
    rw [hb.block _ hlt fun a ha => hd a _ ha e1]; exact h3
theorem GroI.butA {w w' : World} {G c : Nat} {L : List Int} {A X : Option Addr} (o : GroI w G L X c) (hb : ButA A w w') (hd : ∀ a x, A = some a → X = some x → a.block ≠ x.block) : GroI w' G L X c := ownsRow_butA o hb hd

theorem wpGroY {ops : Array Oper} {rest : List Oper} {o : Oper} {a : Act} {Q : Exit → Act → World → Prop} (hgd : o.guard = none) (s x : Operand)
    (ho : o.op = .call { callee := .builtin .append, args := #[s, x], argTypes := #[23, 23] })
    {w w0 : World} {G c : Nat} {y : Int} {L : List Int} {A : Option Addr} (hO : GroI w0 G L A c) (hw : w = w0.alloc (.cells #[.int .i64 y] 2)) (hs : a.eval s = .slice A L.length c) (hx : a.eval x = .slice (some ⟨w0.heap.size, 0, none⟩) 1 1) (hL : L.length ≤ 1048576) (hG : G ≤ w0.heap.size)
    (h : ∀ g' c' w', GroI w' G (L ++ [y]) (some ⟨g', 0, none⟩) c' → ButA A w0 w' → ((∃ b, A = some b ∧ b.block = g') ∨ w0.heap.size ≤ g') → wpList Try.prog ops Q rest (a.put o.dst (.slice (some ⟨g', 0, none⟩) (L.length + 1) c')) w') :
    wpList Try.prog ops Q (o :: rest) a w := by
  subst hw
  obtain ⟨i0, hi, hz0, hz1, hz2⟩ := info_parts info_i64
  have hal : GroI (w0.alloc (.cells #[.int .i64 y] 2)) G L A c := World.ownsRow.alloc hO _
  refine wpList_append_lies _ hgd s x 23 ho G 2 i0 (.int .i64 0) 1 8 Try.underlying23 hi hz0 hz1 hz2 rfl (by decide) _ L.length (L.map (Value.int .i64)) hs hal ⟨w0.heap.size, 0, none⟩ 1 1 [.int .i64 y] hx rfl (World.ownsRow.cells (World.ownsRow_lit (base := G) (e := 2) (size := 1) w0 #[.int .i64 y] 1 hG (by decide) rfl) rfl) (by intro u hu; rw [List.mem_singleton.1 hu]; rfl) (by decide) (by unfold maxLen; omega) (by omega) (by simp; omega) _ rfl ?_
  intro g' cap w' h1 h2 h3 h4
  have hba : Below w0.heap.size w0 (w0.alloc (.cells #[.int .i64 y] 2)) := (Below.refl _ _).alloc (Nat.le_refl _) _
  refine h g' cap w' ?_ ⟨h2.os.trans hba.os, h2.tape.trans hba.tape, h2.output.trans hba.output, Nat.le_trans hba.size h2.size, fun k hk hd => ?_⟩ ?_
  · unfold GroI
    rw [List.length_append, List.map_append]
    exact h1
  · rw [h2.block k (Nat.lt_of_lt_of_le hk hba.size) (by
      intro e
      rcases hO.cases with ⟨rfl, _, _⟩ | ⟨g, rfl⟩
      · cases e
      · injection e with e
        exact hd _ rfl e.symm)]
    exact hba.block k hk
  · rcases h3 with h | h
    · rcases hO.cases with ⟨rfl, _, _⟩ | ⟨g, rfl⟩
      · cases h
      · injection h with h
        exact .inl ⟨_, rfl, h⟩
    · right
      have : (w0.alloc (.cells #[.int .i64 y] 2)).heap.size = w0.heap.size + 1 := by simp
      omega

/-- a slice of integers, as a cell -/
def sV (q : Option Addr × Nat × Nat) : Value := .slice q.1 q.2.1 q.2.2
theorem info_sG : (Try.prog.info? 23).map (fun i => (i.zero, i.size, i.bytes)) = some (some (.slice none 0 0), 1, 24) := by kernel_rfl
/-- a row of slices that the call owns, and that grows -/
def GroS (w : World) (G : Nat) (L : List (Option Addr × Nat × Nat)) (A : Option Addr) (c : Nat) : Prop := w.ownsRow G 23 1 (.slice A L.length c) L.length (L.map sV)
theorem GroS.cases {w : World} {G c : Nat} {L : List (Option Addr × Nat × Nat)} {A : Option Addr} (h : GroS w G L A c) : (A = none ∧ c = 0 ∧ L = []) ∨ ∃ g, A = some ⟨g, 0, none⟩ := by
  rcases h.2 with ⟨h1, _⟩ | ⟨g, cap, cur, h0, _⟩
  · injection h1 with e1 e2 e3
    exact .inl ⟨e1, e3, List.eq_nil_of_length_eq_zero e2⟩
  · injection h0 with e1 e2 e3
    exact .inr ⟨g, e1⟩
theorem GroS.nil (w : World) (G : Nat) : GroS w G [] none 0 := World.ownsRow_nil _ _ _ _
theorem GroS.butA {w w' : World} {G c : Nat} {L : List (Option Addr × Nat × Nat)} {A X : Option Addr} (o : GroS w G L X c) (hb : ButA A w w') (hd : ∀ a x, A = some a → X = some x → a.block ≠ x.block) : GroS w' G L X c := ownsRow_butA o hb hd
theorem GroS.below {w w' : World} {G c : Nat} {L : List (Option Addr × Nat × Nat)} {A : Option Addr} (o : GroS w G L A c) (hb : Below w.heap.size w w') : GroS w' G L A c := o.butA (A := none) (ButA.of hb) (fun a x h => nomatch h)
theorem GroS.lt {w : World} {G c : Nat} {L : List (Option Addr × Nat × Nat)} {A : Option Addr} (h : GroS w G L A c) : ∀ a, A = some a → G ≤ a.block ∧ a.block < w.heap.size := by
  rcases h.cases with ⟨rfl, _, _⟩ | ⟨g, rfl⟩
  · intro a ha; cases ha
  · intro a ha
    injection ha with ha
    subst ha
    exact World.ownsRow.lt h g rfl
theorem GroS.at {w : World} {G c j : Nat} {L : List (Option Addr × Nat × Nat)} {A : Option Addr} (h : GroS w G L A c) (hj : j < L.length) : ∃ g, A = some ⟨g, 0, none⟩ ∧ g < w.heap.size ∧ w.cell? ⟨g, j, none⟩ = some (sV (L.getD j (none, 0, 0))) := by
  rcases h.cases with ⟨_, _, rfl⟩ | ⟨g, rfl⟩
  · exact absurd hj (by simp)
  · refine ⟨g, rfl, (h.lt _ rfl).2, ?_⟩
    rw [World.ownsRow.cellAt h j (by omega), List.getElem?_map]
    simp [List.getD, hj]

theorem wpGroZ {ops : Array Oper} {rest : List Oper} {o : Oper} {a : Act} {Q : Exit → Act → World → Prop} (hgd : o.guard = none) (s x : Operand)
    (ho : o.op = .call { callee := .builtin .append, args := #[s, x], argTypes := #[113, 113] })
    {w w0 : World} {G c : Nat} {y : Option Addr × Nat × Nat} {L : List (Option Addr × Nat × Nat)} {A : Option Addr} (hO : GroS w0 G L A c) (hw : w = w0.alloc (.cells #[.slice y.1 y.2.1 y.2.2] 23)) (hs : a.eval s = .slice A L.length c) (hx : a.eval x = .slice (some ⟨w0.heap.size, 0, none⟩) 1 1) (hL : L.length ≤ 1048576) (hG : G ≤ w0.heap.size)
    (h : ∀ g' c' w', GroS w' G (L ++ [y]) (some ⟨g', 0, none⟩) c' → ButA A w0 w' → ((∃ b, A = some b ∧ b.block = g') ∨ w0.heap.size ≤ g') → wpList Try.prog ops Q rest (a.put o.dst (.slice (some ⟨g', 0, none⟩) (L.length + 1) c')) w') :
    wpList Try.prog ops Q (o :: rest) a w := by
  subst hw
  obtain ⟨i0, hi, hz0, hz1, hz2⟩ := info_parts info_sG
  have hal : GroS (w0.alloc (.cells #[.slice y.1 y.2.1 y.2.2] 23)) G L A c := World.ownsRow.alloc hO _
  refine wpList_append_lies _ hgd s x 113 ho G 23 i0 (.slice none 0 0) 1 24 Try.underlying113 hi hz0 hz1 hz2 rfl (by decide) _ L.length (L.map (sV)) hs hal ⟨w0.heap.size, 0, none⟩ 1 1 [.slice y.1 y.2.1 y.2.2] hx rfl (World.ownsRow.cells (World.ownsRow_lit (base := G) (e := 23) (size := 1) w0 #[.slice y.1 y.2.1 y.2.2] 1 hG (by decide) rfl) rfl) (by intro u hu; rw [List.mem_singleton.1 hu]; rfl) (by decide) (by unfold maxLen; omega) (by omega) (by simp; omega) _ rfl ?_
  intro g' cap w' h1 h2 h3 h4
  have hba : Below w0.heap.size w0 (w0.alloc (.cells #[.slice y.1 y.2.1 y.2.2] 23)) := (Below.refl _ _).alloc (Nat.le_refl _) _
  refine h g' cap w' ?_ ⟨h2.os.trans hba.os, h2.tape.trans hba.tape, h2.output.trans hba.output, Nat.le_trans hba.size h2.size, fun k hk hd => ?_⟩ ?_
  · unfold GroS
    rw [List.length_append, List.map_append]
    exact h1
  · rw [h2.block k (Nat.lt_of_lt_of_le hk hba.size) (by
      intro e
      rcases hO.cases with ⟨rfl, _, _⟩ | ⟨g, rfl⟩
      · cases e
      · injection e with e
        exact hd _ rfl e.symm)]
    exact hba.block k hk
  · rcases h3 with h | h
    · rcases hO.cases with ⟨rfl, _, _⟩ | ⟨g, rfl⟩
      · cases h
      · injection h with h
        exact .inl ⟨_, rfl, h⟩
    · right
      have : (w0.alloc (.cells #[.slice y.1 y.2.1 y.2.2] 23)).heap.size = w0.heap.size + 1 := by simp
      omega

end Go.Proofs.Ytnhcmloaanamnaa
