/-
  What is proved here: a row of 32-bit numbers that grows one by one, from nothing, as steps of a walk. Conditions: at most 1048576 of them.
-/
import Derived.Test.YtgiblioilpedfaaSum
import Derived.Test.YtgiblioilpedfaaGpw
import Derived.OwnWalk
import Derived.Deep.AppendLies
import Derived.Deep.RegionLaw
namespace Go.Proofs.Ytgiblioilpedfaa
open Flt Go.RowKit
set_option linter.unusedVariables false

theorem info_fG : (Try.prog.info? 25).map (fun i => (i.zero, i.size, i.bytes)) = some (some (.float .f32 0), 1, 4) := by kernel_rfl
/-- a row that the call owns, and that grows -/
def GroF (w : World) (G : Nat) (L : List Nat) (A : Option Addr) (c : Nat) : Prop := w.ownsRow G 25 1 (.slice A L.length c) L.length (L.map (Value.float .f32))
theorem GroF.cases {w : World} {G c : Nat} {L : List Nat} {A : Option Addr} (h : GroF w G L A c) : (A = none ∧ c = 0 ∧ L = []) ∨ ∃ g, A = some ⟨g, 0, none⟩ := by
  rcases h.2 with ⟨h1, _⟩ | ⟨g, cap, cur, h0, _⟩
  · injection h1 with e1 e2 e3
    exact .inl ⟨e1, e3, List.eq_nil_of_length_eq_zero e2⟩
  · injection h0 with e1 e2 e3
    exact .inr ⟨g, e1⟩
theorem GroF.nil (w : World) (G : Nat) : GroF w G [] none 0 := World.ownsRow_nil _ _ _ _
theorem GroF.lit (w : World) {G : Nat} (h : G ≤ w.heap.size) : GroF (w.alloc (.cells #[] 25)) G [] (some ⟨w.heap.size, 0, none⟩) 0 := World.ownsRow_lit w #[] 0 h (by decide) rfl
theorem GroF.lit1 (w : World) {G : Nat} (h : G ≤ w.heap.size) (y : Nat) : GroF (w.alloc (.cells #[.float .f32 y] 25)) G [y] (some ⟨w.heap.size, 0, none⟩) 1 := World.ownsRow_lit w #[.float .f32 y] 1 h (by decide) rfl
theorem GroF.dn {w : World} {G c n : Nat} {L : List Nat} {A : Option Addr} (h : GroF w G L A c) : GroF (w.drewN n) G L A c := h
theorem GroF.dr {w : World} {G c : Nat} {L : List Nat} {A : Option Addr} (h : GroF w G L A c) : GroF w.drew G L A c := h
theorem GroF.but {w w' : World} {G c l h : Nat} {L : List Nat} {A : Option Addr} (o : GroF w G L A c) (hb : ButIn l h w w') (hd : ∀ a, A = some a → a.block < l ∨ h ≤ a.block) : GroF w' G L A c := by
  refine ⟨o.1, ?_⟩
  rcases o.2 with h1 | ⟨g1, cap, cur, h0, h2, h3, h4⟩
  · exact .inl h1
  · refine .inr ⟨g1, cap, cur, h0, h2, ?_, h4⟩
    have hlt : g1 < w.heap.size := by
      rcases Nat.lt_or_ge g1 w.heap.size with h | h
      · exact h
      · rw [Array.getElem?_eq_none h] at h3; cases h3
    injection h0 with e1 e2 e3
    rw [hb.block _ hlt (hd _ e1)]; exact h3
theorem GroF.below {w w' : World} {G c : Nat} {L : List Nat} {A : Option Addr} (o : GroF w G L A c) (hb : Below w.heap.size w w') : GroF w' G L A c := o.but (ButIn.of hb) fun a _ => .inr (Nat.zero_le _)
theorem GroF.lt {w : World} {G c : Nat} {L : List Nat} {A : Option Addr} (h : GroF w G L A c) : ∀ a, A = some a → G ≤ a.block ∧ a.block < w.heap.size := by
  rcases h.cases with ⟨rfl, _, _⟩ | ⟨g, rfl⟩
  · intro a ha; cases ha
  · intro a ha
    injection ha with ha
    subst ha
    exact World.ownsRow.lt h g rfl

theorem GroF.butA {w w' : World} {G c : Nat} {L : List Nat} {A X : Option Addr} (o : GroF w G L X c) (hb : ButA A w w') (hd : ∀ a x, A = some a → X = some x → a.block ≠ x.block) : GroF w' G L X c := ownsRow_butA o hb hd
theorem GroF.row {w : World} {G c : Nat} {L : List Nat} {A : Option Addr} (h : GroF w G L A c) : RowF w w.heap.size A L := fun h0 => by
  rcases h.cases with ⟨_, _, rfl⟩ | ⟨g, rfl⟩
  · simp at h0
  · refine ⟨g, 0, rfl, (h.lt _ rfl).2, fun j hj => ?_⟩
    rw [Nat.zero_add, World.ownsRow.cellAt h j (by omega), List.getElem?_map]
    simp [at0, List.getD, hj]

theorem wpGroX {ops : Array Oper} {rest : List Oper} {o : Oper} {a : Act} {Q : Exit → Act → World → Prop} (hgd : o.guard = none) (s x : Operand)
    (ho : o.op = .call { callee := .builtin .append, args := #[s, x], argTypes := #[22, 22] })
    {w w0 : World} {G c : Nat} {y : Nat} {L : List Nat} {A : Option Addr} (hO : GroF w0 G L A c) (hw : w = w0.alloc (.cells #[.float .f32 y] 25)) (hs : a.eval s = .slice A L.length c) (hx : a.eval x = .slice (some ⟨w0.heap.size, 0, none⟩) 1 1) (hL : L.length ≤ 1048576) (hG : G ≤ w0.heap.size)
    (h : ∀ g' c' w', GroF w' G (L ++ [y]) (some ⟨g', 0, none⟩) c' → ButA A w0 w' → ((∃ b, A = some b ∧ b.block = g') ∨ w0.heap.size ≤ g') → wpList Try.prog ops Q rest (a.put o.dst (.slice (some ⟨g', 0, none⟩) (L.length + 1) c')) w') :
    wpList Try.prog ops Q (o :: rest) a w := by
  subst hw
  obtain ⟨i0, hi, hz0, hz1, hz2⟩ := info_parts info_fG
  have hal : GroF (w0.alloc (.cells #[.float .f32 y] 25)) G L A c := World.ownsRow.alloc hO _
  refine wpList_append_lies _ hgd s x 22 ho G 25 i0 (.float .f32 0) 1 4 Try.underlying22 hi hz0 hz1 hz2 rfl (by decide) _ L.length (L.map (Value.float .f32)) hs hal ⟨w0.heap.size, 0, none⟩ 1 1 [.float .f32 y] hx rfl (World.ownsRow.cells (World.ownsRow_lit (base := G) (e := 25) (size := 1) w0 #[.float .f32 y] 1 hG (by decide) rfl) rfl) (by intro u hu; rw [List.mem_singleton.1 hu]; rfl) (by decide) (by unfold maxLen; omega) (by omega) (by simp; omega) _ rfl ?_
  intro g' cap w' h1 h2 h3 h4
  have hba : Below w0.heap.size w0 (w0.alloc (.cells #[.float .f32 y] 25)) := (Below.refl _ _).alloc (Nat.le_refl _) _
  refine h g' cap w' ?_ ⟨h2.os.trans hba.os, h2.tape.trans hba.tape, h2.output.trans hba.output, Nat.le_trans hba.size h2.size, fun k hk hd => ?_⟩ ?_
  · unfold GroF
    rw [List.length_append, List.map_append]
    exact h1
  · rw [h2.block k (Nat.lt_of_lt_of_le hk hba.size) (by
      intro e
      rcases hO.cases with ⟨rfl, _, _⟩ | ⟨g, rfl⟩
      · cases e
      · injection e with e
        exact hd _ rfl e.symm)]
    exact hba.block k hk
  · rcases h3 with h | h
    · rcases hO.cases with ⟨rfl, _, _⟩ | ⟨g, rfl⟩
      · cases h
      · injection h with h
        exact .inl ⟨_, rfl, h⟩
    · right
      have : (w0.alloc (.cells #[.float .f32 y] 25)).heap.size = w0.heap.size + 1 := by simp
      omega


end Go.Proofs.Ytgiblioilpedfaa
