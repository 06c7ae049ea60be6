/-
  What is proved here: a row of bools that grows one by one, from nothing, as steps of a walk. Conditions: at most 1048576 of them.
-/
import Derived.Test.YtnhcmloaanamnaaCel
import Derived.OwnWalk
import Derived.Deep.AppendLies
import Derived.Deep.RegionLaw
namespace Go.Proofs.Ytnhcmloaanamnaa
open Go.RowKit
set_option linter.unusedVariables false

def atB (zs : List Bool) (j : Nat) : Bool := zs.getD j false
/-- a row that the call owns, and that grows -/
def GroB (w : World) (G : Nat) (L : List Bool) (A : Option Addr) (c : Nat) : Prop := w.ownsRow G 4 1 (.slice A L.length c) L.length (L.map (Value.bool))
theorem GroB.cases {w : World} {G c : Nat} {L : List Bool} {A : Option Addr} (h : GroB w G L A c) : (A = none ∧ c = 0 ∧ L = []) ∨ ∃ g, A = some ⟨g, 0, none⟩ := by
  rcases h.2 with ⟨h1, _⟩ | ⟨g, cap, cur, h0, _⟩
  · injection h1 with e1 e2 e3
    exact .inl ⟨e1, e3, List.eq_nil_of_length_eq_zero e2⟩
  · injection h0 with e1 e2 e3
    exact .inr ⟨g, e1⟩
theorem GroB.nil (w : World) (G : Nat) : GroB w G [] none 0 := World.ownsRow_nil _ _ _ _
theorem GroB.lit (w : World) {G : Nat} (h : G ≤ w.heap.size) : GroB (w.alloc (.cells #[] 4)) G [] (some ⟨w.heap.size, 0, none⟩) 0 := World.ownsRow_lit w #[] 0 h (by decide) rfl
theorem GroB.lit1 (w : World) {G : Nat} (h : G ≤ w.heap.size) (y : Bool) : GroB (w.alloc (.cells #[.bool y] 4)) G [y] (some ⟨w.heap.size, 0, none⟩) 1 := World.ownsRow_lit w #[.bool y] 1 h (by decide) rfl
theorem GroB.dn {w : World} {G c n : Nat} {L : List Bool} {A : Option Addr} (h : GroB w G L A c) : GroB (w.drewN n) G L A c := h
theorem GroB.dr {w : World} {G c : Nat} {L : List Bool} {A : Option Addr} (h : GroB w G L A c) : GroB w.drew G L A c := h
theorem GroB.but {w w' : World} {G c l h : Nat} {L : List Bool} {A : Option Addr} (o : GroB w G L A c) (hb : ButIn l h w w') (hd : ∀ a, A = some a → a.block < l ∨ h ≤ a.block) : GroB w' G L A c := by
  refine ⟨o.1, ?_⟩
  rcases o.2 with h1 | ⟨g1, cap, cur, h0, h2, h3, h4⟩
  · exact .inl h1
  · refine .inr ⟨g1, cap, cur, h0, h2, ?_, h4⟩
    have hlt : g1 < w.heap.size := by
      rcases Nat.lt_or_ge g1 w.heap.size with h | h
      · exact h
      · rw [Array.getElem?_eq_none h] at h3; cases h3
    injection h0 with e1 e2 e3
    rw [hb.block _ hlt (hd _ e1)]; exact h3
theorem GroB.below {w w' : World} {G c : Nat} {L : List Bool} {A : Option Addr} (o : GroB w G L A c) (hb : Below w.heap.size w w') : GroB w' G L A c := o.but (ButIn.of hb) fun a _ => .inr (Nat.zero_le _)
theorem GroB.lt {w : World} {G c : Nat} {L : List Bool} {A : Option Addr} (h : GroB w G L A c) : ∀ a, A = some a → G ≤ a.block ∧ a.block < w.heap.size := by
  rcases h.cases with ⟨rfl, _, _⟩ | ⟨g, rfl⟩
  · intro a ha; cases ha
  · intro a ha
    injection ha with ha
    subst ha
    exact World.ownsRow.lt h g rfl
theorem GroB.rowW {w : World} {G c : Nat} {L : List Bool} {A : Option Addr} (h : GroB w G L A c) : RowW w G w.heap.size A L.length (bo (atB L)) := by
  refine ⟨Nat.le_refl _, h.lt, fun h0 => ?_⟩
  rcases h.cases with ⟨_, _, rfl⟩ | ⟨g, rfl⟩
  · simp at h0
  · obtain ⟨h1, h2⟩ := h.lt _ rfl
    refine ⟨g, 0, rfl, h1, h2, fun j hj => ?_, fun j hj => World.ownsRow.frozenAt h _⟩
    rw [Nat.zero_add, World.ownsRow.cellAt h j (by omega), List.getElem?_map]
    simp [bo, atB, List.getD, hj]

theorem grownAtB {w0 w w' : World} {G : Nat} {o : Option Nat} (hb : Below w0.heap.size w0 w) (h : w.grownBy w' o) (hG : G ≤ w0.heap.size) (ho : ∀ k, o = some k → G ≤ k) : Below G w0 w' :=
  ⟨h.os.trans hb.os, h.tape.trans hb.tape, h.output.trans hb.output, Nat.le_trans hb.size h.size, fun k hk => by
    rw [h.block k (by have := hb.size; omega) (by intro e; have := ho _ e.symm; omega)]
    exact hb.block k (by omega)⟩

/-- an append of one, as a step of a walk -/
theorem wpGroB {ops : Array Oper} {rest : List Oper} {o : Oper} {a : Act} {Q : Exit → Act → World → Prop} (hgd : o.guard = none) (s x : Operand)
    (ho : o.op = .call { callee := .builtin .append, args := #[s, x], argTypes := #[64, 64] })
    {w w0 : World} {G c : Nat} {y : Bool} {L : List Bool} {A : Option Addr} (hO : GroB w0 G L A c) (hw : w = w0.alloc (.cells #[.bool y] 4)) (hs : a.eval s = .slice A L.length c) (hx : a.eval x = .slice (some ⟨w0.heap.size, 0, none⟩) 1 1) (hL : L.length ≤ 1048576) (hG : G ≤ w0.heap.size)
    (h : ∀ g' c' w', GroB w' G (L ++ [y]) (some ⟨g', 0, none⟩) c' → Below G w0 w' → wpList Try.prog ops Q rest (a.put o.dst (.slice (some ⟨g', 0, none⟩) (L.length + 1) c')) w') :
    wpList Try.prog ops Q (o :: rest) a w := by
  subst hw
  obtain ⟨i0, hi, hz0, hz1, hz2⟩ := info_parts info_bool
  refine wpList_append_lies _ hgd s x 64 ho G 4 i0 (.bool false) 1 1 Try.underlying64 hi hz0 hz1 hz2 rfl (by decide) _ L.length (L.map (Value.bool)) hs (World.ownsRow.alloc hO _) ⟨w0.heap.size, 0, none⟩ 1 1 [.bool y] hx rfl (World.ownsRow.cells (World.ownsRow_lit (base := G) (e := 4) (size := 1) w0 #[.bool y] 1 hG (by decide) rfl) rfl) (by intro u hu; rw [List.mem_singleton.1 hu]; rfl) (by decide) (by unfold maxLen; omega) (by omega) (by simp; omega) _ rfl ?_
  intro g' cap w' h1 h2 h3 h4
  refine h g' cap w' ?_ ?_
  · unfold GroB
    rw [List.length_append, List.map_append]
    exact h1
  · refine grownAtB ((Below.refl _ _).alloc (Nat.le_refl _) _) h2 hG ?_
    rcases hO.cases with ⟨rfl, rfl, rfl⟩ | ⟨g, rfl⟩
    · intro k hk; cases hk
    · intro k hk
      injection hk with hk
      have := (hO.lt _ rfl).1
      have e : k = g := hk.symm
      omega

/-- an append of one, as a step of a region that draws its order -/
theorem stepGroB {ops : Array Oper} {o : Oper} {a : Act} {K : Act → World → Prop} {Q : Exit → Act → World → Prop} {E : Prop} (hgd : o.guard = none) (s x : Operand)
    (ho : o.op = .call { callee := .builtin .append, args := #[s, x], argTypes := #[64, 64] })
    {w w0 : World} {G c : Nat} {y : Bool} {L : List Bool} {A : Option Addr} (hO : GroB w0 G L A c) (hw : w = w0.alloc (.cells #[.bool y] 4)) (hs : a.eval s = .slice A L.length c) (hx : a.eval x = .slice (some ⟨w0.heap.size, 0, none⟩) 1 1) (hL : L.length ≤ 1048576) (hG : G ≤ w0.heap.size)
    (h : ∀ g' c' w', GroB w' G (L ++ [y]) (some ⟨g', 0, none⟩) c' → Below G w0 w' → K (a.put o.dst (.slice (some ⟨g', 0, none⟩) (L.length + 1) c')) w') :
    if Region.wanted o (yielded ops a.tmps) = true then Oper.wp Try.prog o a w K Q else E := by
  subst hw
  obtain ⟨i0, hi, hz0, hz1, hz2⟩ := info_parts info_bool
  refine step_append_lies _ hgd s x 64 ho G 4 i0 (.bool false) 1 1 Try.underlying64 hi hz0 hz1 hz2 rfl (by decide) _ L.length (L.map (Value.bool)) hs (World.ownsRow.alloc hO _) ⟨w0.heap.size, 0, none⟩ 1 1 [.bool y] hx rfl (World.ownsRow.cells (World.ownsRow_lit (base := G) (e := 4) (size := 1) w0 #[.bool y] 1 hG (by decide) rfl) rfl) (by intro u hu; rw [List.mem_singleton.1 hu]; rfl) (by decide) (by unfold maxLen; omega) (by omega) (by simp; omega) _ rfl ?_
  intro g' cap w' h1 h2 h3 h4
  refine h g' cap w' ?_ ?_
  · unfold GroB
    rw [List.length_append, List.map_append]
    exact h1
  · refine grownAtB ((Below.refl _ _).alloc (Nat.le_refl _) _) h2 hG ?_
    rcases hO.cases with ⟨rfl, rfl, rfl⟩ | ⟨g, rfl⟩
    · intro k hk; cases hk
    · intro k hk
      injection hk with hk
      have := (hO.lt _ rfl).1
      have e : k = g := hk.symm
      omega

end Go.Proofs.Ytnhcmloaanamnaa
