/-
  What is proved here: a row of bytes that grows one by one, from nothing, as steps of a walk. Conditions: at most 1048576 of them.
-/
import Derived.Test.YthhimielelpcoaaCel
import Derived.OwnWalk
import Derived.Deep.AppendLies
import Derived.Deep.RegionLaw
namespace Go.Proofs.Ythhimielelpcoaa
open Go.RowKit
set_option linter.unusedVariables false

def atU (zs : List UInt8) (j : Nat) : UInt8 := zs.getD j 0
def uv (f : Nat → UInt8) : Nat → Value := fun j => .int .u8 ((f j).toNat : Int)
theorem info_u8 : (Try.prog.info? 5).map (fun i => (i.zero, i.size, i.bytes)) = some (some (.int .u8 0), 1, 1) := by kernel_rfl
/-- a row that the call owns, and that grows -/
def GroU (w : World) (G : Nat) (L : List UInt8) (A : Option Addr) (c : Nat) : Prop := w.ownsRow G 5 1 (.slice A L.length c) L.length (L.map (fun b : UInt8 => Value.int .u8 (b.toNat : Int)))
theorem GroU.cases {w : World} {G c : Nat} {L : List UInt8} {A : Option Addr} (h : GroU w G L A c) : (A = none ∧ c = 0 ∧ L = []) ∨ ∃ g, A = some ⟨g, 0, none⟩ := by
  rcases h.2 with ⟨h1, _⟩ | ⟨g, cap, cur, h0, _⟩
  · injection h1 with e1 e2 e3
    exact .inl ⟨e1, e3, List.eq_nil_of_length_eq_zero e2⟩
  · injection h0 with e1 e2 e3
    exact .inr ⟨g, e1⟩
theorem GroU.nil (w : World) (G : Nat) : GroU w G [] none 0 := World.ownsRow_nil _ _ _ _
theorem GroU.lit (w : World) {G : Nat} (h : G ≤ w.heap.size) : GroU (w.alloc (.cells #[] 5)) G [] (some ⟨w.heap.size, 0, none⟩) 0 := World.ownsRow_lit w #[] 0 h (by decide) rfl
theorem GroU.lit1 (w : World) {G : Nat} (h : G ≤ w.heap.size) (y : UInt8) : GroU (w.alloc (.cells #[.int .u8 (y.toNat : Int)] 5)) G [y] (some ⟨w.heap.size, 0, none⟩) 1 := World.ownsRow_lit w #[.int .u8 (y.toNat : Int)] 1 h (by decide) rfl
theorem GroU.dn {w : World} {G c n : Nat} {L : List UInt8} {A : Option Addr} (h : GroU w G L A c) : GroU (w.drewN n) G L A c := h
theorem GroU.dr {w : World} {G c : Nat} {L : List UInt8} {A : Option Addr} (h : GroU w G L A c) : GroU w.drew G L A c := h
theorem GroU.but {w w' : World} {G c l h : Nat} {L : List UInt8} {A : Option Addr} (o : GroU w G L A c) (hb : ButIn l h w w') (hd : ∀ a, A = some a → a.block < l ∨ h ≤ a.block) : GroU w' G L A c := by
  refine ⟨o.1, ?_⟩
  rcases o.2 with h1 | ⟨g1, cap, cur, h0, h2, h3, h4⟩
  · exact .inl h1
  · refine .inr ⟨g1, cap, cur, h0, h2, ?_, h4⟩
    have hlt : g1 < w.heap.size := by
      rcases Nat.lt_or_ge g1 w.heap.size with h | h
      · exact h
      · rw [Array.getElem?_eq_none h] at h3; cases h3
    injection h0 with e1 e2 e3
    rw [hb.block _ hlt (hd _ e1)]; exact h3
theorem GroU.below {w w' : World} {G c : Nat} {L : List UInt8} {A : Option Addr} (o : GroU w G L A c) (hb : Below w.heap.size w w') : GroU w' G L A c := o.but (ButIn.of hb) fun a _ => .inr (Nat.zero_le _)
theorem GroU.lt {w : World} {G c : Nat} {L : List UInt8} {A : Option Addr} (h : GroU w G L A c) : ∀ a, A = some a → G ≤ a.block ∧ a.block < w.heap.size := by
  rcases h.cases with ⟨rfl, _, _⟩ | ⟨g, rfl⟩
  · intro a ha; cases ha
  · intro a ha
    injection ha with ha
    subst ha
    exact World.ownsRow.lt h g rfl
theorem GroU.rowW {w : World} {G c : Nat} {L : List UInt8} {A : Option Addr} (h : GroU w G L A c) : RowW w G w.heap.size A L.length (uv (atU L)) := by
  refine ⟨Nat.le_refl _, h.lt, fun h0 => ?_⟩
  rcases h.cases with ⟨_, _, rfl⟩ | ⟨g, rfl⟩
  · simp at h0
  · obtain ⟨h1, h2⟩ := h.lt _ rfl
    refine ⟨g, 0, rfl, h1, h2, fun j hj => ?_, fun j hj => World.ownsRow.frozenAt h _⟩
    rw [Nat.zero_add, World.ownsRow.cellAt h j (by omega), List.getElem?_map]
    simp [uv, atU, List.getD, hj]

theorem grownAtU {w0 w w' : World} {G : Nat} {o : Option Nat} (hb : Below w0.heap.size w0 w) (h : w.grownBy w' o) (hG : G ≤ w0.heap.size) (ho : ∀ k, o = some k → G ≤ k) : Below G w0 w' :=
  ⟨h.os.trans hb.os, h.tape.trans hb.tape, h.output.trans hb.output, Nat.le_trans hb.size h.size, fun k hk => by
    rw [h.block k (by have := hb.size; omega) (by intro e; have := ho _ e.symm; omega)]
    exact hb.block k (by omega)⟩

/-- an append of one, as a step of a walk -/
theorem wpGroU {ops : Array Oper} {rest : List Oper} {o : Oper} {a : Act} {Q : Exit → Act → World → Prop} (hgd : o.guard = none) (s x : Operand)
    (ho : o.op = .call { callee := .builtin .append, args := #[s, x], argTypes := #[185, 185] })
    {w w0 : World} {G c : Nat} {y : UInt8} {L : List UInt8} {A : Option Addr} (hO : GroU w0 G L A c) (hw : w = w0.alloc (.cells #[.int .u8 (y.toNat : Int)] 5)) (hs : a.eval s = .slice A L.length c) (hx : a.eval x = .slice (some ⟨w0.heap.size, 0, none⟩) 1 1) (hL : L.length ≤ 1048576) (hG : G ≤ w0.heap.size)
    (h : ∀ g' c' w', GroU w' G (L ++ [y]) (some ⟨g', 0, none⟩) c' → Below G w0 w' → wpList Try.prog ops Q rest (a.put o.dst (.slice (some ⟨g', 0, none⟩) (L.length + 1) c')) w') :
    wpList Try.prog ops Q (o :: rest) a w := by
  subst hw
  obtain ⟨i0, hi, hz0, hz1, hz2⟩ := info_parts info_u8
  refine wpList_append_lies _ hgd s x 185 ho G 5 i0 (.int .u8 0) 1 1 Try.underlying185 hi hz0 hz1 hz2 rfl (by decide) _ L.length (L.map (fun b : UInt8 => Value.int .u8 (b.toNat : Int))) hs (World.ownsRow.alloc hO _) ⟨w0.heap.size, 0, none⟩ 1 1 [.int .u8 (y.toNat : Int)] hx rfl (World.ownsRow.cells (World.ownsRow_lit (base := G) (e := 5) (size := 1) w0 #[.int .u8 (y.toNat : Int)] 1 hG (by decide) rfl) rfl) (by intro u hu; rw [List.mem_singleton.1 hu]; rfl) (by decide) (by unfold maxLen; omega) (by omega) (by simp; omega) _ rfl ?_
  intro g' cap w' h1 h2 h3 h4
  refine h g' cap w' ?_ ?_
  · unfold GroU
    rw [List.length_append, List.map_append]
    exact h1
  · refine grownAtU ((Below.refl _ _).alloc (Nat.le_refl _) _) h2 hG ?_
    rcases hO.cases with ⟨rfl, rfl, rfl⟩ | ⟨g, rfl⟩
    · intro k hk; cases hk
    · intro k hk
      injection hk with hk
      have := (hO.lt _ rfl).1
      have e : k = g := hk.symm
      omega

/-- an append of one, as a step of a region that draws its order -/
theorem stepGroU {ops : Array Oper} {o : Oper} {a : Act} {K : Act → World → Prop} {Q : Exit → Act → World → Prop} {E : Prop} (hgd : o.guard = none) (s x : Operand)
    (ho : o.op = .call { callee := .builtin .append, args := #[s, x], argTypes := #[185, 185] })
    {w w0 : World} {G c : Nat} {y : UInt8} {L : List UInt8} {A : Option Addr} (hO : GroU w0 G L A c) (hw : w = w0.alloc (.cells #[.int .u8 (y.toNat : Int)] 5)) (hs : a.eval s = .slice A L.length c) (hx : a.eval x = .slice (some ⟨w0.heap.size, 0, none⟩) 1 1) (hL : L.length ≤ 1048576) (hG : G ≤ w0.heap.size)
    (h : ∀ g' c' w', GroU w' G (L ++ [y]) (some ⟨g', 0, none⟩) c' → Below G w0 w' → K (a.put o.dst (.slice (some ⟨g', 0, none⟩) (L.length + 1) c')) w') :
    if Region.wanted o (yielded ops a.tmps) = true then Oper.wp Try.prog o a w K Q else E := by
  subst hw
  obtain ⟨i0, hi, hz0, hz1, hz2⟩ := info_parts info_u8
  refine step_append_lies _ hgd s x 185 ho G 5 i0 (.int .u8 0) 1 1 Try.underlying185 hi hz0 hz1 hz2 rfl (by decide) _ L.length (L.map (fun b : UInt8 => Value.int .u8 (b.toNat : Int))) hs (World.ownsRow.alloc hO _) ⟨w0.heap.size, 0, none⟩ 1 1 [.int .u8 (y.toNat : Int)] hx rfl (World.ownsRow.cells (World.ownsRow_lit (base := G) (e := 5) (size := 1) w0 #[.int .u8 (y.toNat : Int)] 1 hG (by decide) rfl) rfl) (by intro u hu; rw [List.mem_singleton.1 hu]; rfl) (by decide) (by unfold maxLen; omega) (by omega) (by simp; omega) _ rfl ?_
  intro g' cap w' h1 h2 h3 h4
  refine h g' cap w' ?_ ?_
  · unfold GroU
    rw [List.length_append, List.map_append]
    exact h1
  · refine grownAtU ((Below.refl _ _).alloc (Nat.le_refl _) _) h2 hG ?_
    rcases hO.cases with ⟨rfl, rfl, rfl⟩ | ⟨g, rfl⟩
    · intro k hk; cases hk
    · intro k hk
      injection hk with hk
      have := (hO.lt _ rfl).1
      have e : k = g := hk.symm
      omega

/-- an append of one, as a step of a walk -/
theorem wpGroU2 {ops : Array Oper} {rest : List Oper} {o : Oper} {a : Act} {Q : Exit → Act → World → Prop} (hgd : o.guard = none) (s x : Operand)
    (ho : o.op = .call { callee := .builtin .append, args := #[s, x], argTypes := #[185, 185] })
    {w w0 : World} {G c : Nat} {y z : UInt8} {L : List UInt8} {A : Option Addr} (hO : GroU w0 G L A c) (hw : w = w0.alloc (.cells #[.int .u8 (y.toNat : Int), .int .u8 (z.toNat : Int)] 5)) (hs : a.eval s = .slice A L.length c) (hx : a.eval x = .slice (some ⟨w0.heap.size, 0, none⟩) 2 2) (hL : L.length ≤ 1048576) (hG : G ≤ w0.heap.size)
    (h : ∀ g' c' w', GroU w' G (L ++ [y, z]) (some ⟨g', 0, none⟩) c' → Below G w0 w' → wpList Try.prog ops Q rest (a.put o.dst (.slice (some ⟨g', 0, none⟩) (L.length + 2) c')) w') :
    wpList Try.prog ops Q (o :: rest) a w := by
  subst hw
  obtain ⟨i0, hi, hz0, hz1, hz2⟩ := info_parts info_u8
  refine wpList_append_lies _ hgd s x 185 ho G 5 i0 (.int .u8 0) 1 1 Try.underlying185 hi hz0 hz1 hz2 rfl (by decide) _ L.length (L.map (fun b : UInt8 => Value.int .u8 (b.toNat : Int))) hs (World.ownsRow.alloc hO _) ⟨w0.heap.size, 0, none⟩ 2 2 [.int .u8 (y.toNat : Int), .int .u8 (z.toNat : Int)] hx rfl (World.ownsRow.cells (World.ownsRow_lit (base := G) (e := 5) (size := 1) w0 #[.int .u8 (y.toNat : Int), .int .u8 (z.toNat : Int)] 2 hG (by decide) rfl) rfl) (by intro u hu; simp only [List.mem_cons, List.not_mem_nil, or_false] at hu; rcases hu with rfl | rfl <;> rfl) (by decide) (by unfold maxLen; omega) (by omega) (by simp; omega) _ rfl ?_
  intro g' cap w' h1 h2 h3 h4
  refine h g' cap w' ?_ ?_
  · unfold GroU
    rw [List.length_append, List.map_append]
    exact h1
  · refine grownAtU ((Below.refl _ _).alloc (Nat.le_refl _) _) h2 hG ?_
    rcases hO.cases with ⟨rfl, rfl, rfl⟩ | ⟨g, rfl⟩
    · intro k hk; cases hk
    · intro k hk
      injection hk with hk
      have := (hO.lt _ rfl).1
      have e : k = g := hk.symm
      omega

end Go.Proofs.Ythhimielelpcoaa
