/-
  What is proved here: StepGrowth, of both packages, as walks. Conditions: at most 1048576 numbers.
-/
import Derived.Test.YthhimielelpcoaaMea
import Derived.Test.YthhimielelpcoaaDif
import Derived.Deep.RegionLaw
namespace Go.Proofs.Ythhimielelpcoaa
open Flt Go.RowKit
attribute [local go_sem] run_store_float
set_option linter.unusedVariables false

/-- a step -/
def stepT (zs : List Nat) (lg : Nat) (j : Nat) : Option Nat := fop .sub .f32 (can .f32 (at0 zs (j + lg))) (can .f32 (at0 zs j))
def stgC (zs : List Nat) (lg : Nat) : Option Nat := fop .quo .f32 (sumT (sqT (stepT zs lg)) (zs.length - lg)) (lenF (zs.length - lg))

theorem OwnA.dq {w : World} {G g c n : Nat} {L : List Nat} (h : OwnA w G L g c) : OwnA (w.drewN n) G L g c := h
theorem OwnA.dr {w : World} {G g c : Nat} {L : List Nat} (h : OwnA w G L g c) : OwnA w.drew G L g c := h
/-- an append to what is owned, as a step of a region that draws its order -/
theorem stepApp {ops : Array Oper} {o : Oper} {a : Act} {K : Act → World → Prop} {Q : Exit → Act → World → Prop} {E : Prop} (hgd : o.guard = none) (s x : Operand)
    (ho : o.op = .call { callee := .builtin .append, args := #[s, x], argTypes := #[33, 33] })
    {w w0 : World} {G g c y : Nat} {L : List Nat} (hO : OwnA w0 G L g c) (hw : w = w0.alloc (.cells #[.float .f32 y] 43)) (hs : a.eval s = .slice (some ⟨g, 0, none⟩) L.length c) (hx : a.eval x = .slice (some ⟨w0.heap.size, 0, none⟩) 1 1) (hL : L.length ≤ 1048576) (hG : G ≤ w0.heap.size)
    (h : ∀ g' c' w', OwnA w' G (L ++ [y]) g' c' → ButIn g (g + 1) w0 w' → K (a.put o.dst (.slice (some ⟨g', 0, none⟩) (L.length + 1) c')) w') :
    if Region.wanted o (yielded ops a.tmps) = true then Oper.wp Try.prog o a w K Q else E := by
  subst hw
  obtain ⟨i0, hi, hz0, hz1, hz2⟩ := info_parts info_f32k
  refine step_append_lies _ hgd s x 33 ho G 43 i0 (.float .f32 0) 1 4 Try.underlying33 hi hz0 hz1 hz2 rfl (by decide) _ L.length (L.map (Value.float .f32)) hs (World.ownsRow.alloc hO _) ⟨w0.heap.size, 0, none⟩ 1 1 [.float .f32 y] hx rfl (World.ownsRow.cells (World.ownsRow_lit (base := G) (e := 43) (size := 1) w0 #[.float .f32 y] 1 hG (by decide) rfl) rfl) (by intro u hu; rw [List.mem_singleton.1 hu]; rfl) (by decide) (by unfold maxLen; omega) (by omega) (by simp; omega) _ rfl ?_
  intro g' cap w' h1 h2 h3 h4
  refine h g' cap w' ?_ ?_
  · unfold OwnA
    rw [List.length_append, List.map_append]
    exact h1
  · have hb : Below w0.heap.size w0 (w0.alloc (.cells #[.float .f32 y] 43)) := (Below.refl _ _).alloc (Nat.le_refl _) _
    refine ⟨h2.os.trans hb.os, h2.tape.trans hb.tape, h2.output.trans hb.output, Nat.le_trans hb.size h2.size, fun k hk hd => ?_⟩
    rw [h2.block k (Nat.lt_of_lt_of_le hk hb.size) (by intro e; injection e with e; have e : k = g := e; omega)]
    exact hb.block k hk
/-- .. to nothing -/
theorem stepNil {ops : Array Oper} {o : Oper} {a : Act} {K : Act → World → Prop} {Q : Exit → Act → World → Prop} {E : Prop} (hgd : o.guard = none) (s x : Operand)
    (ho : o.op = .call { callee := .builtin .append, args := #[s, x], argTypes := #[33, 33] })
    {w w0 : World} {G y : Nat} (hG : G ≤ w0.heap.size) (hw : w = w0.alloc (.cells #[.float .f32 y] 43)) (hs : a.eval s = .slice none 0 0) (hx : a.eval x = .slice (some ⟨w0.heap.size, 0, none⟩) 1 1)
    (h : ∀ g' c' w', OwnA w' G [y] g' c' → Below w0.heap.size w0 w' → K (a.put o.dst (.slice (some ⟨g', 0, none⟩) 1 c')) w') :
    if Region.wanted o (yielded ops a.tmps) = true then Oper.wp Try.prog o a w K Q else E := by
  subst hw
  obtain ⟨i0, hi, hz0, hz1, hz2⟩ := info_parts info_f32k
  refine step_append_lies _ hgd s x 33 ho G 43 i0 (.float .f32 0) 1 4 Try.underlying33 hi hz0 hz1 hz2 rfl (by decide) _ 0 [] hs (World.ownsRow_nil _ _ _ _) ⟨w0.heap.size, 0, none⟩ 1 1 [.float .f32 y] hx rfl (World.ownsRow.cells (World.ownsRow_lit (base := G) (e := 43) (size := 1) w0 #[.float .f32 y] 1 hG (by decide) rfl) rfl) (by intro u hu; rw [List.mem_singleton.1 hu]; rfl) (by decide) (by unfold maxLen; omega) (by omega) (by simp; omega) _ rfl ?_
  intro g' cap w' h1 h2 h3 h4
  refine h g' cap w' h1 ?_
  have hb : Below w0.heap.size w0 (w0.alloc (.cells #[.float .f32 y] 43)) := (Below.refl _ _).alloc (Nat.le_refl _) _
  exact ⟨h2.os.trans hb.os, h2.tape.trans hb.tape, h2.output.trans hb.output, Nat.le_trans hb.size h2.size, fun k hk => by
    rw [h2.block k (Nat.lt_of_lt_of_le hk hb.size) (by intro e; cases e)]
    exact hb.block k hk⟩

theorem sub_num {x y : Nat} (hx : finB .f32 x = true) (hy : finB .f32 y = true) : ∃ r, (∀ W, (binOp .sub 43 (.float .f32 x) (.float .f32 y)).run Try.prog W = .ok (.float .f32 r) W) ∧ can .f32 r = fop .sub .f32 (can .f32 x) (can .f32 y) := by
  obtain ⟨r, h1, h2, _⟩ := dif_gt hx hy
  exact ⟨r, fun W => run_float_arith W .sub 43 .f32 _ _ _ h1, by rw [fop_can, h1, can_num h2]⟩






end Go.Proofs.Ythhimielelpcoaa
