/-
  What is proved here: StepGrowth, of both packages, as walks. Conditions: at most 1048576 numbers.
-/
import Derived.Test.YtnhcmloaanamnaaMea
import Derived.Test.YtnhcmloaanamnaaDif
import Derived.Deep.RegionLaw
namespace Go.Proofs.Ytnhcmloaanamnaa
open Flt Go.RowKit
attribute [local go_sem] run_store_float
set_option linter.unusedVariables false

/-- a step -/
def stepT (zs : List Nat) (lg : Nat) (j : Nat) : Option Nat := fop .sub .f32 (can .f32 (at0 zs (j + lg))) (can .f32 (at0 zs j))
def stgC (zs : List Nat) (lg : Nat) : Option Nat := fop .quo .f32 (sumT (sqT (stepT zs lg)) (zs.length - lg)) (lenF (zs.length - lg))

theorem OwnA.dq {w : World} {G g c n : Nat} {L : List Nat} (h : OwnA w G L g c) : OwnA (w.drewN n) G L g c := h
theorem OwnA.dr {w : World} {G g c : Nat} {L : List Nat} (h : OwnA w G L g c) : OwnA w.drew G L g c := h
/-- an append to what is owned, as a step of a region that draws its order -/
theorem stepApp {ops : Array Oper} {o : Oper} {a : Act} {K : Act → World → Prop} {Q : Exit → Act → World → Prop} {E : Prop} (hgd : o.guard = none) (s x : Operand)
    (ho : o.op = .call { callee := .builtin .append, args := #[s, x], argTypes := #[22, 22] })
    {w w0 : World} {G g c y : Nat} {L : List Nat} (hO : OwnA w0 G L g c) (hw : w = w0.alloc (.cells #[.float .f32 y] 34)) (hs : a.eval s = .slice (some ⟨g, 0, none⟩) L.length c) (hx : a.eval x = .slice (some ⟨w0.heap.size, 0, none⟩) 1 1) (hL : L.length ≤ 1048576) (hG : G ≤ w0.heap.size)
    (h : ∀ g' c' w', OwnA w' G (L ++ [y]) g' c' → ButIn g (g + 1) w0 w' → K (a.put o.dst (.slice (some ⟨g', 0, none⟩) (L.length + 1) c')) w') :
    if Region.wanted o (yielded ops a.tmps) = true then Oper.wp Try.prog o a w K Q else E := by
  subst hw
  obtain ⟨i0, hi, hz0, hz1, hz2⟩ := info_parts info_f32k
  refine step_append_lies _ hgd s x 22 ho G 34 i0 (.float .f32 0) 1 4 Try.underlying22 hi hz0 hz1 hz2 rfl (by decide) _ L.length (L.map (Value.float .f32)) hs (World.ownsRow.alloc hO _) ⟨w0.heap.size, 0, none⟩ 1 1 [.float .f32 y] hx rfl (World.ownsRow.cells (World.ownsRow_lit (base := G) (e := 34) (size := 1) w0 #[.float .f32 y] 1 hG (by decide) rfl) rfl) (by intro u hu; rw [List.mem_singleton.1 hu]; rfl) (by decide) (by unfold maxLen; omega) (by omega) (by simp; omega) _ rfl ?_
  intro g' cap w' h1 h2 h3 h4
  refine h g' cap w' ?_ ?_
  · unfold OwnA
    rw [List.length_append, List.map_append]
    exact h1
  · have hb : Below w0.heap.size w0 (w0.alloc (.cells #[.float .f32 y] 34)) := (Below.refl _ _).alloc (Nat.le_refl _) _
    refine ⟨h2.os.trans hb.os, h2.tape.trans hb.tape, h2.output.trans hb.output, Nat.le_trans hb.size h2.size, fun k hk hd => ?_⟩
    rw [h2.block k (Nat.lt_of_lt_of_le hk hb.size) (by intro e; injection e with e; have e : k = g := e; omega)]
    exact hb.block k hk
/-- .. to nothing -/
theorem stepNil {ops : Array Oper} {o : Oper} {a : Act} {K : Act → World → Prop} {Q : Exit → Act → World → Prop} {E : Prop} (hgd : o.guard = none) (s x : Operand)
    (ho : o.op = .call { callee := .builtin .append, args := #[s, x], argTypes := #[22, 22] })
    {w w0 : World} {G y : Nat} (hG : G ≤ w0.heap.size) (hw : w = w0.alloc (.cells #[.float .f32 y] 34)) (hs : a.eval s = .slice none 0 0) (hx : a.eval x = .slice (some ⟨w0.heap.size, 0, none⟩) 1 1)
    (h : ∀ g' c' w', OwnA w' G [y] g' c' → Below w0.heap.size w0 w' → K (a.put o.dst (.slice (some ⟨g', 0, none⟩) 1 c')) w') :
    if Region.wanted o (yielded ops a.tmps) = true then Oper.wp Try.prog o a w K Q else E := by
  subst hw
  obtain ⟨i0, hi, hz0, hz1, hz2⟩ := info_parts info_f32k
  refine step_append_lies _ hgd s x 22 ho G 34 i0 (.float .f32 0) 1 4 Try.underlying22 hi hz0 hz1 hz2 rfl (by decide) _ 0 [] hs (World.ownsRow_nil _ _ _ _) ⟨w0.heap.size, 0, none⟩ 1 1 [.float .f32 y] hx rfl (World.ownsRow.cells (World.ownsRow_lit (base := G) (e := 34) (size := 1) w0 #[.float .f32 y] 1 hG (by decide) rfl) rfl) (by intro u hu; rw [List.mem_singleton.1 hu]; rfl) (by decide) (by unfold maxLen; omega) (by omega) (by simp; omega) _ rfl ?_
  intro g' cap w' h1 h2 h3 h4
  refine h g' cap w' h1 ?_
  have hb : Below w0.heap.size w0 (w0.alloc (.cells #[.float .f32 y] 34)) := (Below.refl _ _).alloc (Nat.le_refl _) _
  exact ⟨h2.os.trans hb.os, h2.tape.trans hb.tape, h2.output.trans hb.output, Nat.le_trans hb.size h2.size, fun k hk => by
    rw [h2.block k (Nat.lt_of_lt_of_le hk hb.size) (by intro e; cases e)]
    exact hb.block k hk⟩

theorem sub_num {x y : Nat} (hx : finB .f32 x = true) (hy : finB .f32 y = true) : ∃ r, (∀ W, (binOp .sub 34 (.float .f32 x) (.float .f32 y)).run Try.prog W = .ok (.float .f32 r) W) ∧ can .f32 r = fop .sub .f32 (can .f32 x) (can .f32 y) := by
  obtain ⟨r, h1, h2, _⟩ := dif_gt hx hy
  exact ⟨r, fun W => run_float_arith W .sub 34 .f32 _ _ _ h1, by rw [fop_can, h1, can_num h2]⟩

set_option maxHeartbeats 8000000 in
theorem implSteps (A : Option Addr) (c lg : Nat) (zs : List Nat) (w : World) (hr : RowF w w.heap.size A zs) (h1 : 1 ≤ lg) (h2 : lg < zs.length) (h3 : zs.length ≤ 256) (hfa : finAll zs = true) :
    Calls Try.prog 41 #[.slice A zs.length c, .int .i64 lg] w fun e w' => ∃ A' c' ys, e = .returned (.slice A' (zs.length - lg : Nat) c') ∧ Hid (Tl (stepT zs lg) (zs.length - lg) ys) ∧ Hid (RowIn w' w.heap.size w'.heap.size A' ys) ∧ Hid (Below w.heap.size w w') := by
  have HR := Lib.hid hr
  have HFA := Lib.hid hfa
  clear hr hfa
  go_enter Try.func41, Try.ntmps41
  go_wp2
  go_loopw [5, 6] (fun o i wr => ∃ (k m : Nat) (L : List Nat), i = .int .i64 m ∧ m = k + lg ∧ k ≤ zs.length - lg ∧ Hid (Tl (stepT zs lg) k L) ∧ Hid (Below w.heap.size w wr) ∧ ((o = .slice none 0 0 ∧ k = 0) ∨ ∃ g c, o = .slice (some ⟨g, 0, none⟩) L.length c ∧ Hid (OwnA wr w.heap.size L g c))) (fun _ i _ => zs.length - (intOf i).toNat)
  case atStart => exact ⟨0, lg, [], rfl, by omega, Nat.zero_le _, Tl.nil _, Below.refl _ _, .inl ⟨rfl, rfl⟩⟩
  case round =>
    obtain ⟨k, m, L, rfl, hm, hk, hT, hB, hO⟩ := hrel
    have hsz : Hid (w.heap.size ≤ wr.heap.size) := hB.out.size
    have hl : L.length ≤ 256 := by rw [hT.out.len]; omega
    by_cases hlt : m < zs.length
    · obtain ⟨b, off, rfl, hb, hcell⟩ := (HR.out.below hB.out) (by omega)
      have hc := hcell m hlt
      have hd := hcell k (by omega)
      have hi : ((m : Int) - (lg : Int)) = (k : Int) := by omega
      have hk2 : k < zs.length := by omega
      have hk3 : (k : Int) < zs.length := by omega
      have hw : IntKind.i64.wrap ((m : Int) - (lg : Int)) = (k : Int) := by rw [hi]; exact IntWalk.i64_in _ (by omega)
      obtain ⟨r, hrun, hcr⟩ := sub_num (finAll_at HFA.out hlt) (finAll_at HFA.out hk2)
      have a1 : Hid (can .f32 r = stepT zs lg k) := by show _ = _; rw [hcr]; unfold stepT; rw [← hm]
      have HT2 := Lib.hid (hT.out.snoc a1.out)
      have HM := Lib.hid hm
      clear hcell hm hi hcr hb
      rcases hO with ⟨rfl, h0⟩ | ⟨g, c, rfl, hO⟩
      · have H0 := Lib.hid h0
        have HLn : Hid (L = []) := by have := hT.out.len; rw [H0.out] at this; exact List.eq_nil_of_length_eq_zero this
        rw [HLn.out] at HT2
        clear h0
        go_wp2_with fail
        go_region_law (refine stepNil rfl _ _ rfl (w0 := wr.drew) hsz.out rfl (by simp [Act.eval]) (by simp [Act.eval]) ?_; intro g2 c2 w4 O4 B4; have HO4 := Lib.hid O4; have HB4 : Hid (Below w.heap.size w w4) := (hB.out.drew).trans (B4.mono hsz.out); clear O4 B4)
        all_goals
          go_wp2_with fail
          go_roundw
          case rel => exact ⟨k + 1, m + 1, [r], by go_num, by have := HM.out; omega, by have := HM.out; omega, HT2, HB4, .inr ⟨g2, c2, rfl, HO4⟩⟩
          case measure => simp [intOf]; omega
      · have hlo := hO.out.lo.1
        go_wp2_with fail
        go_region_law (refine stepApp rfl _ _ rfl hO.out.dr rfl (by simp [Act.eval]) (by simp [Act.eval]) (by omega) hsz.out ?_; intro g2 c2 w4 O4 B4; have HO4 := Lib.hid O4; have HB4 : Hid (Below w.heap.size w w4) := below_app (hB.out.drew) (Nat.le_refl _) hlo B4; clear O4 B4)
        all_goals
          go_wp2_with fail
          go_roundw
          case rel => exact ⟨k + 1, m + 1, L ++ [r], by go_num, by have := HM.out; omega, by have := HM.out; omega, HT2, HB4, .inr ⟨g2, c2, by rw [snoc_len], HO4⟩⟩
          case measure => simp [intOf]; omega
    · rcases hO with ⟨rfl, h0⟩ | ⟨g, c, rfl, hO⟩
      · exfalso; omega
      · have HE : Hid (k = zs.length - lg) := by show _ = _; omega
        have hE := hT.out.len
        rw [HE.out] at hT hE
        clear hm
        go_wp2_with fail
        go_ret
        rw [hE]
        exact ⟨_, _, L, rfl, hT, hO.out.rowIn, hB⟩





end Go.Proofs.Ytnhcmloaanamnaa
