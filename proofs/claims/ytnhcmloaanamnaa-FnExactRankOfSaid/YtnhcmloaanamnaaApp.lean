/-
  What is proved here: an append of one number to a row that the call owns, as a step of a walk; what is returned of a list if its numbers are finite; numbers greater than nothing. Conditions: at most 1048576 numbers.
-/
import Derived.Test.YtnhcmloaanamnaaIsl
import Derived.Deep.AppendLies
namespace Go.Proofs.Ytnhcmloaanamnaa
open Flt Go.RowKit
set_option linter.unusedVariables false

theorem wpApp {ops : Array Oper} {rest : List Oper} {o : Oper} {a : Act} {Q : Exit → Act → World → Prop} (hgd : o.guard = none) (s x : Operand)
    (ho : o.op = .call { callee := .builtin .append, args := #[s, x], argTypes := #[22, 22] })
    {w w0 : World} {G g c y : Nat} {L : List Nat} (hO : OwnA w0 G L g c) (hw : w = w0.alloc (.cells #[.float .f32 y] 34)) (hs : a.eval s = .slice (some ⟨g, 0, none⟩) L.length c) (hx : a.eval x = .slice (some ⟨w0.heap.size, 0, none⟩) 1 1) (hL : L.length ≤ 1048576) (hG : G ≤ w0.heap.size)
    (h : ∀ g' c' w', OwnA w' G (L ++ [y]) g' c' → ButIn g (g + 1) w0 w' → wpList Try.prog ops Q rest (a.put o.dst (.slice (some ⟨g', 0, none⟩) (L.length + 1) c')) w') : wpList Try.prog ops Q (o :: rest) a w := by
  subst hw
  obtain ⟨i0, hi, hz0, hz1, hz2⟩ := info_parts info_f32k
  refine wpList_append_lies _ hgd s x 22 ho G 34 i0 (.float .f32 0) 1 4 Try.underlying22 hi hz0 hz1 hz2 rfl (by decide) _ L.length (L.map (Value.float .f32)) hs (World.ownsRow.alloc hO _) ⟨w0.heap.size, 0, none⟩ 1 1 [.float .f32 y] hx rfl (World.ownsRow.cells (World.ownsRow_lit (base := G) (e := 34) (size := 1) w0 #[.float .f32 y] 1 hG (by decide) rfl) rfl) (by intro u hu; rw [List.mem_singleton.1 hu]; rfl) (by decide) (by unfold maxLen; omega) (by omega) (by simp; omega) _ rfl ?_
  intro g' cap w' h1 h2 h3 h4
  refine h g' cap w' ?_ ?_
  · unfold OwnA
    rw [List.length_append, List.map_append]
    exact h1
  · have hb : Below w0.heap.size w0 (w0.alloc (.cells #[.float .f32 y] 34)) := (Below.refl _ _).alloc (Nat.le_refl _) _
    refine ⟨h2.os.trans hb.os, h2.tape.trans hb.tape, h2.output.trans hb.output, Nat.le_trans hb.size h2.size, fun k hk hd => ?_⟩
    rw [h2.block k (Nat.lt_of_lt_of_le hk hb.size) (by intro e; injection e with e; have e : k = g := e; omega)]
    exact hb.block k hk

theorem OwnA.lo {w : World} {G g c : Nat} {L : List Nat} (h : OwnA w G L g c) : G ≤ g ∧ g < w.heap.size := World.ownsRow.lt h g rfl
theorem below_app {w wr w4 : World} {X g : Nat} (h : Below X w wr) (hX : X ≤ w.heap.size) (hg : X ≤ g) (b : ButIn g (g + 1) wr w4) : Below X w w4 := h.trans (b.toBelow hg (Nat.le_trans hX h.size))
/-- another row that is owned stands -/
theorem OwnA.but {w w' : World} {G g c l h : Nat} {L : List Nat} (o : OwnA w G L g c) (hb : ButIn l h w w') (hd : g < l ∨ h ≤ g) : OwnA w' G L g c := by
  have hlt := o.lo.2
  refine ⟨o.1, ?_⟩
  rcases o.2 with h1 | ⟨g1, cap, cur, h0, h2, h3, h4⟩
  · exact .inl h1
  · refine .inr ⟨g1, cap, cur, h0, h2, ?_, h4⟩
    have e : g1 = g := by injection h0 with h0 _ _; injection h0 with h0; injection h0 with h0 _ _; exact h0.symm
    subst e
    rw [hb.block _ hlt hd]; exact h3
theorem RowH.dn {w : World} {g n : Nat} {ws : List Nat} (r : RowH w g ws) : RowH (w.drewN n) g ws := ⟨r.lt, r.cell, r.free⟩
theorem lp_no2 {f : Nat → Option Nat} {n : Nat} {b : Bool} {w w' : World} (hn : n = 0) (hb : b = false) (h : Below w.heap.size w w') : LP f n b w (.returned (.tuple #[.slice none 0 0, .bool false])) w' := by
  subst hn hb
  exact lp_no h
theorem lp_yes {f : Nat → Option Nat} {n m c : Nat} {b : Bool} {A : Option Addr} {ys : List Nat} {w w' : World} (hn : n = m) (hb : b = true) (t : Tl f m ys) (r : RowIn w' w.heap.size w'.heap.size A ys) (h : Below w.heap.size w w') : LP f n b w (.returned (.tuple #[.slice A m c, .bool true])) w' := by
  subst hn hb
  exact ⟨A, c, ys, rfl, t, r, h⟩
theorem snoc_len (L : List Nat) (y : Nat) : (L ++ [y]).length = L.length + 1 := by rw [List.length_append]; rfl

theorem specLst (A : Option Addr) (c : Nat) (zs : List Nat) (w : World) (Z : Nat) (hr : RowF w Z A zs) (hn : zs.length ≤ 1048576) :
    Calls Try.prog 38 #[.slice A zs.length c] w fun e w' => (finAll zs = true → e = .returned (.tuple #[.slice A zs.length c, .bool true])) ∧ (finAll zs = false → e = .returned (.tuple #[.slice none 0 0, .bool false])) ∧ ∃ n, w' = w.drewN n := by
  have HR := Lib.hid (specFins A c zs w Z hr hn)
  clear hr
  cases h : finAll zs
  · have H := Lib.hid h
    clear h
    go_enter Try.func38, Try.ntmps38
    go_wp2_with (go_at_call 68; refine HR.out.mono ?_; rintro e w' ⟨rfl, n, rfl⟩; rw [H.out])
    go_ret2
    exact ⟨(fun h => by cases h), (fun _ => rfl), _, rfl⟩
  · have H := Lib.hid h
    clear h
    go_enter Try.func38, Try.ntmps38
    go_wp2_with (go_at_call 68; refine HR.out.mono ?_; rintro e w' ⟨rfl, n, rfl⟩; rw [H.out])
    go_ret2
    exact ⟨(fun _ => rfl), (fun h => by cases h), _, rfl⟩

/-- finite and greater than nothing -/
def abvB (x : Nat) : Bool := finB .f32 x && (FloatKind.f32.format.order x 0 == some .gt)


end Go.Proofs.Ytnhcmloaanamnaa
