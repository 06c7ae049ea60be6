/-
  What is proved here: SlopeOfPowers, of both packages, as walks. Conditions: at most 1048576 numbers.
-/
import Derived.Test.YthhimielelpcoaaLgo
import Derived.Test.YthhimielelpcoaaSlw
import Derived.RegionTactic
namespace Go.Proofs.Ythhimielelpcoaa
open Flt Go.RowKit
attribute [local go_sem] run_store_float unary_negf
set_option linter.unusedVariables false

/-- the slope of what is told -/
def sloT (f g : Nat → Option Nat) (n : Nat) : Option Nat :=
  fop .quo .f32 (fop .sub .f32 (fop .mul .f32 (lenF n) (sumT (fun j => fop .mul .f32 (f j) (g j)) n)) (fop .mul .f32 (sumT f n) (sumT g n)))
    (fop .sub .f32 (fop .mul .f32 (lenF n) (sumT (fun j => fop .mul .f32 (f j) (f j)) n)) (fop .mul .f32 (sumT f n) (sumT f n)))
theorem slo_told {f g : Nat → Option Nat} {n : Nat} {xs ys : List Nat} (hx : Tl f n xs) (hy : Tl g n ys) : sloS xs ys = sloT f g n := by
  have e1 : sumT (selfF xs) n = sumT f n := sumT_ext fun j hj => hx.at' j hj
  have e2 : sumT (selfF ys) n = sumT g n := sumT_ext fun j hj => hy.at' j hj
  have e3 : sumT (mulF xs xs) n = sumT (fun j => fop .mul .f32 (f j) (f j)) n := sumT_ext fun j hj => by
    show fop .mul .f32 (can .f32 (at0 xs j)) (can .f32 (at0 xs j)) = _
    rw [hx.at' j hj]
  have e4 : sumT (mulF xs ys) n = sumT (fun j => fop .mul .f32 (f j) (g j)) n := sumT_ext fun j hj => by
    show fop .mul .f32 (can .f32 (at0 xs j)) (can .f32 (at0 ys j)) = _
    rw [hx.at' j hj, hy.at' j hj]
  unfold sloS sloE sloT
  rw [hx.len, e1, e2, e3, e4]

theorem RowH.other {w : World} {g : Nat} {ws : List Nat} (r : RowH w g ws) {q : Addr} (hq : q.block ≠ g) {u : Value} : RowH (w.setCell q u) g ws := by
  have e : (w.setCell q u).heap[g]? = w.heap[g]? := Below.heap_setCell _ _ _ _ (fun h => hq h.symm)
  exact ⟨by have := r.lt; simpa [World.setCell] using this, fun j hj => by rw [World.cell?_of_block (w := w) e]; exact r.cell j hj, fun j hj => by rw [World.frozen?_of_block (w := w) e]; exact r.free j hj⟩

theorem RowH.dr {w : World} {g : Nat} {ws : List Nat} (r : RowH w g ws) : RowH w.drew g ws := ⟨r.lt, r.cell, r.free⟩
theorem rowH_two (w : World) (n : Nat) : RowH ((w.alloc (.cells (madeCells #[.float .f32 0] n) 43)).alloc (.cells (madeCells #[.float .f32 0] n) 43)) (w.heap.size + 1) (List.replicate n 0) := by
  have h := rowH_new (w.alloc (.cells (madeCells #[.float .f32 0] n) 43)) n
  have e : (w.alloc (.cells (madeCells #[.float .f32 0] n) 43)).heap.size = w.heap.size + 1 := by simp
  rw [e] at h
  exact h
theorem pos_le {x : Nat} (hf : finB .f32 x = true) (h : posB x = false) : FloatKind.f32.format.order x 0 = some .lt ∨ FloatKind.f32.format.order x 0 = some .eq := by
  have hn : nanW .f32 x = false := nanW_of_le (Nat.le_of_lt (of_decide_eq_true hf))
  have h0 := ord0 hn
  unfold posB at h
  cases hs : side .f32 x <;> rw [hs] at h0 <;> rw [h0] at h ⊢
  · exact .inl rfl
  · exact .inr rfl
  · exact absurd h (by decide)

theorem cnt_ok : (List.range 64).all (fun k => abvB (floatOfInt .f32 ((k : Int) + 1))) = true := by kernel_rfl
theorem cnt_at {k : Nat} (h : k < 64) : abvB (floatOfInt .f32 ((k : Int) + 1)) = true := List.all_eq_true.1 cnt_ok k (List.mem_range.2 h)
/-- the logarithms of 1, 2, 3 and so on -/
def Cnts (G : Nat → Option Nat) : Prop := ∀ k : Nat, k < 64 → (∀ w, Calls Try.prog 70 #[.float .f32 (floatOfInt .f32 ((k : Int) + 1))] w (FPost .f32 (G k) w)) ∧ (∀ w, Calls Try.prog 185 #[.float .f32 (floatOfInt .f32 ((k : Int) + 1))] w (FPost .f32 (G k) w))
theorem cnts_any : ∃ G, Cnts G := by
  obtain ⟨G, hG⟩ := Go.Deep.choose_lt (α := Option Nat) (n := 64) (p := fun k c => (∀ w, Calls Try.prog 70 #[.float .f32 (floatOfInt .f32 ((k : Int) + 1))] w (FPost .f32 c w)) ∧ (∀ w, Calls Try.prog 185 #[.float .f32 (floatOfInt .f32 ((k : Int) + 1))] w (FPost .f32 c w))) fun k hk => by
    obtain ⟨c, h1, h2⟩ := lg_both _ (cnt_at hk)
    exact ⟨c, h1, h2⟩
  exact ⟨G, hG⟩


theorem rowF_at {w : World} {X b off k : Nat} {zs : List Nat} (h : RowF w X (some ⟨b, off, none⟩) zs) (hk : k < zs.length) : w.cell? ⟨b, off + k, none⟩ = some (.float .f32 (at0 zs k)) := by
  obtain ⟨b', off', e, _, hc⟩ := h (by omega)
  injection e with e
  injection e with e1 e2 _
  subst e1 e2
  exact hc k hk
theorem own_second (w : World) (n : Nat) : OwnA (((w.drewN n).alloc (.cells #[] 43)).alloc (.cells #[] 43)) w.heap.size [] (w.heap.size + 1) 0 := by
  have e : ((w.drewN n).alloc (.cells #[] 43)).heap.size = w.heap.size + 1 := by simp [World.drewN]
  have h : OwnA (((w.drewN n).alloc (.cells #[] 43)).alloc (.cells #[] 43)) w.heap.size [] ((w.drewN n).alloc (.cells #[] 43)).heap.size 0 := World.ownsRow_lit _ #[] 0 (by rw [e]; omega) (by decide) rfl
  rwa [e] at h
/-- an append to what is owned; where the row lies then -/
theorem wpApp2 {ops : Array Oper} {rest : List Oper} {o : Oper} {a : Act} {Q : Exit → Act → World → Prop} (hgd : o.guard = none) (s x : Operand)
    (ho : o.op = .call { callee := .builtin .append, args := #[s, x], argTypes := #[33, 33] })
    {w w0 : World} {G g c y : Nat} {L : List Nat} (hO : OwnA w0 G L g c) (hw : w = w0.alloc (.cells #[.float .f32 y] 43)) (hs : a.eval s = .slice (some ⟨g, 0, none⟩) L.length c) (hx : a.eval x = .slice (some ⟨w0.heap.size, 0, none⟩) 1 1) (hL : L.length ≤ 1048576) (hG : G ≤ w0.heap.size)
    (h : ∀ g' c' w', OwnA w' G (L ++ [y]) g' c' → ButIn g (g + 1) w0 w' → (g' = g ∨ w0.heap.size ≤ g') → wpList Try.prog ops Q rest (a.put o.dst (.slice (some ⟨g', 0, none⟩) (L.length + 1) c')) w') : wpList Try.prog ops Q (o :: rest) a w := by
  subst hw
  obtain ⟨i0, hi, hz0, hz1, hz2⟩ := info_parts info_f32k
  refine wpList_append_lies _ hgd s x 33 ho G 43 i0 (.float .f32 0) 1 4 Try.underlying33 hi hz0 hz1 hz2 rfl (by decide) _ L.length (L.map (Value.float .f32)) hs (World.ownsRow.alloc hO _) ⟨w0.heap.size, 0, none⟩ 1 1 [.float .f32 y] hx rfl (World.ownsRow.cells (World.ownsRow_lit (base := G) (e := 43) (size := 1) w0 #[.float .f32 y] 1 hG (by decide) rfl) rfl) (by intro u hu; rw [List.mem_singleton.1 hu]; rfl) (by decide) (by unfold maxLen; omega) (by omega) (by simp; omega) _ rfl ?_
  intro g' cap w' h1 h2 h3 h4
  have hb : Below w0.heap.size w0 (w0.alloc (.cells #[.float .f32 y] 43)) := (Below.refl _ _).alloc (Nat.le_refl _) _
  refine h g' cap w' ?_ ?_ ?_
  · unfold OwnA
    rw [List.length_append, List.map_append]
    exact h1
  · refine ⟨h2.os.trans hb.os, h2.tape.trans hb.tape, h2.output.trans hb.output, Nat.le_trans hb.size h2.size, fun k hk hd => ?_⟩
    rw [h2.block k (Nat.lt_of_lt_of_le hk hb.size) (by intro e; injection e with e; have e : k = g := e; omega)]
    exact hb.block k hk
  · rcases h3 with h3 | h3
    · left
      have h5 : some g = some g' := h3
      exact (Option.some.inj h5).symm
    · right
      rw [h3]
      exact hb.size


def slpC (F G : Nat → Option Nat) (n : Nat) : Option Nat := fneg .f32 (sloT G F n)
theorem fin_neg (c : Option Nat) : finO (fneg .f32 c) = finO c := by
  cases c with
  | none => rfl
  | some x =>
    show finB .f32 (Op.negFloat .f32 x) = finB .f32 x
    unfold finB
    rw [neg_mod]






end Go.Proofs.Ythhimielelpcoaa
