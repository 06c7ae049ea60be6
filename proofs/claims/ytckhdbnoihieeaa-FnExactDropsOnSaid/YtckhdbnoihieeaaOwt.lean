/-
  What is proved here: a sheet of its own, as the model makes it, as a walk. Conditions: at least one height and at most 1048576.
-/
import Derived.Test.YtckhdbnoihieeaaCpy
namespace Go.Proofs.Ytckhdbnoihieeaa
open Flt Go.RowKit
attribute [local go_sem] run_store_float

theorem grown_below {w w' : World} {k L : Nat} (h : w.grownBy w' (some k)) (hL : L ≤ k) (hs : L ≤ w.heap.size) : Below L w w' :=
  ⟨h.os, h.tape, h.output, h.size, fun j hj => h.block j (by omega) (by intro e; injection e with e; omega)⟩
theorem Two.chg {b w w' : World} {X Y n c : Nat} {x y : Int} {A : Option Addr} (h : Two b X Y x y A n c w) (hb : Below (Y + 1) w w') : Two b X Y x y A n c w' := by
  have hX : X < Y + 1 := Nat.lt_succ_of_lt h.xy
  have hY : Y < Y + 1 := Nat.lt_succ_self Y
  refine ⟨h.xy, Nat.lt_of_lt_of_le h.yb hb.size, h.lo.trans (hb.mono (Nat.le_succ Y)), ?_, ?_, ?_, ?_, ?_, ?_, ?_, ?_, ?_⟩
  · rw [hb.cell (p := ⟨X, 0, none⟩) hX]; exact h.c0
  · rw [hb.cell (p := ⟨X, 1, none⟩) hX]; exact h.c1
  · rw [hb.cell (p := ⟨X, 2, none⟩) hX]; exact h.c2
  · exact rd_of ((hb.cell (p := ⟨Y, 0, none⟩) hY).trans h.d0)
  · exact rd_of ((hb.cell (p := ⟨Y, 1, none⟩) hY).trans h.d1)
  · exact rd_of ((hb.cell (p := ⟨Y, 2, none⟩) hY).trans h.d2)
  · rw [hb.frozen (p := ⟨Y, 0, none⟩) hY]; exact h.f0
  · rw [hb.frozen (p := ⟨Y, 1, none⟩) hY]; exact h.f1
  · rw [hb.frozen (p := ⟨Y, 2, none⟩) hY]; exact h.f2

set_option maxHeartbeats 8000000 in
set_option maxRecDepth 1000000 in
theorem own_is (v : Nat) (x y : Int) (A : Option Addr) (c : Nat) (zs : List Nat) (w : World) (V : VarT w v x y A zs.length c) (hr : RowF w w.heap.size A zs) (h0 : 0 < zs.length) (hn : zs.length ≤ 1048576) :
    Calls Try.prog 43 #[.pointer (some ⟨v, 0, none⟩)] w fun e w' => ∃ g c', e = .returned (.agg #[.int .i64 x, .int .i64 y, .slice (some ⟨g, 0, none⟩) zs.length c']) ∧ Hid (RowIn w' (w.heap.size + 1) w'.heap.size (some ⟨g, 0, none⟩) zs) ∧ Hid (Below w.heap.size w w') := by
  obtain ⟨i0, hi, hz0, hz1, hz2⟩ := info_parts info_f32c
  have HI := Lib.hid (And.intro hi (And.intro hz0 (And.intro hz1 hz2)))
  obtain ⟨b0, off, rfl, hbb, hc⟩ := hr h0
  have H0 := Lib.hid h0
  have M1 : Hid (0 + zs.length ≤ maxLen) := by show _ ≤ _; unfold maxLen; omega
  have M2 : Hid ((0 + zs.length) * 4 ≤ 140737488355328) := by show _ ≤ _; omega
  have B2 : Below w.heap.size w (w.alloc (.cells #[.int .i64 0, .int .i64 0, .slice none 0 0] 27)) := (Below.refl _ _).alloc (Nat.le_refl _) _
  obtain ⟨d0, d1, d2, f0, f1, f2⟩ := fresh3 w (.int .i64 0) (.int .i64 0) (.slice none 0 0) 27
  obtain ⟨c0, c1, c2⟩ := keepT (W := w) B2 V.c0 V.c1 V.c2 (show Hid (Below w.heap.size w w) from Below.refl _ _) V.lt
  have T0 : Two (w.alloc (.cells #[.int .i64 0, .int .i64 0, .slice none 0 0] 27)) v w.heap.size x y (some ⟨b0, off, none⟩) zs.length c (w.alloc (.cells #[.int .i64 0, .int .i64 0, .slice none 0 0] 27)) := ⟨V.lt, by simp, Below.refl _ _, c0, c1, c2, rd_of d0, rd_of d1, rd_of d2, f0, f1, f2⟩
  have T1 : Hid (Two (w.alloc (.cells #[.int .i64 0, .int .i64 0, .slice none 0 0] 27)) v w.heap.size x y (some ⟨b0, off, none⟩) zs.length c (w.alloc (.cells #[.int .i64 0, .int .i64 0, .slice none 0 0] 27)).drew) := T0.below (Below.refl _ _).drew
  have HN : Hid (∀ W, Below w.heap.size w W → ∀ j u, (zs.map (Value.float .f32))[j]? = some u → W.cell? ((⟨b0, off, none⟩ : Addr).add j) = some u) := fun W h => news_of hbb hc h
  have HB := Lib.hid B2
  have E2 : Hid (w.heap.size + 1 = (w.alloc (.cells #[.int .i64 0, .int .i64 0, .slice none 0 0] 27)).heap.size) := by show _ = _; simp
  have s0 := T0.d0
  have s1 := T0.d1
  have s2 := T0.d2
  clear hi hz0 hz1 hz2 hr hc hbb h0 V B2 d0 d1 d2 T0
  go_enter Try.func43, Try.ntmps43
  go_wp2_with fail
  generalize w.alloc (.cells #[.int .i64 0, .int .i64 0, .slice none 0 0] 27) = b at *
  generalize hX : w.heap.size = Y at *
  have HX := Lib.hid hX
  clear hX
  have OW : Hid (∀ W : World, Y + 1 ≤ W.heap.size → (W.alloc (.cells #[] 25)).ownsRow (Y + 1) 25 1 (.slice (some ⟨W.heap.size, 0, none⟩) 0 0) 0 []) := fun W h => World.ownsRow_lit W #[] 0 h (by decide) rfl
  go_region_held_law (fun w' => w'.cell? ⟨v, 0, none⟩ = some (.int .i64 x) ∧ w'.cell? ⟨v, 1, none⟩ = some (.int .i64 y) ∧ w'.cell? ⟨v, 2, none⟩ = some (.slice (some ⟨b0, off, none⟩) zs.length c) ∧ w'.cell? ⟨Y, 0, none⟩ = some (rd w' ⟨Y, 0, none⟩) ∧ w'.cell? ⟨Y, 1, none⟩ = some (rd w' ⟨Y, 1, none⟩) ∧ w'.cell? ⟨Y, 2, none⟩ = some (rd w' ⟨Y, 2, none⟩) ∧ w'.frozen? ⟨Y, 0, none⟩ = false ∧ w'.frozen? ⟨Y, 1, none⟩ = false ∧ w'.frozen? ⟨Y, 2, none⟩ = false ∧ Hid (Two b v Y x y (some ⟨b0, off, none⟩) zs.length c w')) (first | (exact ⟨by assumption, by assumption, by assumption, by assumption, by assumption, by assumption, by assumption, by assumption, by assumption, by assumption⟩) | (exact ((((Hid.out (‹Hid (Two b v Y x y (some ⟨b0, off, none⟩) zs.length c _)›)).set (.inl rfl) _).set (.inr (.inl rfl)) _).set (.inr (.inr rfl)) _).s) | (exact ((Hid.out (‹Hid (Two b v Y x y (some ⟨b0, off, none⟩) zs.length c _)›)).below ((Below.refl _ _).alloc (Nat.le_refl _) _)).s) | go_keep)
    ((refine step_append_lies _ rfl _ _ 22 rfl (Y + 1) 25 i0 (.float .f32 0) 1 4 Try.underlying22 HI.out.1 HI.out.2.1 HI.out.2.2.1 HI.out.2.2.2 rfl (by decide) _ 0 [] (by simp [Act.eval]) (OW.out _ T1.out.yb) ⟨b0, off, none⟩ zs.length c (zs.map (Value.float .f32)) (by simp [Act.eval]) (by simp) (HN.out _ (HB.out.trans ((T1.out.below ((Below.refl _ _).alloc (Nat.le_refl _) _)).lo))) map_one H0.out M1.out M2.out (Nat.le_trans (Nat.succ_le_of_lt T1.out.yb) (by simp)) _ rfl ?_; intro g cap w1 hown hgrow hat hlt; simp only [Nat.zero_add, List.nil_append] at hown; have RC := Lib.hid (owns_row hown); have KC := Lib.hid ((T1.out.below ((Below.refl _ _).alloc (Nat.le_refl _) _)).chg (grown_below (k := b.drew.heap.size) hgrow (Nat.succ_le_of_lt T1.out.yb) (Nat.le_trans (Nat.succ_le_of_lt T1.out.yb) (by simp)))); obtain ⟨p0, p1, p2, q0, q1, q2, r0, r1, r2, _⟩ := KC.out.s; clear hown hgrow hat hlt))
  rename_i hh
  clear hh
  have T3 := Lib.hid (((KC.out.set (.inl rfl) (.int .i64 x)).set (.inr (.inl rfl)) (.int .i64 y)).set (.inr (.inr rfl)) (.slice (some ⟨g, 0, none⟩) zs.length cap))
  have g3 : Hid (Y < Y + 1) := Nat.lt_succ_self Y
  clear KC T1 p0 p1 p2 c0 c1 c2 f0 f1 f2 s0 s1 s2 OW HN
  go_wp2_with fail
  refine bodyPost_ret (v := .agg #[.int .i64 x, .int .i64 y, .slice (some ⟨g, 0, none⟩) zs.length cap]) (by simp [results, Try.results43, go_sem, q0, q1, q2]) rfl ⟨g, cap, rfl, ?_, ?_⟩
  · rw [HX.out]
    exact ((RC.out.setLow g3.out _).setLow g3.out _).setLow g3.out _
  · rw [HX.out]
    exact HB.out.trans T3.out.lo

end Go.Proofs.Ytckhdbnoihieeaa
