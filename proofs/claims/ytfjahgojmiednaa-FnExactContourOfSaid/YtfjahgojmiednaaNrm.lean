/-
  What is proved here: NormSheet, of both packages, as walks. Conditions: at most 1048576 heights.
-/
import Derived.Test.YtfjahgojmiednaaGiv
import Derived.Test.YtfjahgojmiednaaDif
namespace Go.Proofs.Ytfjahgojmiednaa
open Flt Go.RowKit
attribute [local go_sem] run_store_float

/-- a height less the least one, divided by the difference -/
def normF (zs : List Nat) (l d : Nat) (j : Nat) : Option Nat := fop .quo .f32 (fop .sub .f32 (can .f32 (at0 zs j)) (can .f32 l)) (can .f32 d)
/-- a row that holds so many of what is told, as far as numbers go -/
def Told (f : Nat → Option Nat) (n k : Nat) (ws : List Nat) : Prop := ws.length = n ∧ ∀ j, j < k → can .f32 (at0 ws j) = f j
def toldY (f : Nat → Option Nat) (n : Nat) : List Nat := (List.range n).map fun j => (f j).getD 0
def toldB (f : Nat → Option Nat) (n : Nat) : Bool := (List.range n).all fun j => finO (f j)

theorem Told.step {f : Nat → Option Nat} {n k r : Nat} {ws : List Nat} (h : Told f n k ws) (hk : k < n) (hr : can .f32 r = f k) : Told f n (k + 1) (ws.set k r) := by
  refine ⟨by rw [List.length_set]; exact h.1, fun j hj => ?_⟩
  rw [at0_set (by rw [h.1]; omega)]
  by_cases e : j = k
  · rw [if_pos e, e]; exact hr
  · rw [if_neg e]; exact h.2 j (by omega)
theorem Told.fin {f : Nat → Option Nat} {n : Nat} {ws : List Nat} (h : Told f n n ws) : finAll ws = toldB f n := by
  cases e : toldB f n with
  | true =>
    refine finAll_yes fun j hj => ?_
    rw [h.1] at hj
    rw [← finO_can, h.2 j hj]
    exact List.all_eq_true.1 e j (List.mem_range.2 hj)
  | false =>
    unfold toldB at e
    rw [List.all_eq_false] at e
    obtain ⟨j, hj, hf⟩ := e
    rw [List.mem_range] at hj
    refine finAll_no (k := j) (by rw [h.1]; exact hj) ?_
    rw [← finO_can, h.2 j hj]
    simpa using hf
theorem Told.eq {f : Nat → Option Nat} {n : Nat} {ws : List Nat} (h : Told f n n ws) (hb : toldB f n = true) : ws = toldY f n := by
  apply List.ext_getElem (by rw [h.1]; simp [toldY])
  intro j h1 h2
  have hj : j < n := by rw [h.1] at h1; exact h1
  have hc := h.2 j hj
  have hf : finO (f j) = true := List.all_eq_true.1 hb j (List.mem_range.2 hj)
  have ea : at0 ws j = ws[j] := by simp [at0, List.getD, h1]
  simp only [toldY, List.getElem_map, List.getElem_range]
  cases hv : f j with
  | none => rw [hv] at hf; cases hf
  | some v =>
    rw [hv] at hc
    obtain ⟨_, e⟩ := can_eq_some hc
    rw [← ea, e]; rfl
theorem toldY_length (f : Nat → Option Nat) (n : Nat) : (toldY f n).length = n := by simp [toldY]

theorem shB_len {x y : Int} {zs ws : List Nat} (h : shB x y zs = true) (hl : ws.length = zs.length) : shB x y ws = finAll ws := by
  unfold shB at h ⊢
  simp only [Bool.and_eq_true] at h
  obtain ⟨h1, h2, h3, _⟩ := h
  rw [h1, h2, hl, h3]; rfl
theorem shB_fin {x y : Int} {zs : List Nat} (h : shB x y zs = true) : finAll zs = true := by
  unfold shB at h
  simp only [Bool.and_eq_true] at h
  exact h.2.2.2

theorem lo_fin {zs : List Nat} (h : finAll zs = true) (h0 : 0 < zs.length) : ∀ k, k ≤ zs.length → finB .f32 (loW zs k) = true ∧ finB .f32 (hiW zs k) = true := by
  intro k
  induction k with
  | zero => intro _; exact ⟨finAll_at h h0, finAll_at h h0⟩
  | succ k ih =>
    intro hk
    obtain ⟨a, b⟩ := ih (by omega)
    have hz := finAll_at h (j := k) (by omega)
    constructor
    · show finB .f32 (lessW _ _) = true
      unfold lessW; split <;> assumption
    · show finB .f32 (greatW _ _) = true
      unfold greatW; split <;> assumption

theorem RowIn.wide {w : World} {lo hi lo' hi' : Nat} {A : Option Addr} {zs : List Nat} (r : RowIn w lo hi A zs) (h1 : lo' ≤ lo) (h2 : hi ≤ hi') (h3 : hi' ≤ w.heap.size) : RowIn w lo' hi' A zs :=
  ⟨h3, fun a ha => by have := r.inn a ha; omega, fun h0 => by
    obtain ⟨b, off, hA, g1, g2, hc, hf⟩ := r.row h0
    exact ⟨b, off, hA, by omega, by omega, hc, hf⟩⟩
/-- three stores into a variable change nothing that lies lower -/
theorem store3 {w : World} {X Y : Nat} (h : X ≤ Y) (u0 u1 u2 : Value) : Below X w (((w.setCell ⟨Y, 0, none⟩ u0).setCell ⟨Y, 1, none⟩ u1).setCell ⟨Y, 2, none⟩ u2) := (((Below.refl _ _).setCell h _).setCell h _).setCell h _
def gY (b : Bool) (ys : List Nat) : List Nat := if b = true then ys else []
def gN (b : Bool) (v : Int) : Int := if b = true then v else 0
theorem tpost_no {B : Bool} {x y : Int} {ys : List Nat} {w w' : World} (hb : B = false) (h : Below w.heap.size w w') : TPost (gN B x) (gN B y) (gY B ys) B w (.returned (.tuple #[.agg #[.int .i64 0, .int .i64 0, .slice none 0 0], .bool false])) w' := by
  subst hb
  exact ⟨none, 0, rfl, RowIn.empty (Nat.le_refl _), h⟩
theorem tpost_yes {B : Bool} {x y : Int} {ys : List Nat} {n c : Nat} {A : Option Addr} {w w' : World} (hb : B = true) (hl : ys.length = n) (hr : RowIn w' w.heap.size w'.heap.size A ys) (h : Below w.heap.size w w') : TPost (gN B x) (gN B y) (gY B ys) B w (.returned (.tuple #[.agg #[.int .i64 x, .int .i64 y, .slice A n c], .bool true])) w' := by
  subst hb hl
  exact ⟨A, c, rfl, hr, h⟩
theorem RowIn.store3 {w : World} {lo Y : Nat} {A : Option Addr} {zs : List Nat} (r : RowIn w lo w.heap.size A zs) (hq : Y < lo) (u0 u1 u2 : Value) : RowIn (((w.setCell ⟨Y, 0, none⟩ u0).setCell ⟨Y, 1, none⟩ u1).setCell ⟨Y, 2, none⟩ u2) lo (((w.setCell ⟨Y, 0, none⟩ u0).setCell ⟨Y, 1, none⟩ u1).setCell ⟨Y, 2, none⟩ u2).heap.size A zs :=
  ((r.setLow (q := ⟨Y, 0, none⟩) hq u0).setLow (q := ⟨Y, 1, none⟩) hq u1).setLow (q := ⟨Y, 2, none⟩) hq u2
theorem RowF.at {w : World} {X b off k : Nat} {zs : List Nat} (h : RowF w X (some ⟨b, off, none⟩) zs) (hk : k < zs.length) : w.cell? ⟨b, off + k, none⟩ = some (.float .f32 (at0 zs k)) := by
  obtain ⟨b', off', e, _, hc⟩ := h (by omega)
  injection e with e
  injection e with e1 e2 _
  subst e1 e2
  exact hc k hk

/-- a fresh variable behind another one -/
theorem two_new (w : World) (x y : Int) (A : Option Addr) (n c : Nat) (t u : TypeId) : Two ((w.alloc (.cells #[.int .i64 x, .int .i64 y, .slice A n c] t)).alloc (.cells #[.int .i64 0, .int .i64 0, .slice none 0 0] u)) w.heap.size (w.heap.size + 1) x y A n c ((w.alloc (.cells #[.int .i64 x, .int .i64 y, .slice A n c] t)).alloc (.cells #[.int .i64 0, .int .i64 0, .slice none 0 0] u)) := by
  have e1 : (w.alloc (.cells #[.int .i64 x, .int .i64 y, .slice A n c] t)).heap.size = w.heap.size + 1 := by simp
  obtain ⟨d0, d1, d2, f0, f1, f2⟩ := fresh3 (w.alloc (.cells #[.int .i64 x, .int .i64 y, .slice A n c] t)) (.int .i64 0) (.int .i64 0) (.slice none 0 0) u
  rw [e1] at d0 d1 d2 f0 f1 f2
  have V := (varT_new w x y A n c t).below ((Below.refl _ _).alloc (Nat.le_refl _) (.cells #[.int .i64 0, .int .i64 0, .slice none 0 0] u))
  exact ⟨Nat.lt_succ_self _, by simp, Below.refl _ _, V.c0, V.c1, V.c2, rd_of d0, rd_of d1, rd_of d2, f0, f1, f2⟩
theorem Two.var {b w : World} {X Y n c : Nat} {x y : Int} {A : Option Addr} (h : Two b X Y x y A n c w) : VarT w X x y A n c := ⟨Nat.lt_trans h.xy h.yb, h.c0, h.c1, h.c2⟩
theorem run_f32 {op : BinOp} {x y r : Nat} (h : floatBits op .f32 x y = some r) : ∀ W, (binOp op 26 (.float .f32 x) (.float .f32 y)).run Try.prog W = .ok (.float .f32 r) W :=
  fun W => run_float_arith W op 26 .f32 _ _ _ h


end Go.Proofs.Ytfjahgojmiednaa
