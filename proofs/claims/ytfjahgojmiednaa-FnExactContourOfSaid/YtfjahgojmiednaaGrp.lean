/-
  What is proved here: a row of pairs of places that grows one by one, from nothing, as steps of a walk. Conditions: at most 1048576 of them.
-/
import Derived.Test.YtfjahgojmiednaaPrs
import Derived.OwnWalk
import Derived.Deep.AppendLies
import Derived.Deep.RegionLaw
namespace Go.Proofs.Ytfjahgojmiednaa
open Flt Go.RowKit
set_option linter.unusedVariables false

/-- the cells of a pair -/
def pcA (W : Nat) (zs : List Nat) (p : Nat × Nat × Bool) : Array Value := #[.int .i64 ((p.1 % W : Nat) : Int), .int .i64 ((p.1 / W : Nat) : Int), .bool p.2.2, .float .f32 (at0 zs p.1), .float .f32 (at0 zs p.2.1)]
def pcL (W : Nat) (zs : List Nat) (L : List (Nat × Nat × Bool)) : List Value := L.flatMap fun p => (pcA W zs p).toList
theorem pcL_len (W : Nat) (zs : List Nat) (L : List (Nat × Nat × Bool)) : (pcL W zs L).length = L.length * 5 := by
  induction L with
  | nil => rfl
  | cons p L ih =>
    show ((pcA W zs p).toList ++ pcL W zs L).length = _
    rw [List.length_append, ih, List.length_cons]
    show 5 + _ = _
    omega
theorem pcL_snoc (W : Nat) (zs : List Nat) (L : List (Nat × Nat × Bool)) (p : Nat × Nat × Bool) : pcL W zs (L ++ [p]) = pcL W zs L ++ (pcA W zs p).toList := by
  unfold pcL
  rw [List.flatMap_append]
  simp
theorem pcL_at (W : Nat) (zs : List Nat) : ∀ (L : List (Nat × Nat × Bool)) (m r : Nat) (hm : m < L.length), r < 5 → (pcL W zs L)[m * 5 + r]? = (pcA W zs L[m])[r]? := by
  intro L
  induction L with
  | nil => intro m r hm _; exact absurd hm (by simp)
  | cons p L ih =>
    intro m r hm hr
    show ((pcA W zs p).toList ++ pcL W zs L)[m * 5 + r]? = _
    have h5 : (pcA W zs p).toList.length = 5 := rfl
    cases m with
    | zero =>
      rw [List.getElem?_append_left (by rw [h5]; omega), Nat.zero_mul, Nat.zero_add]
      simp
    | succ m =>
      rw [List.getElem?_append_right (by rw [h5]; omega), h5, show (m + 1) * 5 + r - 5 = m * 5 + r by omega]
      rw [ih m r (by simpa using hm) hr]
      simp

theorem info_pair : (Try.prog.info? 62).map (fun i => (i.zero, i.size, i.bytes)) = some (some (.agg #[.int .i64 0, .int .i64 0, .bool false, .float .f32 0, .float .f32 0]), 5, 32) := by kernel_rfl

/-- a row that the call owns, and that grows -/
def GroP (w : World) (G W : Nat) (zs : List Nat) (L : List (Nat × Nat × Bool)) (A : Option Addr) (c : Nat) : Prop := w.ownsRow G 62 5 (.slice A L.length c) L.length (pcL W zs L)
theorem GroP.nil (w : World) (G W : Nat) (zs : List Nat) : GroP w G W zs [] none 0 := World.ownsRow_nil _ _ _ _
theorem GroP.cases {w : World} {G W c : Nat} {zs : List Nat} {L : List (Nat × Nat × Bool)} {A : Option Addr} (h : GroP w G W zs L A c) : (A = none ∧ c = 0 ∧ L = []) ∨ ∃ g, A = some ⟨g, 0, none⟩ := by
  rcases h.2 with ⟨h1, _⟩ | ⟨g, cap, cur, h0, _⟩
  · injection h1 with e1 e2 e3
    exact .inl ⟨e1, e3, List.eq_nil_of_length_eq_zero e2⟩
  · injection h0 with e1 e2 e3
    exact .inr ⟨g, e1⟩
theorem GroP.below {w w' : World} {G W c : Nat} {zs : List Nat} {L : List (Nat × Nat × Bool)} {A : Option Addr} (o : GroP w G W zs L A c) (hb : Below w.heap.size w w') : GroP w' G W zs L A c := by
  refine ⟨o.1, ?_⟩
  rcases o.2 with h1 | ⟨g1, cap, cur, h0, h2, h3, h4⟩
  · exact .inl h1
  · refine .inr ⟨g1, cap, cur, h0, h2, ?_, h4⟩
    have hlt : g1 < w.heap.size := by
      rcases Nat.lt_or_ge g1 w.heap.size with h | h
      · exact h
      · rw [Array.getElem?_eq_none h] at h3; cases h3
    rw [hb.block _ hlt]; exact h3
theorem GroP.lt {w : World} {G W c : Nat} {zs : List Nat} {L : List (Nat × Nat × Bool)} {A : Option Addr} (h : GroP w G W zs L A c) : ∀ a, A = some a → G ≤ a.block ∧ a.block < w.heap.size := by
  rcases h.cases with ⟨rfl, _, _⟩ | ⟨g, rfl⟩
  · intro a ha; cases ha
  · intro a ha
    injection ha with ha
    subst ha
    exact World.ownsRow.lt h g rfl
/-- a row of pairs that is only read -/
def RowP (w : World) (B W : Nat) (zs : List Nat) (L : List (Nat × Nat × Bool)) (A : Option Addr) : Prop :=
  0 < L.length → ∃ g, A = some ⟨g, 0, none⟩ ∧ g < B ∧ ∀ m r, m < L.length → r < 5 → w.cell? ⟨g, m * 5 + r, none⟩ = (pcL W zs L)[m * 5 + r]?
theorem GroP.row {w : World} {G W c : Nat} {zs : List Nat} {L : List (Nat × Nat × Bool)} {A : Option Addr} (h : GroP w G W zs L A c) : RowP w w.heap.size W zs L A := fun h0 => by
  rcases h.cases with ⟨_, _, rfl⟩ | ⟨g, rfl⟩
  · simp at h0
  · exact ⟨g, rfl, (h.lt _ rfl).2, fun m r hm hr => World.ownsRow.cellAt h _ (by omega)⟩
theorem RowP.below {w w' : World} {B W : Nat} {zs : List Nat} {L : List (Nat × Nat × Bool)} {A : Option Addr} (h : RowP w B W zs L A) (hb : Below B w w') : RowP w' B W zs L A := fun h0 => by
  obtain ⟨g, e, hg, hc⟩ := h h0
  exact ⟨g, e, hg, fun m r hm hr => by rw [hb.cell (p := ⟨g, m * 5 + r, none⟩) hg]; exact hc m r hm hr⟩
theorem RowP.mono {w : World} {B B' W : Nat} {zs : List Nat} {L : List (Nat × Nat × Bool)} {A : Option Addr} (h : RowP w B W zs L A) (hb : B ≤ B') : RowP w B' W zs L A := fun h0 => by
  obtain ⟨g, e, hg, hc⟩ := h h0
  exact ⟨g, e, by omega, hc⟩
/-- the five cells of a pair -/
theorem RowP.at {w : World} {B W g m : Nat} {zs : List Nat} {L : List (Nat × Nat × Bool)} (h : RowP w B W zs L (some ⟨g, 0, none⟩)) (hm : m < L.length) :
    g < B ∧ w.cell? ⟨g, m * 5, none⟩ = some (.int .i64 ((L[m].1 % W : Nat) : Int)) ∧ w.cell? ⟨g, m * 5 + 1, none⟩ = some (.int .i64 ((L[m].1 / W : Nat) : Int)) ∧ w.cell? ⟨g, m * 5 + 2, none⟩ = some (.bool L[m].2.2) ∧ w.cell? ⟨g, m * 5 + 3, none⟩ = some (.float .f32 (at0 zs L[m].1)) ∧ w.cell? ⟨g, m * 5 + 4, none⟩ = some (.float .f32 (at0 zs L[m].2.1)) := by
  obtain ⟨g', e, hg, hc⟩ := h (by omega)
  injection e with e
  injection e with e1 _ _
  subst e1
  refine ⟨hg, ?_, ?_, ?_, ?_, ?_⟩
  · have := hc m 0 hm (by omega); rw [Nat.add_zero] at this; rw [this, show m * 5 = m * 5 + 0 from rfl, pcL_at W zs L m 0 hm (by omega)]; rfl
  · rw [hc m 1 hm (by omega), pcL_at W zs L m 1 hm (by omega)]; rfl
  · rw [hc m 2 hm (by omega), pcL_at W zs L m 2 hm (by omega)]; rfl
  · rw [hc m 3 hm (by omega), pcL_at W zs L m 3 hm (by omega)]; rfl
  · rw [hc m 4 hm (by omega), pcL_at W zs L m 4 hm (by omega)]; rfl

theorem grownAtP {w0 w w' : World} {G : Nat} {o : Option Nat} (hb : Below w0.heap.size w0 w) (h : w.grownBy w' o) (hG : G ≤ w0.heap.size) (ho : ∀ k, o = some k → G ≤ k) : Below G w0 w' :=
  ⟨h.os.trans hb.os, h.tape.trans hb.tape, h.output.trans hb.output, Nat.le_trans hb.size h.size, fun k hk => by
    rw [h.block k (by have := hb.size; omega) (by intro e; have := ho _ e.symm; omega)]
    exact hb.block k (by omega)⟩

/-- an append of one, as a step of a walk -/
theorem wpGroP {ops : Array Oper} {rest : List Oper} {o : Oper} {a : Act} {Q : Exit → Act → World → Prop} (hgd : o.guard = none) (s x : Operand)
    (ho : o.op = .call { callee := .builtin .append, args := #[s, x], argTypes := #[57, 57] })
    {w w0 : World} {G W c : Nat} {zs : List Nat} {p : Nat × Nat × Bool} {cs : Array Value} {L : List (Nat × Nat × Bool)} {A : Option Addr} (hO : GroP w0 G W zs L A c) (hcs : cs = pcA W zs p) (hw : w = w0.alloc (.cells cs 62)) (hs : a.eval s = .slice A L.length c) (hx : a.eval x = .slice (some ⟨w0.heap.size, 0, none⟩) 1 1) (hL : L.length ≤ 1048576) (hG : G ≤ w0.heap.size)
    (h : ∀ g' c' w', GroP w' G W zs (L ++ [p]) (some ⟨g', 0, none⟩) c' → Below G w0 w' → wpList Try.prog ops Q rest (a.put o.dst (.slice (some ⟨g', 0, none⟩) (L.length + 1) c')) w') :
    wpList Try.prog ops Q (o :: rest) a w := by
  subst hw hcs
  obtain ⟨i0, hi, hz0, hz1, hz2⟩ := info_parts info_pair
  have hal : GroP (w0.alloc (.cells (pcA W zs p) 62)) G W zs L A c := hO.below ((Below.refl _ _).alloc (Nat.le_refl _) _)
  refine wpList_append_lies _ hgd s x 57 ho G 62 i0 (.agg #[.int .i64 0, .int .i64 0, .bool false, .float .f32 0, .float .f32 0]) 5 32 Try.underlying57 hi hz0 hz1 hz2 rfl (by decide) _ L.length (pcL W zs L) hs hal ⟨w0.heap.size, 0, none⟩ 1 1 (pcA W zs p).toList hx rfl (World.ownsRow.cells (World.ownsRow_lit (base := G) (e := 62) (size := 5) w0 (pcA W zs p) 1 hG (by decide) rfl) rfl) (by intro u hu; simp [pcA] at hu; rcases hu with rfl | rfl | rfl | rfl | rfl <;> rfl) (by decide) (by unfold maxLen; omega) (by omega) (by simp; omega) _ rfl ?_
  intro g' cap w' h1 h2 h3 h4
  refine h g' cap w' ?_ ?_
  · unfold GroP
    rw [List.length_append, pcL_snoc]
    exact h1
  · refine grownAtP ((Below.refl _ _).alloc (Nat.le_refl _) _) h2 hG ?_
    rcases hO.cases with ⟨rfl, rfl, rfl⟩ | ⟨g, rfl⟩
    · intro k hk; cases hk
    · intro k hk
      injection hk with hk
      have := (hO.lt _ rfl).1
      have e : k = g := hk.symm
      omega

end Go.Proofs.Ytfjahgojmiednaa
