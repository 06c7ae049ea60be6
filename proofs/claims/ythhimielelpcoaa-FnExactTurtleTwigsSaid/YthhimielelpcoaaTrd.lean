/-
  What is proved here: the program's turtle, as it draws a line of a word, as a walk. Conditions: a word, a turn and a step that are finite, a line behind a variable.
-/
import Derived.Test.YthhimielelpcoaaTrc
import Derived.Test.YthhimielelpcoaaTrs
import Derived.Lib.OthersKept
namespace Go.Proofs.Ythhimielelpcoaa
open Flt Go.RowKit
set_option linter.unusedVariables false
set_option linter.unusedSimpArgs false

theorem wLet_smallT {n : Nat} (h : wLet n = true) : n < 128 := by
  by_cases g : n < 128
  · exact g
  · rw [wLet_high (by omega)] at h; exact Bool.noConfusion h
theorem wordB_atT {t : ByteArray} {n k : Nat} (h : wordB t n = true) (hk : k < t.size) : (t[k]'hk).toNat < 128 := by
  unfold wordB at h
  simp at h
  exact wLet_smallT (h.2 ⟨k, hk⟩)
theorem nobB_pre {s : ByteArray} {k : Nat} (h : nobB s (k + 1) = true) : nobB s k = true ∧ brkB (ltr s k) = false := by
  refine ⟨?_, nobB_at h (Nat.lt_succ_self k)⟩
  unfold nobB at *
  rw [List.range_succ, List.all_append, Bool.and_eq_true] at h
  exact h.1
theorem nobB_le {s : ByteArray} {k : Nat} : ∀ d, nobB s (k + d) = true → nobB s k = true
  | 0, h => h
  | d + 1, h => nobB_le d (nobB_pre h).1
theorem tuA_all {PF : Option Nat → OC} {s : ByteArray} {T S : Option Nat} {j : Nat} : ∀ d, (tuA PF s T S (j + d)).2.2.all (fun p => finO p.1 && finO p.2) = true → (tuA PF s T S j).2.2.all (fun p => finO p.1 && finO p.2) = true
  | 0, h => h
  | d + 1, h => by
    refine tuA_all d ?_
    have h2 : (tuA PF s T S ((j + d) + 1)).2.2.all (fun p => finO p.1 && finO p.2) = true := h
    unfold tuA at h2
    split at h2
    · have h3 : ((tuA PF s T S (j + d)).2.2 ++ [_]).all _ = true := h2
      rw [List.all_append, Bool.and_eq_true] at h3
      exact h3.1
    · exact h2

/-- the turtle amid its word: its iterator at ip, the letters before pos done -/
structure DwS (tu : Nat → Option Nat × OC × List OC) (s : ByteArray) (bx G X : Nat) (w0 wr : World) (ip pos : Nat) (L : List (Nat × Nat)) (lg lc : Nat) (K : List TU) (SA : Option Addr) (sc q1 q2 zz : Nat) : Prop where
  it : wr.heap[X + 1]? = some (.stringIter s ip)
  ln : LnS wr G bx L lg lc
  st : GroT wr (X + 2) K SA sc
  lo : lg < X ∨ X + 2 ≤ lg
  ds : ∀ a, SA = some a → a.block ≠ lg
  v0 : wr.cell? ⟨X, 0, none⟩ = some (.complex .f32 q1 q2)
  v1 : wr.cell? ⟨X, 1, none⟩ = some (.float .f32 zz)
  f0 : wr.frozen? ⟨X, 0, none⟩ = false
  f1 : wr.frozen? ⟨X, 1, none⟩ = false
  bel : Below G w0 wr
  hb : bx < X
  hg : G ≤ bx
  hL : L.length ≤ 256
  hK : K.length ≤ 4000
  tell : nobB s pos = true → K = [] ∧ can .f32 zz = (tu pos).1 ∧ (can .f32 q1, can .f32 q2) = (tu pos).2.1 ∧ L.map canT = (tu pos).2.2 ∧ L.all cfT = true
theorem DwS.sz {tu : Nat → Option Nat × OC × List OC} {s : ByteArray} {bx G X ip pos lg lc sc q1 q2 zz : Nat} {w0 wr : World} {L : List (Nat × Nat)} {K : List TU} {SA : Option Addr} (h : DwS tu s bx G X w0 wr ip pos L lg lc K SA sc q1 q2 zz) : X + 1 < wr.heap.size := (Array.getElem?_eq_some_iff.1 h.it).1
/-- the iterator goes on -/
theorem DwS.next {tu : Nat → Option Nat × OC × List OC} {s : ByteArray} {bx G X ip pos lg lc sc q1 q2 zz : Nat} {w0 wr : World} {L : List (Nat × Nat)} {K : List TU} {SA : Option Addr} (h : DwS tu s bx G X w0 wr ip pos L lg lc K SA sc q1 q2 zz) (ip' : Nat) : DwS tu s bx G X w0 (wr.iterAt (X + 1) s ip') ip' pos L lg lc K SA sc q1 q2 zz := by
  have ho : ∀ j, j ≠ X + 1 → (wr.iterAt (X + 1) s ip').heap[j]? = wr.heap[j]? := fun j hj => Lib.iterAt_other wr (X + 1) j s ip' hj
  have hb := h.hb
  have hlo := h.lo
  exact ⟨Lib.iterAt_heap wr (X + 1) s ip ip' h.it, h.ln.heap (by rw [Lib.iterAt_size]; exact Nat.le_refl _) (ho _ (by omega)) (ho _ (by omega)), h.st.heap fun x hx => ho _ (by have := (h.st.lt x hx).1; omega), h.lo, h.ds,
    (World.cell?_of_block (a := ⟨X, 0, none⟩) (ho X (by omega))).trans h.v0, (World.cell?_of_block (a := ⟨X, 1, none⟩) (ho X (by omega))).trans h.v1, (World.frozen?_of_block (a := ⟨X, 0, none⟩) (ho X (by omega))).trans h.f0, (World.frozen?_of_block (a := ⟨X, 1, none⟩) (ho X (by omega))).trans h.f1,
    Lib.below_iterAt h.bel (by have := h.hg; omega) s ip', hb, h.hg, h.hL, h.hK, h.tell⟩
/-- the turtle's own variable is written -/
theorem DwS.setV {tu0 tu : Nat → Option Nat × OC × List OC} {s : ByteArray} {bx G X ip pos pos' lg lc sc q1 q2 zz q1' q2' zz' : Nat} {w0 wr w2 : World} {L : List (Nat × Nat)} {K : List TU} {SA : Option Addr} (h : DwS tu0 s bx G X w0 wr ip pos L lg lc K SA sc q1 q2 zz)
    (hb2 : ButIn X (X + 1) wr w2) (c0 : w2.cell? ⟨X, 0, none⟩ = some (.complex .f32 q1' q2')) (c1 : w2.cell? ⟨X, 1, none⟩ = some (.float .f32 zz')) (g0 : w2.frozen? ⟨X, 0, none⟩ = false) (g1 : w2.frozen? ⟨X, 1, none⟩ = false)
    (ht : nobB s pos' = true → K = [] ∧ can .f32 zz' = (tu pos').1 ∧ (can .f32 q1', can .f32 q2') = (tu pos').2.1 ∧ L.map canT = (tu pos').2.2 ∧ L.all cfT = true) : DwS tu s bx G X w0 w2 ip pos' L lg lc K SA sc q1' q2' zz' := by
  have hsz := h.sz
  have hlo := h.lo
  have hbx := h.hb
  have hlgl : lg < wr.heap.size := (h.ln.own.lt _ rfl).2
  exact ⟨(hb2.block _ hsz (by omega)).trans h.it, h.ln.heap hb2.size (hb2.block _ h.ln.lt (by omega)) (hb2.block _ hlgl (by omega)), h.st.heap fun x hx => hb2.block _ (h.st.lt x hx).2 (by have := (h.st.lt x hx).1; omega), h.lo, h.ds, c0, c1, g0, g1,
    h.bel.trans (hb2.toBelow (by have := h.hg; omega) (by have := h.hg; omega)), h.hb, h.hg, h.hL, h.hK, ht⟩
/-- a turtle is remembered -/
theorem DwS.push {tu : Nat → Option Nat × OC × List OC} {s : ByteArray} {bx G X ip pos pos' lg lc sc q1 q2 zz : Nat} {w0 wr w2 : World} {L : List (Nat × Nat)} {K K' : List TU} {SA : Option Addr} {g c : Nat} (h : DwS tu s bx G X w0 wr ip pos L lg lc K SA sc q1 q2 zz)
    (ho : GroT w2 (X + 2) K' (some ⟨g, 0, none⟩) c) (hb2 : ButT SA wr w2) (hp : (∃ b, SA = some b ∧ b.block = g) ∨ wr.heap.size ≤ g) (hk : K'.length ≤ 4000)
    (ht : nobB s pos' = true → K' = [] ∧ can .f32 zz = (tu pos').1 ∧ (can .f32 q1, can .f32 q2) = (tu pos').2.1 ∧ L.map canT = (tu pos').2.2 ∧ L.all cfT = true) : DwS tu s bx G X w0 w2 ip pos' L lg lc K' (some ⟨g, 0, none⟩) c q1 q2 zz := by
  have hsz := h.sz
  have hlo := h.lo
  have hbx := h.hb
  have hgx := h.hg
  have hlgl : lg < wr.heap.size := (h.ln.own.lt _ rfl).2
  have hn : ∀ k, k < X + 2 → ∀ a, SA = some a → a.block ≠ k := fun k hk a ha => by have := (h.st.lt a ha).1; omega
  have hX : w2.heap[X]? = wr.heap[X]? := hb2.block _ (by omega) (hn _ (by omega))
  exact ⟨(hb2.block _ hsz (hn _ (by omega))).trans h.it, h.ln.heap hb2.size (hb2.block _ h.ln.lt (hn _ (by omega))) (hb2.block _ hlgl h.ds), ho, h.lo, fun a ha => by
      injection ha with ha
      subst ha
      show g ≠ lg
      rcases hp with ⟨b, hb, e⟩ | hp
      · exact fun e2 => h.ds b hb (by omega)
      · omega,
    (World.cell?_of_block (a := ⟨X, 0, none⟩) hX).trans h.v0, (World.cell?_of_block (a := ⟨X, 1, none⟩) hX).trans h.v1, (World.frozen?_of_block (a := ⟨X, 0, none⟩) hX).trans h.f0, (World.frozen?_of_block (a := ⟨X, 1, none⟩) hX).trans h.f1,
    ButT.below h.bel hb2 (by omega) (fun a ha => by have := (h.st.lt a ha).1; omega), h.hb, h.hg, h.hL, hk, ht⟩
/-- a point is drawn -/
theorem DwS.line {tu0 tu : Nat → Option Nat × OC × List OC} {s : ByteArray} {bx G X ip pos pos' lg lc lg' lc' sc q1 q2 zz : Nat} {w0 wr w2 : World} {L L' : List (Nat × Nat)} {K : List TU} {SA : Option Addr} (h : DwS tu0 s bx G X w0 wr ip pos L lg lc K SA sc q1 q2 zz)
    (ho : LnS w2 G bx L' lg' lc') (hb2 : ButL bx lg wr w2) (hp : lg' = lg ∨ wr.heap.size ≤ lg') (hL : L'.length ≤ 256)
    (ht : nobB s pos' = true → K = [] ∧ can .f32 zz = (tu pos').1 ∧ (can .f32 q1, can .f32 q2) = (tu pos').2.1 ∧ L'.map canT = (tu pos').2.2 ∧ L'.all cfT = true) : DwS tu s bx G X w0 w2 ip pos' L' lg' lc' K SA sc q1 q2 zz := by
  have hsz := h.sz
  have hlo := h.lo
  have hbx := h.hb
  have hgx := h.hg
  have hX : w2.heap[X]? = wr.heap[X]? := hb2.block _ (by omega) (by omega) (by omega)
  have hlgG : G ≤ lg := (h.ln.own.lt _ rfl).1
  exact ⟨(hb2.block _ hsz (by omega) (by omega)).trans h.it, ho, h.st.heap fun x hx => hb2.block _ (h.st.lt x hx).2 (by have := (h.st.lt x hx).1; omega) (h.ds x hx), by omega, fun a ha => by
      rcases hp with rfl | hp
      · exact h.ds a ha
      · have := (h.st.lt a ha).2; omega,
    (World.cell?_of_block (a := ⟨X, 0, none⟩) hX).trans h.v0, (World.cell?_of_block (a := ⟨X, 1, none⟩) hX).trans h.v1, (World.frozen?_of_block (a := ⟨X, 0, none⟩) hX).trans h.f0, (World.frozen?_of_block (a := ⟨X, 1, none⟩) hX).trans h.f1,
    h.bel.trans ⟨hb2.os, hb2.tape, hb2.output, hb2.size, fun k hk => hb2.block k (by omega) (by omega) (by omega)⟩, h.hb, h.hg, hL, h.hK, ht⟩
theorem DwS.dn {tu : Nat → Option Nat × OC × List OC} {s : ByteArray} {bx G X ip pos lg lc sc q1 q2 zz n : Nat} {w0 wr : World} {L : List (Nat × Nat)} {K : List TU} {SA : Option Addr} (h : DwS tu s bx G X w0 wr ip pos L lg lc K SA sc q1 q2 zz) : DwS tu s bx G X w0 (wr.drewN n) ip pos L lg lc K SA sc q1 q2 zz :=
  ⟨h.it, ⟨h.ln.cell, h.ln.free, h.ln.own.dn, h.ln.lt, h.ln.ne⟩, h.st, h.lo, h.ds, h.v0, h.v1, h.f0, h.f1, belowN h.bel, h.hb, h.hg, h.hL, h.hK, h.tell⟩
/-- the last remembered turtle is taken, and the variable written -/
theorem DwS.pop {tu : Nat → Option Nat × OC × List OC} {s : ByteArray} {bx G X ip pos lg lc sc q1 q2 zz : Nat} {w0 wr : World} {L : List (Nat × Nat)} {K : List TU} {p : TU} {SA : Option Addr} (h : DwS tu s bx G X w0 wr ip pos L lg lc (K ++ [p]) SA sc q1 q2 zz) (hn : nobB s pos = true → K = []) :
    DwS tu s bx G X w0 wr ip pos L lg lc K SA sc q1 q2 zz :=
  ⟨h.it, h.ln, h.st.pop, h.lo, h.ds, h.v0, h.v1, h.f0, h.f1, h.bel, h.hb, h.hg, h.hL, by have := h.hK; rw [List.length_append] at this; omega, fun hb => by
    have := (h.tell hb).1
    exact absurd (congrArg List.length this) (by rw [List.length_append]; simp)⟩
/-- what the turtle gives -/
def DwP (PF : Option Nat → OC) (s : ByteArray) (T S : Option Nat) (bx G : Nat) (w0 : World) (e : Ending) (w' : World) : Prop :=
  ∃ bb, e = .returned (.bool bb) ∧ Hid (Below G w0 w') ∧ Hid (nobB s s.size = true → bb = tlOk PF s T S) ∧ Hid (bb = true → wordB s 4000 = true ∧ ∃ L lg lc, LnS w' G bx L lg lc ∧ (nobB s s.size = true → L.map canT = (tuA PF s T S s.size).2.2 ∧ L.all cfT = true))
theorem dwP_no {PF : Option Nat → OC} {s : ByteArray} {T S : Option Nat} {bx G : Nat} {w0 w' : World} (hb : Below G w0 w') (h : nobB s s.size = true → tlOk PF s T S = false) : DwP PF s T S bx G w0 (.returned (.bool false)) w' :=
  ⟨false, rfl, hb, fun h1 => (h h1).symm, fun h => by cases h⟩
end Go.Proofs.Ythhimielelpcoaa
