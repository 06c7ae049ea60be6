/-
  What is proved here: two lines behind two variables, as they grow; the program's turtle amid its word, with them; how its state changes. Conditions: at most 256 points in each line.
-/
import Derived.Test.YthhimielelpcoaaTwc
import Derived.Test.YthhimielelpcoaaTws
import Derived.Test.YthhimielelpcoaaTri
namespace Go.Proofs.Ythhimielelpcoaa
open Flt Go.RowKit
set_option linter.unusedVariables false
set_option linter.unusedSimpArgs false

theorem GroC.al {w : World} {G c : Nat} {L : List (Nat × Nat)} {A : Option Addr} (h : GroC w G L A c) (o : Obj) : GroC (w.alloc o) G L A c := h.below ((Below.refl _ _).alloc (Nat.le_refl _) _)
/-- a row's block is the one before, or a new one -/
def NewB (A B : Option Addr) (n : Nat) : Prop := ∀ b, B = some b → (∃ a, A = some a ∧ a.block = b.block) ∨ n ≤ b.block
/-- two rows that grow: how far they have come from a world on -/
structure S2 (w W : World) (G : Nat) (A1 A2 B1 B2 : Option Addr) (d1 d2 : Nat) (M1 M2 : List (Nat × Nat)) : Prop where
  r1 : GroC W G M1 B1 d1
  r2 : GroC W G M2 B2 d2
  os : W.os = w.os
  tape : W.tape = w.tape
  output : W.output = w.output
  size : w.heap.size ≤ W.heap.size
  block : ∀ k, k < w.heap.size → (∀ a, A1 = some a → a.block ≠ k) → (∀ a, A2 = some a → a.block ≠ k) → W.heap[k]? = w.heap[k]?
  n1 : NewB A1 B1 w.heap.size
  n2 : NewB A2 B2 w.heap.size
  ap : ∀ a b, B1 = some a → B2 = some b → a.block ≠ b.block
theorem S2.al {w W : World} {G d1 d2 : Nat} {A1 A2 B1 B2 : Option Addr} {M1 M2 : List (Nat × Nat)} (h : S2 w W G A1 A2 B1 B2 d1 d2 M1 M2) (o : Obj) : S2 w (W.alloc o) G A1 A2 B1 B2 d1 d2 M1 M2 := by
  have b : Below W.heap.size W (W.alloc o) := (Below.refl _ _).alloc (Nat.le_refl _) _
  exact ⟨h.r1.below b, h.r2.below b, b.os.trans h.os, b.tape.trans h.tape, b.output.trans h.output, Nat.le_trans h.size b.size, fun k hk p1 p2 => (b.block k (Nat.lt_of_lt_of_le hk h.size)).trans (h.block k hk p1 p2), h.n1, h.n2, h.ap⟩
theorem NewB.step {A B : Option Addr} {n m g : Nat} (h : NewB A B n) (hm : n ≤ m) (p : (∃ b, B = some b ∧ b.block = g) ∨ m ≤ g) : NewB A (some ⟨g, 0, none⟩) n := by
  intro b hb
  injection hb with hb
  subst hb
  rcases p with ⟨b0, h0, e⟩ | p
  · rcases h b0 h0 with ⟨a, ha, e2⟩ | h2
    · exact .inl ⟨a, ha, e2.trans e⟩
    · exact .inr (by show n ≤ g; omega)
  · exact .inr (by show n ≤ g; omega)
theorem NewB.far {A B : Option Addr} {n k : Nat} (h : NewB A B n) (hk : k < n) (p : ∀ a, A = some a → a.block ≠ k) : ∀ a, B = some a → a.block ≠ k := fun b hb e => by
  rcases h b hb with ⟨a, ha, e2⟩ | h2
  · exact p a ha (e2.trans e)
  · omega
theorem S2.up1 {w W W' : World} {G d1 d2 g c : Nat} {A1 A2 B1 B2 : Option Addr} {M1 M2 L : List (Nat × Nat)} (h : S2 w W G A1 A2 B1 B2 d1 d2 M1 M2) (o : GroC W' G L (some ⟨g, 0, none⟩) c) (b : ButT B1 W W') (p : (∃ a, B1 = some a ∧ a.block = g) ∨ W.heap.size ≤ g) : S2 w W' G A1 A2 (some ⟨g, 0, none⟩) B2 c d2 L M2 :=
  ⟨o, h.r2.butT b fun a x ha hx => h.ap a x ha hx, b.os.trans h.os, b.tape.trans h.tape, b.output.trans h.output, Nat.le_trans h.size b.size,
    fun k hk p1 p2 => (b.block k (Nat.lt_of_lt_of_le hk h.size) (h.n1.far hk p1)).trans (h.block k hk p1 p2), h.n1.step h.size p, h.n2, fun a x ha hx => by
      injection ha with ha
      subst ha
      show g ≠ x.block
      rcases p with ⟨a0, h0, e⟩ | p
      · rw [← e]; exact h.ap a0 x h0 hx
      · have := (h.r2.lt x hx).2; omega⟩
theorem S2.up2 {w W W' : World} {G d1 d2 g c : Nat} {A1 A2 B1 B2 : Option Addr} {M1 M2 L : List (Nat × Nat)} (h : S2 w W G A1 A2 B1 B2 d1 d2 M1 M2) (o : GroC W' G L (some ⟨g, 0, none⟩) c) (b : ButT B2 W W') (p : (∃ a, B2 = some a ∧ a.block = g) ∨ W.heap.size ≤ g) : S2 w W' G A1 A2 B1 (some ⟨g, 0, none⟩) d1 c M1 L :=
  ⟨h.r1.butT b fun a x ha hx => (h.ap x a hx ha).symm, o, b.os.trans h.os, b.tape.trans h.tape, b.output.trans h.output, Nat.le_trans h.size b.size,
    fun k hk p1 p2 => (b.block k (Nat.lt_of_lt_of_le hk h.size) (h.n2.far hk p2)).trans (h.block k hk p1 p2), h.n1, h.n2.step h.size p, fun x a hx ha => by
      injection ha with ha
      subst ha
      show x.block ≠ g
      rcases p with ⟨a0, h0, e⟩ | p
      · rw [← e]; exact h.ap x a0 hx h0
      · have := (h.r1.lt x hx).2; omega⟩
/-- nothing but two lines, their variables, and what is new, has changed -/
structure ButM (b1 b2 : Nat) (A1 A2 : Option Addr) (w w' : World) : Prop where
  os : w'.os = w.os
  tape : w'.tape = w.tape
  output : w'.output = w.output
  size : w.heap.size ≤ w'.heap.size
  block : ∀ k, k < w.heap.size → k ≠ b1 → k ≠ b2 → (∀ a, A1 = some a → a.block ≠ k) → (∀ a, A2 = some a → a.block ≠ k) → w'.heap[k]? = w.heap[k]?
theorem Ln2.heap {w w' : World} {G b1 b2 c1 c2 : Nat} {L1 L2 : List (Nat × Nat)} {A1 A2 : Option Addr} (h : Ln2 w G b1 b2 L1 L2 A1 A2 c1 c2) (hs : w.heap.size ≤ w'.heap.size) (e1 : w'.heap[b1]? = w.heap[b1]?) (e2 : w'.heap[b2]? = w.heap[b2]?) (e3 : ∀ a, A1 = some a → w'.heap[a.block]? = w.heap[a.block]?) (e4 : ∀ a, A2 = some a → w'.heap[a.block]? = w.heap[a.block]?) : Ln2 w' G b1 b2 L1 L2 A1 A2 c1 c2 :=
  ⟨h.l1.heap hs e1 e3, h.l2.heap hs e2 e4, h.nb, h.n12, h.n21, h.na⟩
theorem Ln2.below {w w' : World} {G b1 b2 c1 c2 : Nat} {L1 L2 : List (Nat × Nat)} {A1 A2 : Option Addr} (h : Ln2 w G b1 b2 L1 L2 A1 A2 c1 c2) (hb : Below w.heap.size w w') : Ln2 w' G b1 b2 L1 L2 A1 A2 c1 c2 :=
  h.heap hb.size (hb.block _ h.l1.lt) (hb.block _ h.l2.lt) (fun a ha => hb.block _ (h.l1.own.lt a ha).2) (fun a ha => hb.block _ (h.l2.own.lt a ha).2)
theorem Ln2.start {w : World} {G b1 b2 c1 c2 : Nat} {L1 L2 : List (Nat × Nat)} {A1 A2 : Option Addr} (h : Ln2 w G b1 b2 L1 L2 A1 A2 c1 c2) : S2 w w.drew G A1 A2 A1 A2 c1 c2 L1 L2 :=
  ⟨h.l1.own.dr, h.l2.own.dr, rfl, rfl, rfl, Nat.le_refl _, fun _ _ _ _ => rfl, fun b hb => .inl ⟨b, hb, rfl⟩, fun b hb => .inl ⟨b, hb, rfl⟩, h.na⟩
/-- both are stored -/
theorem Ln2.put {w w6 : World} {G b1 b2 c1 c2 g k d1 d2 : Nat} {L1 L2 M1 M2 : List (Nat × Nat)} {A1 A2 : Option Addr} (h : Ln2 w G b1 b2 L1 L2 A1 A2 c1 c2) (q : S2 w w6 G A1 A2 (some ⟨g, 0, none⟩) (some ⟨k, 0, none⟩) d1 d2 M1 M2) :
    Ln2 ((w6.setCell ⟨b1, 0, none⟩ (.slice (some ⟨g, 0, none⟩) M1.length d1)).setCell ⟨b2, 0, none⟩ (.slice (some ⟨k, 0, none⟩) M2.length d2)) G b1 b2 M1 M2 (some ⟨g, 0, none⟩) (some ⟨k, 0, none⟩) d1 d2 ∧
    ButM b1 b2 A1 A2 w ((w6.setCell ⟨b1, 0, none⟩ (.slice (some ⟨g, 0, none⟩) M1.length d1)).setCell ⟨b2, 0, none⟩ (.slice (some ⟨k, 0, none⟩) M2.length d2)) := by
  have hg1 : g ≠ b1 := q.n1.far h.l1.lt h.l1.ne _ rfl
  have hg2 : g ≠ b2 := q.n1.far h.l2.lt h.n12 _ rfl
  have hk1 : k ≠ b1 := q.n2.far h.l1.lt h.n21 _ rfl
  have hk2 : k ≠ b2 := q.n2.far h.l2.lt h.l2.ne _ rfl
  have hnb := h.nb
  have e1 : w6.heap[b1]? = w.heap[b1]? := q.block _ h.l1.lt h.l1.ne h.n21
  have e2 : w6.heap[b2]? = w.heap[b2]? := q.block _ h.l2.lt h.n12 h.l2.ne
  have c1' := (World.cell?_of_block (a := ⟨b1, 0, none⟩) e1).trans h.l1.cell
  have c2' := (World.cell?_of_block (a := ⟨b2, 0, none⟩) e2).trans h.l2.cell
  have f1' := (World.frozen?_of_block (a := ⟨b1, 0, none⟩) e1).trans h.l1.free
  have f2' := (World.frozen?_of_block (a := ⟨b2, 0, none⟩) e2).trans h.l2.free
  have hb1 : b1 < w6.heap.size := Nat.lt_of_lt_of_le h.l1.lt q.size
  have hb2 : b2 < w6.heap.size := Nat.lt_of_lt_of_le h.l2.lt q.size
  have nn : (⟨b1, 0, none⟩ : Addr) ≠ ⟨b2, 0, none⟩ := by intro e; injection e with e _ _; exact hnb e
  have hblk : ∀ j (x y : Value), j ≠ b1 → j ≠ b2 → ((w6.setCell ⟨b1, 0, none⟩ x).setCell ⟨b2, 0, none⟩ y).heap[j]? = w6.heap[j]? := fun j x y h1 h2 => by
    rw [Below.heap_setCell _ _ _ _ (by exact h2), Below.heap_setCell _ _ _ _ (by exact h1)]
  refine ⟨⟨⟨?_, ?_, ?_, by simpa [World.setCell] using hb1, fun a ha => by injection ha with ha; subst ha; exact hg1⟩, ⟨?_, ?_, ?_, by simpa [World.setCell] using hb2, fun a ha => by injection ha with ha; subst ha; exact hk2⟩, hnb, fun a ha => by injection ha with ha; subst ha; exact hg2, fun a ha => by injection ha with ha; subst ha; exact hk1, q.ap⟩, ⟨q.os, q.tape, q.output, by have := q.size; simpa [World.setCell] using this, fun j hj n1 n2 p1 p2 => ?_⟩⟩
  · rw [World.cell?_setCell_other _ _ _ _ nn.symm, World.cell?_setCell_same _ _ _ c1']
  · rw [World.frozen?_setCell, World.frozen?_setCell]; exact f1'
  · exact q.r1.heap fun x hx => by injection hx with hx; subst hx; exact hblk _ _ _ hg1 hg2
  · rw [World.cell?_setCell_same _ _ _ (by rw [World.cell?_setCell_other _ _ _ _ nn]; exact c2')]
  · rw [World.frozen?_setCell, World.frozen?_setCell]; exact f2'
  · exact q.r2.heap fun x hx => by injection hx with hx; subst hx; exact hblk _ _ _ hk1 hk2
  · rw [hblk _ _ _ n1 n2]; exact q.block j hj p1 p2

/-- the turtle amid its word: its iterator at ip -/
structure DwT (s : ByteArray) (b1 b2 G X : Nat) (w0 wr : World) (ip : Nat) (L1 L2 : List (Nat × Nat)) (A1 A2 : Option Addr) (c1 c2 : Nat) (K : List TU) (SA : Option Addr) (sc q1 q2 zz : Nat) : Prop where
  it : wr.heap[X + 1]? = some (.stringIter s ip)
  ln : Ln2 wr G b1 b2 L1 L2 A1 A2 c1 c2
  st : GroT wr (X + 2) K SA sc
  lo1 : ∀ a, A1 = some a → a.block < X ∨ X + 2 ≤ a.block
  lo2 : ∀ a, A2 = some a → a.block < X ∨ X + 2 ≤ a.block
  ds1 : ∀ a b, SA = some a → A1 = some b → a.block ≠ b.block
  ds2 : ∀ a b, SA = some a → A2 = some b → a.block ≠ b.block
  v0 : wr.cell? ⟨X, 0, none⟩ = some (.complex .f32 q1 q2)
  v1 : wr.cell? ⟨X, 1, none⟩ = some (.float .f32 zz)
  f0 : wr.frozen? ⟨X, 0, none⟩ = false
  f1 : wr.frozen? ⟨X, 1, none⟩ = false
  bel : Below G w0 wr
  hb1 : b1 < X
  hb2 : b2 < X
  hg1 : G ≤ b1
  hg2 : G ≤ b2
  hLe : L1.length = L2.length
  hL2 : L2.length ≤ 256
  hK : K.length ≤ 4000
section
variable {s : ByteArray} {b1 b2 G X ip c1 c2 sc q1 q2 zz : Nat} {w0 wr w2 : World} {L1 L2 : List (Nat × Nat)} {A1 A2 SA : Option Addr} {K : List TU}
theorem DwT.sz (h : DwT s b1 b2 G X w0 wr ip L1 L2 A1 A2 c1 c2 K SA sc q1 q2 zz) : X + 1 < wr.heap.size := (Array.getElem?_eq_some_iff.1 h.it).1
/-- the iterator goes on -/
theorem DwT.next (h : DwT s b1 b2 G X w0 wr ip L1 L2 A1 A2 c1 c2 K SA sc q1 q2 zz) (ip' : Nat) : DwT s b1 b2 G X w0 (wr.iterAt (X + 1) s ip') ip' L1 L2 A1 A2 c1 c2 K SA sc q1 q2 zz := by
  have ho : ∀ j, j ≠ X + 1 → (wr.iterAt (X + 1) s ip').heap[j]? = wr.heap[j]? := fun j hj => Lib.iterAt_other wr (X + 1) j s ip' hj
  have h1 := h.hb1
  have h2 := h.hb2
  exact ⟨Lib.iterAt_heap wr (X + 1) s ip ip' h.it, h.ln.heap (by rw [Lib.iterAt_size]; exact Nat.le_refl _) (ho _ (by omega)) (ho _ (by omega)) (fun a ha => ho _ (by have := h.lo1 a ha; omega)) (fun a ha => ho _ (by have := h.lo2 a ha; omega)), h.st.heap fun x hx => ho _ (by have := (h.st.lt x hx).1; omega), h.lo1, h.lo2, h.ds1, h.ds2,
    (World.cell?_of_block (a := ⟨X, 0, none⟩) (ho X (by omega))).trans h.v0, (World.cell?_of_block (a := ⟨X, 1, none⟩) (ho X (by omega))).trans h.v1, (World.frozen?_of_block (a := ⟨X, 0, none⟩) (ho X (by omega))).trans h.f0, (World.frozen?_of_block (a := ⟨X, 1, none⟩) (ho X (by omega))).trans h.f1,
    Lib.below_iterAt h.bel (by have := h.hg1; omega) s ip', h1, h2, h.hg1, h.hg2, h.hLe, h.hL2, h.hK⟩
/-- the turtle's own variable is written -/
theorem DwT.setV {q1' q2' zz' : Nat} (h : DwT s b1 b2 G X w0 wr ip L1 L2 A1 A2 c1 c2 K SA sc q1 q2 zz)
    (hb : ButIn X (X + 1) wr w2) (k0 : w2.cell? ⟨X, 0, none⟩ = some (.complex .f32 q1' q2')) (k1 : w2.cell? ⟨X, 1, none⟩ = some (.float .f32 zz')) (g0 : w2.frozen? ⟨X, 0, none⟩ = false) (g1 : w2.frozen? ⟨X, 1, none⟩ = false) : DwT s b1 b2 G X w0 w2 ip L1 L2 A1 A2 c1 c2 K SA sc q1' q2' zz' := by
  have hsz := h.sz
  have h1 := h.hb1
  have h2 := h.hb2
  exact ⟨(hb.block _ hsz (by omega)).trans h.it, h.ln.heap hb.size (hb.block _ h.ln.l1.lt (by omega)) (hb.block _ h.ln.l2.lt (by omega)) (fun a ha => hb.block _ (h.ln.l1.own.lt a ha).2 (by have := h.lo1 a ha; omega)) (fun a ha => hb.block _ (h.ln.l2.own.lt a ha).2 (by have := h.lo2 a ha; omega)), h.st.heap fun x hx => hb.block _ (h.st.lt x hx).2 (by have := (h.st.lt x hx).1; omega), h.lo1, h.lo2, h.ds1, h.ds2, k0, k1, g0, g1,
    h.bel.trans (hb.toBelow (by have := h.hg1; omega) (by have := h.hg1; omega)), h1, h2, h.hg1, h.hg2, h.hLe, h.hL2, h.hK⟩
/-- a turtle is remembered -/
theorem DwT.push {K' : List TU} {g c : Nat} (h : DwT s b1 b2 G X w0 wr ip L1 L2 A1 A2 c1 c2 K SA sc q1 q2 zz)
    (ho : GroT w2 (X + 2) K' (some ⟨g, 0, none⟩) c) (hb : ButT SA wr w2) (hp : (∃ b, SA = some b ∧ b.block = g) ∨ wr.heap.size ≤ g) (hk : K'.length ≤ 4000) : DwT s b1 b2 G X w0 w2 ip L1 L2 A1 A2 c1 c2 K' (some ⟨g, 0, none⟩) c q1 q2 zz := by
  have hsz := h.sz
  have h1 := h.hb1
  have h2 := h.hb2
  have hgx := h.hg1
  have hn : ∀ k, k < X + 2 → ∀ a, SA = some a → a.block ≠ k := fun k hk a ha => by have := (h.st.lt a ha).1; omega
  have hX : w2.heap[X]? = wr.heap[X]? := hb.block _ (by omega) (hn _ (by omega))
  have hds : ∀ (A : Option Addr), (∀ a b, SA = some a → A = some b → a.block ≠ b.block) → (∀ a, A = some a → a.block < wr.heap.size) → ∀ a b, (some ⟨g, 0, none⟩ : Option Addr) = some a → A = some b → a.block ≠ b.block := fun A hd hl a b ha hb => by
    injection ha with ha
    subst ha
    show g ≠ b.block
    rcases hp with ⟨x, hx, e⟩ | hp
    · rw [← e]; exact hd x b hx hb
    · have := hl b hb; omega
  exact ⟨(hb.block _ hsz (hn _ (by omega))).trans h.it, h.ln.heap hb.size (hb.block _ h.ln.l1.lt (hn _ (by omega))) (hb.block _ h.ln.l2.lt (hn _ (by omega))) (fun a ha => hb.block _ (h.ln.l1.own.lt a ha).2 (fun x hx => h.ds1 x a hx ha)) (fun a ha => hb.block _ (h.ln.l2.own.lt a ha).2 (fun x hx => h.ds2 x a hx ha)), ho, h.lo1, h.lo2,
    hds A1 h.ds1 (fun a ha => (h.ln.l1.own.lt a ha).2), hds A2 h.ds2 (fun a ha => (h.ln.l2.own.lt a ha).2),
    (World.cell?_of_block (a := ⟨X, 0, none⟩) hX).trans h.v0, (World.cell?_of_block (a := ⟨X, 1, none⟩) hX).trans h.v1, (World.frozen?_of_block (a := ⟨X, 0, none⟩) hX).trans h.f0, (World.frozen?_of_block (a := ⟨X, 1, none⟩) hX).trans h.f1,
    ButT.below h.bel hb (by omega) (fun a ha => by have := (h.st.lt a ha).1; omega), h1, h2, h.hg1, h.hg2, h.hLe, h.hL2, hk⟩
/-- a move is drawn -/
theorem DwT.line {M1 M2 : List (Nat × Nat)} {B1 B2 : Option Addr} {d1 d2 : Nat} (h : DwT s b1 b2 G X w0 wr ip L1 L2 A1 A2 c1 c2 K SA sc q1 q2 zz)
    (ho : Ln2 w2 G b1 b2 M1 M2 B1 B2 d1 d2) (hb : ButM b1 b2 A1 A2 wr w2) (p1 : NewB A1 B1 wr.heap.size) (p2 : NewB A2 B2 wr.heap.size) (hM1 : M1.length = M2.length) (hM2 : M2.length ≤ 256) : DwT s b1 b2 G X w0 w2 ip M1 M2 B1 B2 d1 d2 K SA sc q1 q2 zz := by
  have hsz := h.sz
  have h1 := h.hb1
  have h2 := h.hb2
  have hgx := h.hg1
  have hX : w2.heap[X]? = wr.heap[X]? := hb.block _ (by omega) (by omega) (by omega) (fun a ha => by have := h.lo1 a ha; omega) (fun a ha => by have := h.lo2 a ha; omega)
  exact ⟨(hb.block _ hsz (by omega) (by omega) (fun a ha => by have := h.lo1 a ha; omega) (fun a ha => by have := h.lo2 a ha; omega)).trans h.it, ho, h.st.heap fun x hx => hb.block _ (h.st.lt x hx).2 (by have := (h.st.lt x hx).1; omega) (by have := (h.st.lt x hx).1; omega) (fun a ha => (h.ds1 x a hx ha).symm) (fun a ha => (h.ds2 x a hx ha).symm),
    fun a ha => by
      rcases p1 a ha with ⟨a0, h0, e⟩ | h3
      · have := h.lo1 a0 h0; omega
      · omega,
    fun a ha => by
      rcases p2 a ha with ⟨a0, h0, e⟩ | h3
      · have := h.lo2 a0 h0; omega
      · omega,
    fun a b ha hb => by
      rcases p1 b hb with ⟨a0, h0, e⟩ | h3
      · rw [← e]; exact h.ds1 a a0 ha h0
      · have := (h.st.lt a ha).2; omega,
    fun a b ha hb => by
      rcases p2 b hb with ⟨a0, h0, e⟩ | h3
      · rw [← e]; exact h.ds2 a a0 ha h0
      · have := (h.st.lt a ha).2; omega,
    (World.cell?_of_block (a := ⟨X, 0, none⟩) hX).trans h.v0, (World.cell?_of_block (a := ⟨X, 1, none⟩) hX).trans h.v1, (World.frozen?_of_block (a := ⟨X, 0, none⟩) hX).trans h.f0, (World.frozen?_of_block (a := ⟨X, 1, none⟩) hX).trans h.f1,
    h.bel.trans ⟨hb.os, hb.tape, hb.output, hb.size, fun k hk => hb.block k (by omega) (by have := h.hg1; omega) (by have := h.hg2; omega) (fun a ha => by have := (h.ln.l1.own.lt a ha).1; omega) (fun a ha => by have := (h.ln.l2.own.lt a ha).1; omega)⟩, h1, h2, h.hg1, h.hg2, hM1, hM2, h.hK⟩
theorem DwT.far (h : DwT s b1 b2 G X w0 wr ip L1 L2 A1 A2 c1 c2 K SA sc q1 q2 zz) (hb : ButM b1 b2 A1 A2 wr w2) : Below G wr w2 := by
  have h1 := h.hb1
  have h2 := h.hb2
  have h3 := h.hg1
  have h4 := h.hg2
  have h5 := h.sz
  exact ⟨hb.os, hb.tape, hb.output, hb.size, fun k hk => hb.block k (by omega) (by omega) (by omega) (fun a ha => by have := (h.ln.l1.own.lt a ha).1; omega) (fun a ha => by have := (h.ln.l2.own.lt a ha).1; omega)⟩
theorem DwT.dn {n : Nat} (h : DwT s b1 b2 G X w0 wr ip L1 L2 A1 A2 c1 c2 K SA sc q1 q2 zz) : DwT s b1 b2 G X w0 (wr.drewN n) ip L1 L2 A1 A2 c1 c2 K SA sc q1 q2 zz :=
  ⟨h.it, ⟨⟨h.ln.l1.cell, h.ln.l1.free, h.ln.l1.own.dn, h.ln.l1.lt, h.ln.l1.ne⟩, ⟨h.ln.l2.cell, h.ln.l2.free, h.ln.l2.own.dn, h.ln.l2.lt, h.ln.l2.ne⟩, h.ln.nb, h.ln.n12, h.ln.n21, h.ln.na⟩, h.st, h.lo1, h.lo2, h.ds1, h.ds2, h.v0, h.v1, h.f0, h.f1, belowN h.bel, h.hb1, h.hb2, h.hg1, h.hg2, h.hLe, h.hL2, h.hK⟩
/-- the last remembered turtle is taken -/
theorem DwT.pop {p : TU} (h : DwT s b1 b2 G X w0 wr ip L1 L2 A1 A2 c1 c2 (K ++ [p]) SA sc q1 q2 zz) : DwT s b1 b2 G X w0 wr ip L1 L2 A1 A2 c1 c2 K SA sc q1 q2 zz :=
  ⟨h.it, h.ln, h.st.pop, h.lo1, h.lo2, h.ds1, h.ds2, h.v0, h.v1, h.f0, h.f1, h.bel, h.hb1, h.hb2, h.hg1, h.hg2, h.hLe, h.hL2, by have := h.hK; rw [List.length_append] at this; omega⟩
end

def remT (p : TU) : Option Nat × OC := (can .f32 p.2.2, (can .f32 p.1, can .f32 p.2.1))
/-- what is told of the turtle -/
structure Tel (o : Option TwS) (L1 L2 : List (Nat × Nat)) (K : List TU) (q1 q2 zz : Nat) : Prop where
  is : o = some ⟨can .f32 zz, (can .f32 q1, can .f32 q2), K.map remT, L1.map canT, L2.map canT⟩
  fin : L2.all cfT = true
/-! what a letter makes of what is told -/
section
variable {PF : Option Nat → OC} {T S : Option Nat} {Lk : Nat} {o o' : Option TwS} {L1 L2 : List (Nat × Nat)} {K : List TU} {q1 q2 zz : Nat}
theorem Tel.turn {z' : Nat} (h : Tel o L1 L2 K q1 q2 zz) (e : o' = o.bind (twN PF T S Lk)) (n1 : Lk ≠ 93) (n2 : Lk ≠ 91) (n3 : movB Lk = false) (hz : can .f32 z' = trnO Lk (can .f32 zz) T) : Tel o' L1 L2 K q1 q2 z' := by
  refine ⟨?_, h.fin⟩
  rw [e, h.is]
  show twN PF T S Lk _ = _
  unfold twN
  rw [if_neg n1, if_neg n2, n3, if_neg (by decide), hz]
theorem Tel.push (h : Tel o L1 L2 K q1 q2 zz) (e : o' = o.bind (twN PF T S 91)) : Tel o' L1 L2 (K ++ [(q1, q2, zz)]) q1 q2 zz := by
  refine ⟨?_, h.fin⟩
  rw [e, h.is]
  show twN PF T S 91 _ = _
  unfold twN
  rw [if_neg (by decide), if_pos rfl, List.map_append]; rfl
theorem Tel.pop {p : TU} (h : Tel o L1 L2 (K ++ [p]) q1 q2 zz) (e : o' = o.bind (twN PF T S 93)) : Tel o' L1 L2 K p.1 p.2.1 p.2.2 := by
  refine ⟨?_, h.fin⟩
  rw [e, h.is]
  show twN PF T S 93 _ = _
  unfold twN
  rw [if_pos rfl]
  show ((K ++ [p]).map remT).getLast?.map _ = _
  rw [List.map_append, List.map_singleton, List.getLast?_concat]
  show some _ = _
  rw [List.dropLast_concat]; rfl
theorem Tel.popNo (h : Tel o L1 L2 [] q1 q2 zz) (e : o' = o.bind (twN PF T S 93)) : o' = none := by
  rw [e, h.is]; rfl
theorem Tel.move {g5 g6 : Nat} (h : Tel o L1 L2 K q1 q2 zz) (e : o' = o.bind (twN PF T S Lk)) (n1 : Lk ≠ 93) (n2 : Lk ≠ 91) (n3 : movB Lk = true) (h5 : can .f32 g5 = fwd (PF (can .f32 zz)).1 (can .f32 q1) S) (h6 : can .f32 g6 = fwd (PF (can .f32 zz)).2 (can .f32 q2) S) :
    o' = some ⟨can .f32 zz, (can .f32 g5, can .f32 g6), K.map remT, (L1 ++ [(q1, q2)]).map canT, (L2 ++ [(g5, g6)]).map canT⟩ := by
  rw [e, h.is]
  show twN PF T S Lk _ = _
  unfold twN
  rw [if_neg n1, if_neg n2, if_pos n3, List.map_append, List.map_append]
  show some (TwS.mk _ (fwd (PF (can .f32 zz)).1 (can .f32 q1) S, fwd (PF (can .f32 zz)).2 (can .f32 q2) S) _ _ (_ ++ [(fwd (PF (can .f32 zz)).1 (can .f32 q1) S, fwd (PF (can .f32 zz)).2 (can .f32 q2) S)])) = _
  rw [← h5, ← h6]; rfl
end
/-- what the turtle gives -/
def DwQ (PF : Option Nat → OC) (s : ByteArray) (T S : Option Nat) (b1 b2 G : Nat) (w0 : World) (e : Ending) (w' : World) : Prop :=
  ∃ bb, e = .returned (.bool bb) ∧ Hid (Below G w0 w') ∧ Hid (bb = twOk PF s T S) ∧ Hid (bb = true → ∃ L1 L2 A1 A2 c1 c2, Ln2 w' G b1 b2 L1 L2 A1 A2 c1 c2 ∧ L1 = twF PF s T S ∧ L2 = twT PF s T S)
theorem dwQ_no {PF : Option Nat → OC} {s : ByteArray} {T S : Option Nat} {b1 b2 G : Nat} {w0 w' : World} (hb : Below G w0 w') (h : twOk PF s T S = false) : DwQ PF s T S b1 b2 G w0 (.returned (.bool false)) w' :=
  ⟨false, rfl, hb, h.symm, fun h => by cases h⟩
theorem fin_told {L : List (Nat × Nat)} {M : List OC} (h : L.map canT = M) : M.all finC = L.all cfT := (told_fin h).symm
/-- at the word's end -/
theorem twOk_end {PF : Option Nat → OC} {s : ByteArray} {T S : Option Nat} {L1 L2 : List (Nat × Nat)} {K : List TU} {q1 q2 zz : Nat} (hw : wordB s 4000 = true) (hT : finO T = true) (hS : finO S = true) (h : Tel (twA PF s T S s.size) L1 L2 K q1 q2 zz) (hl : L2.length ≤ 256) :
    twOk PF s T S = ((K.length : Int) == 0) ∧ (K = [] → L1 = twF PF s T S ∧ L2 = twT PF s T S) := by
  have hf := twA_fin _ _ h.is
  have h2 : (L2.map canT).all finC = true := (fin_told rfl).trans h.fin
  have h1 : (L1.map canT).all finC = true := (hf h2).2.1
  have hok : twOk PF s T S = decide (K.map remT = []) := by
    unfold twOk
    rw [hw, hT, hS, h.is]
    show (true && true && true && (decide (K.map remT = []) && decide ((L2.map canT).length ≤ 256) && (L1.map canT).all finC && (L2.map canT).all finC)) = _
    rw [h1, h2, List.length_map, decide_eq_true hl]; simp
  refine ⟨?_, fun hK => ?_⟩
  · rw [hok]
    cases K with
    | nil => rfl
    | cons p K =>
      rw [decide_eq_false (by simp)]
      symm
      rw [beq_eq_false_iff_ne, List.length_cons]; omega
  · subst hK
    have hok2 : twOk PF s T S = true := hok.trans rfl
    constructor
    · unfold twF
      rw [if_pos hok2, h.is]
      exact told_word rfl ((fin_told rfl).symm.trans h1)
    · unfold twT
      rw [if_pos hok2, h.is]
      exact told_word rfl h.fin
/-- where the turtle ends without a line -/
theorem twOk_none {PF : Option Nat → OC} {s : ByteArray} {T S : Option Nat} {j : Nat} (hj : j ≤ s.size) (h : twA PF s T S j = none) : twOk PF s T S = false := by
  have h2 := twA_none h (s.size - j)
  rw [show j + (s.size - j) = s.size by omega] at h2
  unfold twOk
  rw [h2]; simp
theorem twOk_many {PF : Option Nat → OC} {s : ByteArray} {T S : Option Nat} {j : Nat} {z : TwS} (hj : j ≤ s.size) (h : twA PF s T S j = some z) (hz : 256 < z.to'.length ∨ z.to'.all finC = false) : twOk PF s T S = false := by
  unfold twOk
  cases h2 : twA PF s T S s.size with
  | none => simp
  | some z' =>
    obtain ⟨z1, M, e1, e2⟩ := twA_pre (j := j) (s.size - j) z' (by rw [show j + (s.size - j) = s.size by omega]; exact h2)
    rw [h] at e1
    injection e1 with e1
    subst e1
    show (wordB s 4000 && finO T && finO S && (decide (z'.rem = []) && decide (z'.to'.length ≤ 256) && z'.fro.all finC && z'.to'.all finC)) = false
    rcases hz with hz | hz
    · rw [decide_eq_false (show ¬ z'.to'.length ≤ 256 by rw [e2, List.length_append]; omega)]; simp
    · rw [show z'.to'.all finC = false by rw [e2, List.all_append, hz]; rfl]; simp
end Go.Proofs.Ythhimielelpcoaa
