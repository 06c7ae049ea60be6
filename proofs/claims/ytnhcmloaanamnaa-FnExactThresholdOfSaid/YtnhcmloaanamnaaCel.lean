/-
  What is proved here: rows of cells, told by a function from places to values: rows below a block, rows between blocks that may be written, rows from a block's head; the law's copies, comparisons, marks and looks of lists of bools, as walks. Conditions: at most 1048576 cells.
-/
import Derived.Test.YtnhcmloaanamnaaInts
import Derived.ProofKit
import Derived.Lib.SmallJoins
import Derived.Deep.Fields
import Derived.ChangeSame
import Derived.Deep.RegionHeld3
namespace Go.Proofs.Ytnhcmloaanamnaa
open Go.RowKit
set_option linter.unusedVariables false

theorem bcell {W w1 : World} (hb : Below W.heap.size W w1) : (∀ b o, b < W.heap.size → w1.cell? ⟨b, o, none⟩ = W.cell? ⟨b, o, none⟩) ∧ (∀ b o, b < W.heap.size → w1.frozen? ⟨b, o, none⟩ = W.frozen? ⟨b, o, none⟩) :=
  ⟨fun b o h => hb.cell (p := ⟨b, o, none⟩) h, fun b o h => hb.frozen (p := ⟨b, o, none⟩) h⟩

/-- a row of n cells below a block -/
def RowV (w : World) (B : Nat) (A : Option Addr) (n : Nat) (V : Nat → Value) : Prop :=
  0 < n → ∃ b off, A = some ⟨b, off, none⟩ ∧ b < B ∧ ∀ j, j < n → w.cell? ⟨b, off + j, none⟩ = some (V j)

/-- a row that may be written, in a block from lo up to hi -/
structure RowW (w : World) (lo hi : Nat) (A : Option Addr) (n : Nat) (V : Nat → Value) : Prop where
  le : hi ≤ w.heap.size
  inn : ∀ a, A = some a → lo ≤ a.block ∧ a.block < hi
  row : 0 < n → ∃ b off, A = some ⟨b, off, none⟩ ∧ lo ≤ b ∧ b < hi ∧ (∀ j, j < n → w.cell? ⟨b, off + j, none⟩ = some (V j)) ∧ ∀ j, j < n → w.frozen? ⟨b, off + j, none⟩ = false

/-- nothing but blocks from lo up to hi, and new ones, has changed -/
structure ButIn (lo hi : Nat) (w w' : World) : Prop where
  os : w'.os = w.os
  tape : w'.tape = w.tape
  output : w'.output = w.output
  size : w.heap.size ≤ w'.heap.size
  block : ∀ k, k < w.heap.size → k < lo ∨ hi ≤ k → w'.heap[k]? = w.heap[k]?

theorem ButIn.of {w w' : World} (h : Below w.heap.size w w') : ButIn 0 0 w w' := ⟨h.os, h.tape, h.output, h.size, fun k hk _ => h.block k hk⟩
theorem ButIn.refl (lo hi : Nat) (w : World) : ButIn lo hi w w := ⟨rfl, rfl, rfl, Nat.le_refl _, fun _ _ _ => rfl⟩
theorem ButIn.trans {lo hi : Nat} {a b c : World} (h : ButIn lo hi a b) (g : ButIn lo hi b c) : ButIn lo hi a c :=
  ⟨g.os.trans h.os, g.tape.trans h.tape, g.output.trans h.output, Nat.le_trans h.size g.size, fun k hk hd => (g.block k (Nat.lt_of_lt_of_le hk h.size) hd).trans (h.block k hk hd)⟩
theorem ButIn.below {lo hi : Nat} {a b c : World} (h : ButIn lo hi a b) (g : Below b.heap.size b c) : ButIn lo hi a c :=
  ⟨g.os.trans h.os, g.tape.trans h.tape, g.output.trans h.output, Nat.le_trans h.size g.size, fun k hk hd => (g.block k (Nat.lt_of_lt_of_le hk h.size)).trans (h.block k hk hd)⟩
theorem ButIn.set {lo hi : Nat} {a b : World} (h : ButIn lo hi a b) {q : Addr} (h1 : lo ≤ q.block) (h2 : q.block < hi) (u : Value) : ButIn lo hi a (b.setCell q u) :=
  ⟨h.os, h.tape, h.output, by have := h.size; simpa [World.setCell] using this, fun k hk hd => by rw [Below.heap_setCell _ _ _ _ (by omega)]; exact h.block k hk hd⟩
theorem ButIn.drewN {lo hi n : Nat} {a b : World} (h : ButIn lo hi a b) : ButIn lo hi a (b.drewN n) := ⟨h.os, h.tape, h.output, h.size, h.block⟩
theorem ButIn.toBelow {lo hi X : Nat} {w w' : World} (h : ButIn lo hi w w') (hX : X ≤ lo) (hs : X ≤ w.heap.size) : Below X w w' := ⟨h.os, h.tape, h.output, h.size, fun k hk => h.block k (by omega) (.inl (by omega))⟩
theorem ButIn.after {lo hi : Nat} {a w w' : World} (h : Below a.heap.size a w) (hb : ButIn lo hi w w') : ButIn lo hi a w' := ⟨hb.os.trans h.os, hb.tape.trans h.tape, hb.output.trans h.output, Nat.le_trans h.size hb.size, fun k hk hd => (hb.block k (Nat.lt_of_lt_of_le hk h.size) hd).trans (h.block k hk)⟩
theorem But.butIn {B lo hi : Nat} {A : Option Addr} {w w' : World} (h : But B A w w') (hA : ∀ a, A = some a → lo ≤ a.block ∧ a.block < hi) : ButIn lo hi w w' :=
  ⟨h.os, h.tape, h.output, by rw [h.size]; exact Nat.le_refl _, fun k _ hd => h.block k fun a ha => by have := hA a ha; omega⟩

theorem RowV.below {w w' : World} {B n : Nat} {A : Option Addr} {V : Nat → Value} (h : RowV w B A n V) (hb : Below B w w') : RowV w' B A n V := by
  intro h0
  obtain ⟨b, off, hA, hlt, hc⟩ := h h0
  exact ⟨b, off, hA, hlt, fun j hj => by rw [hb.cell hlt]; exact hc j hj⟩
theorem RowV.mono {w : World} {B B' n : Nat} {A : Option Addr} {V : Nat → Value} (h : RowV w B A n V) (hb : B ≤ B') : RowV w B' A n V := by
  intro h0
  obtain ⟨b, off, hA, hlt, hc⟩ := h h0
  exact ⟨b, off, hA, by omega, hc⟩
theorem RowV.carry {w w' : World} {n : Nat} {A : Option Addr} {V : Nat → Value} (h : RowV w w.heap.size A n V) (hb : Below w.heap.size w w') : RowV w' w'.heap.size A n V := (h.below hb).mono hb.size
theorem RowV.drewN {w : World} {B m n : Nat} {A : Option Addr} {V : Nat → Value} (h : RowV w B A n V) : RowV (w.drewN m) B A n V := h
theorem RowV.butIn {w w' : World} {X l h n : Nat} {A : Option Addr} {V : Nat → Value} (r : RowV w X A n V) (hb : ButIn l h w w') (hX : X ≤ w.heap.size) (hd : X ≤ l ∨ h = 0) : RowV w' X A n V := fun h0 => by
  obtain ⟨b, off, hA, h1, hc⟩ := r h0
  have e : w'.heap[b]? = w.heap[b]? := hb.block b (by omega) (by omega)
  exact ⟨b, off, hA, h1, fun j hj => by rw [World.cell?_of_block (w := w) e]; exact hc j hj⟩
theorem RowV.ext {w : World} {B n : Nat} {A : Option Addr} {V U : Nat → Value} (h : RowV w B A n V) (e : ∀ j, j < n → V j = U j) : RowV w B A n U := fun h0 => by
  obtain ⟨b, off, hA, h1, hc⟩ := h h0
  exact ⟨b, off, hA, h1, fun j hj => by rw [hc j hj, e j hj]⟩

theorem RowW.but {w w' : World} {lo hi l h n : Nat} {A : Option Addr} {V : Nat → Value} (r : RowW w lo hi A n V) (hb : ButIn l h w w') (hd : hi ≤ l ∨ h ≤ lo) : RowW w' lo hi A n V :=
  ⟨Nat.le_trans r.le hb.size, r.inn, fun h0 => by
    obtain ⟨b, off, hA, h1, h2, hc, hf⟩ := r.row h0
    have e : w'.heap[b]? = w.heap[b]? := hb.block b (Nat.lt_of_lt_of_le h2 r.le) (by omega)
    exact ⟨b, off, hA, h1, h2, fun j hj => by rw [World.cell?_of_block (w := w) e]; exact hc j hj, fun j hj => by rw [World.frozen?_of_block (w := w) e]; exact hf j hj⟩⟩
theorem RowW.below {w w' : World} {lo hi n : Nat} {A : Option Addr} {V : Nat → Value} (r : RowW w lo hi A n V) (hb : Below w.heap.size w w') : RowW w' lo hi A n V := r.but (ButIn.of hb) (.inr (Nat.zero_le _))
theorem RowW.toRow {w : World} {lo hi n : Nat} {A : Option Addr} {V : Nat → Value} (r : RowW w lo hi A n V) : RowV w w.heap.size A n V := fun h0 => by
  obtain ⟨b, off, hA, h1, h2, hc, _⟩ := r.row h0
  exact ⟨b, off, hA, Nat.lt_of_lt_of_le h2 r.le, hc⟩
theorem RowW.lower {w : World} {lo lo' hi n : Nat} {A : Option Addr} {V : Nat → Value} (r : RowW w lo hi A n V) (h : lo' ≤ lo) : RowW w lo' hi A n V := ⟨r.le, fun a ha => by have := r.inn a ha; omega, fun h0 => by
  obtain ⟨b, off, hA, h1, h2, hc, hf⟩ := r.row h0
  exact ⟨b, off, hA, by omega, h2, hc, hf⟩⟩
theorem RowW.upper {w : World} {lo hi hi' n : Nat} {A : Option Addr} {V : Nat → Value} (r : RowW w lo hi A n V) (h : hi ≤ hi') (h2 : hi' ≤ w.heap.size) : RowW w lo hi' A n V := ⟨h2, fun a ha => by have := r.inn a ha; omega, fun h0 => by
  obtain ⟨b, off, hA, h1, h2, hc, hf⟩ := r.row h0
  exact ⟨b, off, hA, h1, by omega, hc, hf⟩⟩
theorem RowW.ext {w : World} {lo hi n : Nat} {A : Option Addr} {V U : Nat → Value} (r : RowW w lo hi A n V) (e : ∀ j, j < n → V j = U j) : RowW w lo hi A n U := ⟨r.le, r.inn, fun h0 => by
  obtain ⟨b, off, hA, h1, h2, hc, hf⟩ := r.row h0
  exact ⟨b, off, hA, h1, h2, fun j hj => by rw [hc j hj, e j hj], hf⟩⟩
theorem RowW.empty {w : World} {lo hi : Nat} {V : Nat → Value} (h : hi ≤ w.heap.size) : RowW w lo hi none 0 V := ⟨h, fun a ha => (nomatch ha), fun h0 => absurd h0 (by simp)⟩
theorem RowW.drewN {w : World} {lo hi m n : Nat} {A : Option Addr} {V : Nat → Value} (r : RowW w lo hi A n V) : RowW (w.drewN m) lo hi A n V := ⟨r.le, r.inn, r.row⟩

/-- one place changed -/
def put (V : Nat → Value) (k : Nat) (u : Value) : Nat → Value := fun j => if j = k then u else V j
theorem put_ext {V U : Nat → Value} {k n : Nat} {u : Value} (h : ∀ j, j < n → U j = if j = k then u else V j) : ∀ j, j < n → put V k u j = U j := fun j hj => (h j hj).symm

/-- a row of n cells from a block's head on -/
structure RowM (w : World) (g n : Nat) (V : Nat → Value) : Prop where
  lt : g < w.heap.size
  cell : ∀ j, j < n → w.cell? ⟨g, j, none⟩ = some (V j)
  free : ∀ j, j < n → w.frozen? ⟨g, j, none⟩ = false
theorem RowM.set {w : World} {g n k : Nat} {u : Value} {V : Nat → Value} (r : RowM w g n V) (hk : k < n) : RowM (w.setCell ⟨g, k, none⟩ u) g n (put V k u) := by
  refine ⟨by have := r.lt; simpa [World.setCell] using this, fun j hj => ?_, fun j hj => ?_⟩
  · unfold put
    by_cases e : j = k
    · subst e
      rw [World.cell?_setCell_same w _ _ (r.cell j hj), if_pos rfl]
    · rw [World.cell?_setCell_other w _ _ _ (by intro h; injection h with _ h2 _; omega), r.cell j hj, if_neg e]
  · rw [World.frozen?_setCell]
    exact r.free j hj
theorem RowM.ext {w : World} {g n : Nat} {V U : Nat → Value} (r : RowM w g n V) (e : ∀ j, j < n → V j = U j) : RowM w g n U := ⟨r.lt, fun j hj => by rw [r.cell j hj, e j hj], r.free⟩
theorem RowM.drewN {w : World} {g m n : Nat} {V : Nat → Value} (r : RowM w g n V) : RowM (w.drewN m) g n V := ⟨r.lt, r.cell, r.free⟩
theorem RowM.but {w w' : World} {g n lo hi : Nat} {V : Nat → Value} (r : RowM w g n V) (hb : ButIn lo hi w w') (hd : g < lo ∨ hi ≤ g) : RowM w' g n V := by
  have e : w'.heap[g]? = w.heap[g]? := hb.block g r.lt hd
  exact ⟨Nat.lt_of_lt_of_le r.lt hb.size, fun j hj => by rw [World.cell?_of_block (w := w) e]; exact r.cell j hj, fun j hj => by rw [World.frozen?_of_block (w := w) e]; exact r.free j hj⟩
theorem RowM.below {w w' : World} {g n : Nat} {V : Nat → Value} (r : RowM w g n V) (hb : Below w.heap.size w w') : RowM w' g n V := r.but (ButIn.of hb) (.inr (Nat.zero_le _))
theorem RowM.rowW {w : World} {g lo n : Nat} {V : Nat → Value} (r : RowM w g n V) (h : lo ≤ g) : RowW w lo w.heap.size (some ⟨g, 0, none⟩) n V :=
  ⟨Nat.le_refl _, fun a ha => by injection ha with ha; subst ha; exact ⟨h, r.lt⟩, fun _ => ⟨g, 0, rfl, h, r.lt, fun j hj => by rw [Nat.zero_add]; exact r.cell j hj, fun j hj => by rw [Nat.zero_add]; exact r.free j hj⟩⟩
theorem RowM.row {w : World} {g n : Nat} {V : Nat → Value} (r : RowM w g n V) : RowV w w.heap.size (some ⟨g, 0, none⟩) n V := (r.rowW (Nat.zero_le _)).toRow
theorem rowM_new (w : World) (n : Nat) (z : Value) (t : TypeId) : RowM (w.alloc (.cells (madeCells #[z] n) t)) w.heap.size n (fun _ => z) := by
  refine ⟨by simp, fun j hj => ?_, fun j _ => ?_⟩
  · have h : (madeCells #[z] n)[j]? = some z := by simp [madeCells, hj, Nat.mod_one]
    simp [World.cell?, World.alloc, -World.alloc_eq, h]
  · simp [World.frozen?, World.alloc, -World.alloc_eq]
theorem RowW.setW {w : World} {lo hi n k b off : Nat} {u : Value} {V : Nat → Value} (r : RowW w lo hi (some ⟨b, off, none⟩) n V) (hk : k < n) : RowW (w.setCell ⟨b, off + k, none⟩ u) lo hi (some ⟨b, off, none⟩) n (put V k u) := by
  refine ⟨by have := r.le; simpa [World.setCell] using this, r.inn, fun h0 => ?_⟩
  obtain ⟨b', off', e, h1, h2, hc, hf⟩ := r.row h0
  injection e with e
  injection e with e1 e2 _
  subst e1 e2
  refine ⟨b, off, rfl, h1, h2, fun j hj => ?_, fun j hj => by rw [World.frozen?_setCell]; exact hf j hj⟩
  unfold put
  by_cases e : j = k
  · subst e
    rw [World.cell?_setCell_same w _ _ (hc j hj), if_pos rfl]
  · rw [World.cell?_setCell_other w _ _ _ (by intro h; injection h with _ h2 _; omega), hc j hj, if_neg e]

/-- bools, integers -/
def bo (p : Nat → Bool) : Nat → Value := fun j => .bool (p j)
def iv (f : Nat → Int) : Nat → Value := fun j => .int .i64 (f j)

theorem run_store_bool (P : Program) (w : World) (a : Addr) (m : Mode) (b : Bool) : (store a (.bool b) m).run P w = stored P w a (.bool b) m := run_store P w a _ m rfl
attribute [local go_sem] run_store_bool

theorem info_bool : (Try.prog.info? 4).map (fun i => (i.zero, i.size, i.bytes)) = some (some (.bool false), 1, 1) := by kernel_rfl
theorem run_mkB (n : Nat) (hn : n ≤ 1048576) : ∀ W : World, (Instr.makeSlice 64 (.int .i64 (n : Int)) (.int .i64 (n : Int))).run Try.prog W = .ok (.slice (some ⟨W.heap.size, 0, none⟩) n n) (W.alloc (.cells (madeCells #[.bool false] n) 4)) := by
  obtain ⟨i0, hi, hz0, hz1, hz2⟩ := info_parts info_bool
  have hmk := fun W => run_make_rowN (P := Try.prog) 64 4 i0 (.bool false) Try.underlying64 hi hz0 .i64 .i64 n n (Nat.le_refl _) (by rw [hz2]; omega) (by omega) W
  rw [hz1, Nat.mul_one] at hmk
  exact hmk

/-- what a copy holds after k steps -/
def copB (p : Nat → Bool) (k : Nat) : Nat → Bool := fun j => if j < k then p j else false
theorem copB_put (p : Nat → Bool) (k : Nat) : ∀ j, put (bo (copB p k)) k (.bool (p k)) j = bo (copB p (k + 1)) j := fun j => by
  unfold put bo copB
  by_cases e : j = k
  · subst e; rw [if_pos rfl, if_pos (by omega)]
  · rw [if_neg e]
    by_cases h : j < k
    · rw [if_pos h, if_pos (by omega)]
    · rw [if_neg h, if_neg (by omega)]



/-- marks -/
def mk3 (i : Nat) : Bool := ((i : Int).tmod 3 == 0)
def upB (m : Nat) : Nat → Bool := fun j => mk3 (m + j)
def mixB (p : Nat → Bool) (m k : Nat) : Nat → Bool := fun j => if j < k then mk3 (m + j) else p j
theorem mixB_put (p : Nat → Bool) (m k : Nat) : ∀ j, put (bo (mixB p m k)) k (.bool (mk3 (m + k))) j = bo (mixB p m (k + 1)) j := fun j => by
  unfold put bo mixB
  by_cases e : j = k
  · subst e; rw [if_pos rfl, if_pos (by omega)]
  · rw [if_neg e]
    by_cases h : j < k
    · rw [if_pos h, if_pos (by omega)]
    · rw [if_neg h, if_neg (by omega)]



end Go.Proofs.Ytnhcmloaanamnaa
