/-
  What is proved here: rows of shapes, told by a function; sizes, copies and comparisons of lists of shapes, as walks. Conditions: at most 1048576 shapes, bytes and cells.
-/
import Derived.Test.YteojpmnnpinpeaaShc
namespace Go.Proofs.Yteojpmnnpinpeaa
open Go.RowKit Go.ChangeShapes Go.WideShapes
set_option linter.unusedVariables false

/-- a shape, as it reads -/
structure Sh where
  name : ByteArray
  wide : Int
  high : Int
  len : Nat
  cell : Nat → Bool

/-- the four cells of a shape at a place; its row of bools lies below B -/
structure ShC (w : World) (B b o : Nat) (s : Sh) (Q : Option Addr) (c : Nat) : Prop where
  c0 : w.cell? ⟨b, o, none⟩ = some (.string s.name)
  c1 : w.cell? ⟨b, o + 1, none⟩ = some (.int .i64 s.wide)
  c2 : w.cell? ⟨b, o + 2, none⟩ = some (.int .i64 s.high)
  c3 : w.cell? ⟨b, o + 3, none⟩ = some (.slice Q s.len c)
  row : RowV w B Q s.len (bo s.cell)
  cap : s.len ≤ c
theorem ShC.below {w w' : World} {B b o : Nat} {s : Sh} {Q : Option Addr} {c : Nat} (h : ShC w B b o s Q c) (hb : Below B w w') (hlt : b < B) : ShC w' B b o s Q c :=
  ⟨by rw [hb.cell (p := ⟨b, o, none⟩) hlt]; exact h.c0, by rw [hb.cell (p := ⟨b, o + 1, none⟩) hlt]; exact h.c1, by rw [hb.cell (p := ⟨b, o + 2, none⟩) hlt]; exact h.c2, by rw [hb.cell (p := ⟨b, o + 3, none⟩) hlt]; exact h.c3, h.row.below hb, h.cap⟩

/-- a row of shapes below a block -/
def RowSh (w : World) (B : Nat) (A : Option Addr) (n : Nat) (f : Nat → Sh) : Prop :=
  0 < n → ∃ b off, A = some ⟨b, off, none⟩ ∧ b < B ∧ ∀ j, j < n → ∃ Q c, ShC w B b (off + j * 4) (f j) Q c
theorem RowSh.below {w w' : World} {B n : Nat} {A : Option Addr} {f : Nat → Sh} (h : RowSh w B A n f) (hb : Below B w w') : RowSh w' B A n f := fun h0 => by
  obtain ⟨b, off, hA, hlt, hc⟩ := h h0
  exact ⟨b, off, hA, hlt, fun j hj => by obtain ⟨Q, c, H⟩ := hc j hj; exact ⟨Q, c, H.below hb hlt⟩⟩
theorem RowSh.mono {w : World} {B B' n : Nat} {A : Option Addr} {f : Nat → Sh} (h : RowSh w B A n f) (hB : B ≤ B') : RowSh w B' A n f := fun h0 => by
  obtain ⟨b, off, hA, hlt, hc⟩ := h h0
  exact ⟨b, off, hA, by omega, fun j hj => by obtain ⟨Q, c, H⟩ := hc j hj; exact ⟨Q, c, ⟨H.c0, H.c1, H.c2, H.c3, H.row.mono hB, H.cap⟩⟩⟩
theorem RowSh.carry {w w' : World} {n : Nat} {A : Option Addr} {f : Nat → Sh} (h : RowSh w w.heap.size A n f) (hb : Below w.heap.size w w') : RowSh w' w'.heap.size A n f := (h.below hb).mono hb.size
theorem RowSh.at {w : World} {B n k : Nat} {A : Option Addr} {f : Nat → Sh} (h : RowSh w B A n f) (hk : k < n) : ∃ b off Q c, A = some ⟨b, off, none⟩ ∧ b < B ∧ ShC w B b (off + k * 4) (f k) Q c := by
  obtain ⟨b, off, hA, hlt, hc⟩ := h (by omega)
  obtain ⟨Q, c, H⟩ := hc k hk
  exact ⟨b, off, Q, c, hA, hlt, H⟩

/-- what is known of a size -/
def SzS (left n : Nat) (f : Nat → Sh) (r : Int) : Prop := (0 ≤ r → n ≤ left ∧ ∀ j, j < n → (f j).name.size ≤ left ∧ (f j).len ≤ left) ∧ -1 ≤ r ∧ r ≤ left

set_option maxHeartbeats 2000000 in
theorem szShaS_is (A : Option Addr) (n c : Nat) (f : Nat → Sh) (left : Nat) (w : World) (hr : RowSh w w.heap.size A n f) (hN : n ≤ 9223372036854775807) (hS : ∀ j, j < n → (f j).name.size ≤ 9223372036854775807 ∧ (f j).len ≤ 9223372036854775807) (hl : left ≤ 1048576) :
    Calls Try.prog 15 #[.slice A n c, .int .i64 left] w fun e w' => ∃ r : Int, e = .returned (.int .i64 r) ∧ Hid (SzS left n f r) ∧ Hid (Below w.heap.size w w') := by
  have HR := Lib.hid hr
  have HS := Lib.hid hS
  clear hr hS
  by_cases h1 : n ≤ left
  · go_enter Try.func15, Try.ntmps15
    go_wp2
    go_loopw [1, 5] (fun l i wr => ∃ k r : Nat, k ≤ n ∧ i = .int .i64 k ∧ l = .int .i64 r ∧ r + n ≤ left ∧ Hid (∀ j, j < k → (f j).name.size ≤ left ∧ (f j).len ≤ left) ∧ Hid (Below w.heap.size w wr)) (fun _ i _ => n - (intOf i).toNat)
    case atStart => exact ⟨0, left - n, Nat.zero_le _, rfl, by rw [Int.ofNat_sub h1], by omega, fun j h => absurd h (by omega), Below.refl _ _⟩
    case round =>
      obtain ⟨k, r, hk, rfl, rfl, hrl, hJ, hB⟩ := hrel
      by_cases hlt : k < n
      · obtain ⟨b, off, Q, c', rfl, hb, H0⟩ := HR.out.at hlt
        obtain ⟨hc0, hc1, hc2, hc3, hrow, _⟩ := H0.below hB.out hb
        have g := HS.out k hlt
        have C := szSha_is (f k).name (f k).wide (f k).high Q (f k).len c' r (by omega) g.1 g.2 wr
        by_cases h2 : (f k).name.size + (f k).len ≤ r
        · have HJ : Hid (∀ j, j < k + 1 → (f j).name.size ≤ left ∧ (f j).len ≤ left) := fun j hj => by
            by_cases e1 : j = k
            · rw [e1]; omega
            · exact hJ.out j (by omega)
          rw [show szS (f k).name (f k).len r = ((r - (f k).name.size - (f k).len : Nat) : Int) by unfold szS szN; rw [if_pos (by omega), if_pos (by omega)]; omega] at C
          generalize hq : r - (f k).name.size - (f k).len = q at *
          have hql : q + n ≤ left := by omega
          have HC := Lib.hid C
          clear C hJ hq h2 g H0 hrow
          go_wp2_with fail
          refine HC.out.mono ?_
          rintro e w' ⟨rfl, hb2⟩
          have HB : Hid (Below w.heap.size w w') := hB.out.trans (hb2.mono hB.out.size)
          clear hb2 hB
          go_wp2_with fail
          go_roundw
          case rel => exact ⟨k + 1, q, by omega, by go_num, rfl, hql, HJ, HB⟩
          case measure => simp [intOf]; omega
        · rw [show szS (f k).name (f k).len r = -1 by unfold szS szN; split; (rw [if_neg (by omega)]); rfl] at C
          have HC := Lib.hid C
          clear C hJ h2 g H0 hrow
          go_wp2_with fail
          refine HC.out.mono ?_
          rintro e w' ⟨rfl, hb2⟩
          have HB : Hid (Below w.heap.size w w') := hB.out.trans (hb2.mono hB.out.size)
          clear hb2 hB
          go_wp2_with fail
          go_ret
          exact ⟨-1, rfl, ⟨fun h => absurd h (by decide), by omega, by omega⟩, HB⟩
      · have HJ : Hid (SzS left n f r) := ⟨fun _ => ⟨by omega, fun j hj => hJ.out j (by omega)⟩, by omega, by omega⟩
        go_wp2
        go_ret
        exact ⟨r, rfl, HJ, hB⟩
  · go_enter Try.func15, Try.ntmps15
    go_wp2
    go_ret
    exact ⟨-1, rfl, ⟨fun h => absurd h (by decide), by omega, by omega⟩, Below.refl _ _⟩

theorem info_shape : (Try.prog.info? 103).map (fun i => (i.zero, i.size, i.bytes)) = some (some (.agg #[.string ByteArray.empty, .int .i64 0, .int .i64 0, .slice none 0 0]), 4, 56) := by kernel_rfl

/-- a block of shapes of its own; their rows of bools lie above it -/
structure OwnSh (w : World) (G n : Nat) (f : Nat → Sh) : Prop where
  lt : G < w.heap.size
  cell : ∀ j, j < n → ∃ Q c, (w.cell? ⟨G, j * 4, none⟩ = some (.string (f j).name) ∧ w.cell? ⟨G, j * 4 + 1, none⟩ = some (.int .i64 (f j).wide) ∧ w.cell? ⟨G, j * 4 + 2, none⟩ = some (.int .i64 (f j).high) ∧ w.cell? ⟨G, j * 4 + 3, none⟩ = some (.slice Q (f j).len c)) ∧ RowW w (G + 1) w.heap.size Q (f j).len (bo (f j).cell) ∧ (f j).len ≤ c
  free : ∀ o, w.frozen? ⟨G, o, none⟩ = false

def zeroSh : Sh := ⟨ByteArray.empty, 0, 0, 0, fun _ => false⟩

theorem ownSh_start (w : World) (n : Nat) (t : TypeId) : OwnSh (w.alloc (.cells (madeCells #[.string ByteArray.empty, .int .i64 0, .int .i64 0, .slice none 0 0] (n * 4)) t)) w.heap.size n (fun _ => zeroSh) := by
  have cl : ∀ j, j < n * 4 → (madeCells #[.string ByteArray.empty, .int .i64 0, .int .i64 0, .slice none 0 0] (n * 4))[j]? = #[(.string ByteArray.empty : Value), .int .i64 0, .int .i64 0, .slice none 0 0][j % 4]? := fun j hj => by
    have h4 : j % 4 = 0 ∨ j % 4 = 1 ∨ j % 4 = 2 ∨ j % 4 = 3 := by omega
    simp [madeCells, hj]
    rcases h4 with h | h | h | h <;> rw [h] <;> rfl
  have ce : ∀ j, j < n * 4 → (w.alloc (.cells (madeCells #[.string ByteArray.empty, .int .i64 0, .int .i64 0, .slice none 0 0] (n * 4)) t)).cell? ⟨w.heap.size, j, none⟩ = #[(.string ByteArray.empty : Value), .int .i64 0, .int .i64 0, .slice none 0 0][j % 4]? := fun j hj => by
    rw [← cl j hj]
    simp [World.cell?, World.alloc, -World.alloc_eq]
  refine ⟨by simp, fun j hj => ⟨none, 0, ⟨?_, ?_, ?_, ?_⟩, RowW.empty (Nat.le_refl _), Nat.le_refl _⟩, fun j => ?_⟩
  · rw [ce _ (by omega), show j * 4 % 4 = 0 by omega]; rfl
  · rw [ce _ (by omega), show (j * 4 + 1) % 4 = 1 by omega]; rfl
  · rw [ce _ (by omega), show (j * 4 + 2) % 4 = 2 by omega]; rfl
  · rw [ce _ (by omega), show (j * 4 + 3) % 4 = 3 by omega]; rfl
  · simp [World.frozen?, World.alloc, -World.alloc_eq]

theorem OwnSh.below {w w' : World} {G n : Nat} {f : Nat → Sh} (h : OwnSh w G n f) (hb : Below w.heap.size w w') : OwnSh w' G n f :=
  ⟨Nat.lt_of_lt_of_le h.lt hb.size, fun j hj => by
    obtain ⟨Q, c, ⟨h0, h1, h2, h3⟩, hr, hc⟩ := h.cell j hj
    exact ⟨Q, c, ⟨by rw [hb.cell (p := ⟨G, _, none⟩) h.lt]; exact h0, by rw [hb.cell (p := ⟨G, _, none⟩) h.lt]; exact h1, by rw [hb.cell (p := ⟨G, _, none⟩) h.lt]; exact h2, by rw [hb.cell (p := ⟨G, _, none⟩) h.lt]; exact h3⟩, (hr.below hb).upper hb.size (Nat.le_refl _), hc⟩,
   fun o => by rw [hb.frozen (p := ⟨G, o, none⟩) h.lt]; exact h.free o⟩

theorem OwnSh.step {w : World} {G n k : Nat} {f : Nat → Sh} {s : Sh} {Q : Option Addr} {c : Nat} (h : OwnSh w G n f) (hk : k < n) (hr : RowW w (G + 1) w.heap.size Q s.len (bo s.cell)) (hc : s.len ≤ c) {g : Nat → Sh} (hg : g = fun j => if j = k then s else f j) :
    OwnSh ((((w.setCell ⟨G, k * 4, none⟩ (.string s.name)).setCell ⟨G, k * 4 + 1, none⟩ (.int .i64 s.wide)).setCell ⟨G, k * 4 + 2, none⟩ (.int .i64 s.high)).setCell ⟨G, k * 4 + 3, none⟩ (.slice Q s.len c)) G n g := by
  subst hg
  obtain ⟨Q0, c0, ⟨k0, k1, k2, k3⟩, _, _⟩ := h.cell k hk
  have ne : ∀ a b : Nat, a ≠ b → (⟨G, a, none⟩ : Addr) ≠ ⟨G, b, none⟩ := fun a b h e => h (by injection e)
  have carry : ∀ {A : Option Addr} {m : Nat} {V : Nat → Value}, RowW w (G + 1) w.heap.size A m V → RowW ((((w.setCell ⟨G, k * 4, none⟩ (.string s.name)).setCell ⟨G, k * 4 + 1, none⟩ (.int .i64 s.wide)).setCell ⟨G, k * 4 + 2, none⟩ (.int .i64 s.high)).setCell ⟨G, k * 4 + 3, none⟩ (.slice Q s.len c)) (G + 1) ((((w.setCell ⟨G, k * 4, none⟩ (.string s.name)).setCell ⟨G, k * 4 + 1, none⟩ (.int .i64 s.wide)).setCell ⟨G, k * 4 + 2, none⟩ (.int .i64 s.high)).setCell ⟨G, k * 4 + 3, none⟩ (.slice Q s.len c)).heap.size A m V := fun r =>
    ((((r.other (q := ⟨G, k * 4, none⟩) (Nat.lt_succ_self _) _).other (q := ⟨G, k * 4 + 1, none⟩) (Nat.lt_succ_self _) _).other (q := ⟨G, k * 4 + 2, none⟩) (Nat.lt_succ_self _) _).other (q := ⟨G, k * 4 + 3, none⟩) (Nat.lt_succ_self _) _).top (by simp [World.setCell])
  refine ⟨by have := h.lt; simpa [World.setCell] using this, fun j hj => ?_, fun o => by rw [World.frozen?_setCell, World.frozen?_setCell, World.frozen?_setCell, World.frozen?_setCell]; exact h.free o⟩
  by_cases e : j = k
  · subst e
    rw [if_pos rfl]
    refine ⟨Q, c, ⟨?_, ?_, ?_, ?_⟩, carry hr, hc⟩
    · rw [World.cell?_setCell_other _ _ _ _ (ne _ _ (by omega)), World.cell?_setCell_other _ _ _ _ (ne _ _ (by omega)), World.cell?_setCell_other _ _ _ _ (ne _ _ (by omega)), World.cell?_setCell_same _ _ _ k0]
    · rw [World.cell?_setCell_other _ _ _ _ (ne _ _ (by omega)), World.cell?_setCell_other _ _ _ _ (ne _ _ (by omega))]
      exact World.cell?_setCell_same _ _ _ (by rw [World.cell?_setCell_other _ _ _ _ (ne _ _ (by omega))]; exact k1)
    · rw [World.cell?_setCell_other _ _ _ _ (ne _ _ (by omega))]
      exact World.cell?_setCell_same _ _ _ (by rw [World.cell?_setCell_other _ _ _ _ (ne _ _ (by omega)), World.cell?_setCell_other _ _ _ _ (ne _ _ (by omega))]; exact k2)
    · exact World.cell?_setCell_same _ _ _ (by rw [World.cell?_setCell_other _ _ _ _ (ne _ _ (by omega)), World.cell?_setCell_other _ _ _ _ (ne _ _ (by omega)), World.cell?_setCell_other _ _ _ _ (ne _ _ (by omega))]; exact k3)
  · rw [if_neg e]
    obtain ⟨Q1, c1, ⟨h0, h1, h2, h3⟩, hr1, hc1⟩ := h.cell j hj
    refine ⟨Q1, c1, ⟨?_, ?_, ?_, ?_⟩, carry hr1, hc1⟩
    all_goals
      rw [World.cell?_setCell_other _ _ _ _ (ne _ _ (by omega)), World.cell?_setCell_other _ _ _ _ (ne _ _ (by omega)), World.cell?_setCell_other _ _ _ _ (ne _ _ (by omega)), World.cell?_setCell_other _ _ _ _ (ne _ _ (by omega))]
      assumption

theorem OwnSh.ext {w : World} {G n : Nat} {f g : Nat → Sh} (h : OwnSh w G n f) (e : ∀ j, j < n → f j = g j) : OwnSh w G n g := ⟨h.lt, fun j hj => by rw [← e j hj]; exact h.cell j hj, h.free⟩
theorem OwnSh.row {w : World} {G n : Nat} {f : Nat → Sh} (h : OwnSh w G n f) : RowSh w w.heap.size (some ⟨G, 0, none⟩) n f := fun _ => by
  refine ⟨G, 0, rfl, h.lt, fun j hj => ?_⟩
  obtain ⟨Q, c, ⟨h0, h1, h2, h3⟩, hr, hc⟩ := h.cell j hj
  rw [Nat.zero_add]
  exact ⟨Q, c, h0, h1, h2, h3, hr.toRow, hc⟩

/-- what a copy holds after k steps -/
def copSh (f : Nat → Sh) (k : Nat) : Nat → Sh := fun j => if j < k then f j else zeroSh
theorem copSh_succ (f : Nat → Sh) (k : Nat) : copSh f (k + 1) = fun j => if j = k then f k else copSh f k j := by
  funext j
  unfold copSh
  by_cases e : j = k
  · subst e; rw [if_pos (by omega), if_pos rfl]
  · rw [if_neg e]
    by_cases h : j < k
    · rw [if_pos h, if_pos (by omega)]
    · rw [if_neg h, if_neg (by omega)]

set_option maxHeartbeats 4000000 in
theorem toShaS (A : Option Addr) (n c : Nat) (f : Nat → Sh) (w : World) (hr : RowSh w w.heap.size A n f) (hN : n ≤ 1048576) (hF : ∀ j, j < n → (f j).len ≤ 1048576) :
    Calls Try.prog 17 #[.slice A n c] w fun e w' => ∃ G, e = .returned (.slice (some ⟨G, 0, none⟩) n n) ∧ Hid (w.heap.size ≤ G) ∧ Hid (OwnSh w' G n f) ∧ Hid (Below w.heap.size w w') := by
  obtain ⟨i0, hi, hz0, hz1, hz2⟩ := info_parts info_shape
  have hmk := fun W => run_make_rowN (P := Try.prog) 25 103 i0 (.agg #[.string ByteArray.empty, .int .i64 0, .int .i64 0, .slice none 0 0]) Try.underlying25 hi hz0 .i64 .i64 n n (Nat.le_refl _) (by rw [hz2]; omega) (by omega) W
  rw [hz1] at hmk
  have HR := Lib.hid hr
  have HF := Lib.hid hF
  have C0 : Hid (OwnSh _ _ n (copSh f 0)) := (ownSh_start w n 103).ext fun j _ => by unfold copSh; rw [if_neg (by omega)]
  have B0 : Hid (Below w.heap.size w (w.alloc (.cells (madeCells #[.string ByteArray.empty, .int .i64 0, .int .i64 0, .slice none 0 0] (n * 4)) 103))) := (Below.refl _ _).alloc (Nat.le_refl _) _
  clear hr hF hi hz0 hz1 hz2
  go_enter Try.func17, Try.ntmps17
  go_wp2
  clear hmk
  generalize w.alloc (.cells (madeCells #[.string ByteArray.empty, .int .i64 0, .int .i64 0, .slice none 0 0] (n * 4)) 103) = w1 at *
  generalize hG : w.heap.size = G at *
  have HG := Lib.hid hG
  clear hG
  go_loopw [4] (fun i wr => ∃ k : Nat, k ≤ n ∧ i = .int .i64 k ∧ Hid (OwnSh wr G n (copSh f k)) ∧ Hid (Below G w wr)) (fun i _ => n - (intOf i).toNat)
  case atStart => exact ⟨0, Nat.zero_le _, rfl, C0, B0⟩
  case round =>
    obtain ⟨k, hk, rfl, hC, hB⟩ := hrel
    by_cases hlt : k < n
    · obtain ⟨b, off, Q, c', rfl, hb, H0⟩ := HR.out.at hlt
      obtain ⟨hc0, hc1, hc2, hc3, hrow, _⟩ := H0.below hB.out hb
      have HC := Lib.hid (toShaC (f k).name (f k).wide (f k).high Q (f k).len c' (f k).cell wr (hrow.mono (Nat.le_of_lt hC.out.lt)) (HF.out k hlt))
      clear H0 hrow
      go_wp2_with fail
      refine HC.out.mono ?_
      rintro e w' ⟨A', d, rfl, hd, hR, hb2⟩
      have hC2 := hC.out.below hb2.out
      obtain ⟨_, _, ⟨e0, e1, e2, e3⟩, _, _⟩ := hC2.cell k hlt
      have f0 := hC2.free (k * 4)
      have f1 := hC2.free (k * 4 + 1)
      have f2 := hC2.free (k * 4 + 2)
      have f3 := hC2.free (k * 4 + 3)
      have hb3 := hB.out.trans (hb2.out.mono (Nat.le_of_lt hC.out.lt))
      have S1 := Lib.hid (hC2.step (s := f k) (Q := A') (c := d) hlt (hR.out.lower hC.out.lt) hd (copSh_succ f k))
      have S2 : Hid (Below G w ((((w'.setCell ⟨G, k * 4, none⟩ (.string (f k).name)).setCell ⟨G, k * 4 + 1, none⟩ (.int .i64 (f k).wide)).setCell ⟨G, k * 4 + 2, none⟩ (.int .i64 (f k).high)).setCell ⟨G, k * 4 + 3, none⟩ (.slice A' (f k).len d))) := (((hb3.setCell (Nat.le_refl _) _).setCell (Nat.le_refl _) _).setCell (Nat.le_refl _) _).setCell (Nat.le_refl _) _
      clear hc0 hc1 hc2 hc3 hC hB hb2 hC2 hb3 hd hR HC
      go_wp2_with fail
      go_roundw
      case rel => exact ⟨k + 1, by omega, by go_num, S1, S2⟩
      case measure => simp [intOf]; omega
    · have he : k = n := by omega
      have HE := Lib.hid he
      clear he
      go_wp2
      go_ret
      refine ⟨G, rfl, by show _ ≤ _; rw [HG.out]; exact Nat.le_refl _, hC.out.ext fun j hj => by unfold copSh; rw [if_pos (by have := HE.out; omega)], by rw [HG.out]; exact hB⟩

set_option maxHeartbeats 4000000 in
theorem eqShaS (G1 G2 n c d : Nat) (f : Nat → Sh) (w : World) (hr : OwnSh w G1 n f) (hq : OwnSh w G2 n f) (hN : n ≤ 1048576) (hF : ∀ j, j < n → (f j).len ≤ 1048576) :
    Calls Try.prog 19 #[.slice (some ⟨G1, 0, none⟩) n c, .slice (some ⟨G2, 0, none⟩) n d] w fun e w' => e = .returned (.bool true) ∧ Hid (Below w.heap.size w w') := by
  have HR := Lib.hid hr
  have HQ := Lib.hid hq
  have HF := Lib.hid hF
  clear hr hq hF
  go_enter Try.func19, Try.ntmps19
  go_wp2
  go_loopw [5] (fun i wr => ∃ k : Nat, k ≤ n ∧ i = .int .i64 k ∧ Hid (Below w.heap.size w wr)) (fun i _ => n - (intOf i).toNat)
  case atStart => exact ⟨0, Nat.zero_le _, rfl, Below.refl _ _⟩
  case round =>
    obtain ⟨k, hk, rfl, hB⟩ := hrel
    by_cases hlt : k < n
    · obtain ⟨Q1, c1, ⟨a0, a1, a2, a3⟩, hR1, _⟩ := (HR.out.below hB.out).cell k hlt
      obtain ⟨Q2, c2, ⟨b0, b1, b2, b3⟩, hR2, _⟩ := (HQ.out.below hB.out).cell k hlt
      have HC : Hid (Calls Try.prog 74 #[.agg #[.string (f k).name, .int .i64 (f k).wide, .int .i64 (f k).high, .slice Q1 (f k).len c1], .agg #[.string (f k).name, .int .i64 (f k).wide, .int .i64 (f k).high, .slice Q2 (f k).len c2]] wr.drew fun e w' => e = .returned (.bool true) ∧ Hid (Below wr.drew.heap.size wr.drew w')) := eqSha _ _ _ _ _ _ _ _ _ _ _ _ _ wr.drew (hR1.below (Below.refl _ _).drew) (hR2.below (Below.refl _ _).drew) (HF.out k hlt)
      have hS := Lib.hid hB.out.size
      clear hR1 hR2
      go_wp2_with fail
      go_region_with (go_at_call 74; refine HC.out.mono ?_; rintro e w' ⟨rfl, hb3⟩)
      all_goals
        have HB : Hid (Below w.heap.size w w') := by refine hB.out.trans (Below.trans ?_ (hb3.out.mono hS.out)); exact ⟨rfl, rfl, rfl, Nat.le_refl _, fun _ _ => rfl⟩
        clear hb3 hB a0 a1 a2 a3 b0 b1 b2 b3 hS
        go_wp2_with fail
        go_roundw
        case rel => exact ⟨k + 1, by omega, by go_num, HB⟩
        case measure => simp [intOf]; omega
    · go_wp2
      go_ret
      exact ⟨rfl, hB⟩

/-- what is known of a list of shapes that came in -/
structure ListSh (w : World) (A : Option Addr) (n : Nat) (f : Nat → Sh) : Prop where
  row : RowSh w w.heap.size A n f
  small : n ≤ 9223372036854775807
  each : ∀ j, j < n → (f j).name.size ≤ 9223372036854775807 ∧ (f j).len ≤ 9223372036854775807

set_option maxRecDepth 1000000 in
theorem shape_cells {H : Type} {enc : TypeId × Value → H} {w : World} {spare : Nat → Bool} {held : Bool} {fuel : Nat} {cs : List Value} {x : DataW H × List MemPlace}
    (h : DataW.trod enc Try.prog w 0 spare held fuel 101 cs = some x) : ∃ (s : Sh) (Q : Option Addr) (c : Nat), cs = [.string s.name, .int .i64 s.wide, .int .i64 s.high, .slice Q s.len c] ∧ RowV w w.heap.size Q s.len (bo s.cell) ∧ s.len ≤ c ∧ s.name.size ≤ 9223372036854775807 ∧ s.len ≤ 9223372036854775807 := by
  obtain ⟨y0, y1, n, _, hlen, h0, h1⟩ := trod_struct2 Try.underlying101 h
  have e4 : Try.prog.cellsOf 101 = 4 := by kernel_rfl
  have k0 : Try.prog.cellsOf 9 = 1 := by kernel_rfl
  have k1 : Try.prog.cellsOf 30 = 3 := by kernel_rfl
  rw [e4] at hlen
  match cs, hlen with
  | [c0, c1, c2, c3], _ =>
    simp only [k0, k1, List.drop, List.take] at h0 h1
    obtain ⟨z0, z1, z2, m, _, _, t0, t1, t2⟩ := Go.Deep.trod_struct3 Try.underlying30 h1
    have k2 : Try.prog.cellsOf 2 = 1 := by kernel_rfl
    have k3 : Try.prog.cellsOf 28 = 1 := by kernel_rfl
    simp only [k2, k3, List.drop, List.take] at t0 t1 t2
    obtain ⟨s, hs, _, ss⟩ := DataW.trod_string Try.underlying9 h0
    obtain ⟨x, hx, _, wx⟩ := DataW.trod_int Try.underlying2 t0
    obtain ⟨y, hy, _, wy⟩ := DataW.trod_int Try.underlying2 t1
    simp only [List.cons.injEq, and_true] at hs hx hy
    subst hs hx hy
    have hsl : ∃ A n c, c3 = .slice A n c ∧ n ≤ c := by
      rcases Go.Deep.open_slice1 Try.underlying28 (by kernel_rfl) t2 with ⟨hcs, _⟩ | ⟨a, l, c, m, n, V, D, Pl, hcs, _, hl, _⟩
      · simp only [List.cons.injEq, and_true] at hcs
        exact ⟨_, _, _, hcs, Nat.le_refl _⟩
      · simp only [List.cons.injEq, and_true] at hcs
        exact ⟨_, _, _, hcs, hl⟩
    obtain ⟨A, n, c, rfl, hlc⟩ := hsl
    obtain ⟨zs, hrow, hsm⟩ := open_bls Try.underlying28 Try.underlying4 (by kernel_rfl) ⟨m, t2⟩
    exact ⟨⟨s, x, y, n, zs⟩, A, c, rfl, hrow, hlc, by unfold maxLen at ss; show s.size ≤ _; omega, hsm⟩

set_option maxRecDepth 1000000 in
theorem open_shapes {H : Type} {enc : TypeId × Value → H} {w : World} {spare : Nat → Bool} {held : Bool} {A : Option Addr} {len cap : Nat} {d : DataW H} {ps : List MemPlace}
    (h : DataW.Trod enc Try.prog w 0 spare held 22 (.slice A len cap) d ps) : ∃ f, ListSh w A len f := by
  obtain ⟨fuel, hf⟩ := h
  have e4 : Try.prog.cellsOf 101 = 4 := by kernel_rfl
  rcases Go.Deep.open_slice Try.underlying22 hf with ⟨hcs, _⟩ | ⟨a, l, c, m, n, D, Pl, hcs, _, hl, hm, hmm, _, hi⟩
  · simp [Value.cells] at hcs
    obtain ⟨rfl, rfl, rfl⟩ := hcs
    exact ⟨fun _ => zeroSh, fun h => absurd h (Nat.lt_irrefl _), by omega, fun j hj => absurd hj (Nat.not_lt_zero _)⟩
  · simp [Value.cells] at hcs
    obtain ⟨rfl, rfl, rfl⟩ := hcs
    have hlm : len ≤ m := by rw [hmm]; split <;> omega
    have each : ∀ i, ∃ x : Sh × Option Addr × Nat, i < len → (w.cell? (a.add (i * 4)) = some (.string x.1.name) ∧ w.cell? ((a.add (i * 4)).add 1) = some (.int .i64 x.1.wide) ∧ w.cell? ((a.add (i * 4)).add 2) = some (.int .i64 x.1.high) ∧ w.cell? ((a.add (i * 4)).add 3) = some (.slice x.2.1 x.1.len x.2.2)) ∧ RowV w w.heap.size x.2.1 x.1.len (bo x.1.cell) ∧ x.1.len ≤ x.2.2 ∧ x.1.name.size ≤ 9223372036854775807 ∧ x.1.len ≤ 9223372036854775807 := by
      intro i
      by_cases h : i < len
      · obtain ⟨cs', hc, ht⟩ := hi i (by omega)
        rw [e4] at hc
        obtain ⟨s, Q, c, rfl, hp⟩ := shape_cells ht
        obtain ⟨_, _, hat⟩ := World.cells?_some hc
        refine ⟨(s, Q, c), fun _ => ⟨⟨?_, hat 1 (by omega), hat 2 (by omega), hat 3 (by omega)⟩, hp⟩⟩
        have := hat 0 (by omega)
        rw [show (a.add (i * 4)).add 0 = a.add (i * 4) by rw [Go.Deep.add_add]; rfl] at this
        exact this
      · exact ⟨(zeroSh, none, 0), fun g => absurd g h⟩
    have hx := fun i (g : i < len) => Classical.choose_spec (each i) g
    refine ⟨fun i => (Classical.choose (each i)).1, fun h0 => ?_, by unfold maxLen at hm; omega, fun j hj => (hx j hj).2.2.2⟩
    obtain ⟨b, off, spot⟩ := a
    have hspot : spot = none := by
      have := (hx 0 (by omega)).1.1
      simpa [Addr.add] using World.cell?_spot this
    subst hspot
    refine ⟨b, off, rfl, ?_, fun j hj => ?_⟩
    · have h1 := (hx 0 (by omega)).1.1
      rcases Nat.lt_or_ge b w.heap.size with hb | hb
      · exact hb
      · exfalso
        simp [World.cell?, Addr.add, Array.getElem?_eq_none hb] at h1
    · obtain ⟨⟨h0, h1, h2, h3⟩, hr, hc, _⟩ := hx j hj
      have e0 : (⟨b, off + j * 4, none⟩ : Addr) = (⟨b, off, none⟩ : Addr).add (j * 4) := (Go.WideShapes.add_plain ..).symm
      have ek : ∀ k, (⟨b, off + j * 4 + k, none⟩ : Addr) = ((⟨b, off, none⟩ : Addr).add (j * 4)).add k := fun k => by rw [← e0]; exact (Go.WideShapes.add_plain ..).symm
      exact ⟨_, _, (congrArg w.cell? e0).trans h0, (congrArg w.cell? (ek 1)).trans h1, (congrArg w.cell? (ek 2)).trans h2, (congrArg w.cell? (ek 3)).trans h3, hr, hc⟩

end Go.Proofs.Yteojpmnnpinpeaa
