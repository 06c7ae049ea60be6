/-
  What is proved here: rows of 32-bit numbers between blocks, what a mark leaves as it was, and the law's functions on sheets in these words. Conditions: at most 1048576 heights.
-/
import Derived.Test.YtnhcmloaanamnaaShv
namespace Go.Proofs.Ytnhcmloaanamnaa
open Flt Go.RowKit
attribute [local go_sem] run_store_float

/-- a row that may be written, in a block from lo up to hi -/
structure RowIn (w : World) (lo hi : Nat) (A : Option Addr) (zs : List Nat) : Prop where
  le : hi ≤ w.heap.size
  inn : ∀ a, A = some a → lo ≤ a.block ∧ a.block < hi
  row : 0 < zs.length → ∃ b off, A = some ⟨b, off, none⟩ ∧ lo ≤ b ∧ b < hi ∧ (∀ j, j < zs.length → w.cell? ⟨b, off + j, none⟩ = some (.float .f32 (at0 zs j))) ∧ ∀ j, j < zs.length → w.frozen? ⟨b, off + j, none⟩ = false

/-- nothing but blocks from lo up to hi, and new ones, has changed -/
structure ButIn (lo hi : Nat) (w w' : World) : Prop where
  os : w'.os = w.os
  tape : w'.tape = w.tape
  output : w'.output = w.output
  size : w.heap.size ≤ w'.heap.size
  block : ∀ k, k < w.heap.size → k < lo ∨ hi ≤ k → w'.heap[k]? = w.heap[k]?

theorem ButIn.of {w w' : World} (h : Below w.heap.size w w') : ButIn 0 0 w w' := ⟨h.os, h.tape, h.output, h.size, fun k hk _ => h.block k hk⟩
theorem ButIn.toBelow {lo hi X : Nat} {w w' : World} (h : ButIn lo hi w w') (hX : X ≤ lo) (hs : X ≤ w.heap.size) : Below X w w' := ⟨h.os, h.tape, h.output, h.size, fun k hk => h.block k (by omega) (.inl (by omega))⟩
theorem ButIn.after {lo hi : Nat} {a w w' : World} (h : Below a.heap.size a w) (hb : ButIn lo hi w w') : ButIn lo hi a w' := ⟨hb.os.trans h.os, hb.tape.trans h.tape, hb.output.trans h.output, Nat.le_trans h.size hb.size, fun k hk hd => (hb.block k (Nat.lt_of_lt_of_le hk h.size) hd).trans (h.block k hk)⟩

theorem RowIn.but {w w' : World} {lo hi l h : Nat} {A : Option Addr} {zs : List Nat} (r : RowIn w lo hi A zs) (hb : ButIn l h w w') (hd : hi ≤ l ∨ h ≤ lo) : RowIn w' lo hi A zs :=
  ⟨Nat.le_trans r.le hb.size, r.inn, fun h0 => by
    obtain ⟨b, off, hA, h1, h2, hc, hf⟩ := r.row h0
    have e : w'.heap[b]? = w.heap[b]? := hb.block b (Nat.lt_of_lt_of_le h2 r.le) (by omega)
    exact ⟨b, off, hA, h1, h2, fun j hj => by rw [World.cell?_of_block (w := w) e]; exact hc j hj, fun j hj => by rw [World.frozen?_of_block (w := w) e]; exact hf j hj⟩⟩
theorem VarT.but {w w' : World} {v l h : Nat} {x y : Int} {A : Option Addr} {n c : Nat} (r : VarT w v x y A n c) (hb : ButIn l h w w') (hd : v < l ∨ h ≤ v) : VarT w' v x y A n c := by
  have e : w'.heap[v]? = w.heap[v]? := hb.block v r.lt hd
  exact ⟨Nat.lt_of_lt_of_le r.lt hb.size, by rw [World.cell?_of_block (w := w) e]; exact r.c0, by rw [World.cell?_of_block (w := w) e]; exact r.c1, by rw [World.cell?_of_block (w := w) e]; exact r.c2⟩
theorem RowIn.toRow {w : World} {lo hi : Nat} {A : Option Addr} {zs : List Nat} (r : RowIn w lo hi A zs) : RowF w w.heap.size A zs := fun h0 => by
  obtain ⟨b, off, hA, h1, h2, hc, _⟩ := r.row h0
  exact ⟨b, off, hA, Nat.lt_of_lt_of_le h2 r.le, hc⟩
theorem RowIn.toOwn {w : World} {lo hi : Nat} {A : Option Addr} {zs : List Nat} (r : RowIn w lo hi A zs) : OwnF w lo A zs := fun h0 => by
  obtain ⟨b, off, hA, h1, h2, hc, hf⟩ := r.row h0
  exact ⟨b, off, hA, h1, Nat.lt_of_lt_of_le h2 r.le, hc, hf⟩
theorem RowIn.lower {w : World} {lo lo' hi : Nat} {A : Option Addr} {zs : List Nat} (r : RowIn w lo hi A zs) (h : lo' ≤ lo) : RowIn w lo' hi A zs := ⟨r.le, fun a ha => by have := r.inn a ha; omega, fun h0 => by
  obtain ⟨b, off, hA, h1, h2, hc, hf⟩ := r.row h0
  exact ⟨b, off, hA, by omega, h2, hc, hf⟩⟩
theorem OwnF.rowIn {w : World} {B : Nat} {A : Option Addr} {zs : List Nat} (r : OwnF w B A zs) (h : ∀ a, A = some a → B ≤ a.block ∧ a.block < w.heap.size) : RowIn w B w.heap.size A zs := ⟨Nat.le_refl _, h, fun h0 => r h0⟩
theorem RowIn.empty {w : World} {lo hi : Nat} (h : hi ≤ w.heap.size) : RowIn w lo hi none [] := ⟨h, fun a ha => (nomatch ha), fun h0 => absurd h0 (by simp)⟩

/-- a row that came in stands -/
theorem RowF.butIn {w w' : World} {X l h : Nat} {A : Option Addr} {zs : List Nat} (r : RowF w X A zs) (hb : ButIn l h w w') (hX : X ≤ w.heap.size) (hd : X ≤ l ∨ h = 0) : RowF w' X A zs := fun h0 => by
  obtain ⟨b, off, hA, h1, hc⟩ := r h0
  have e : w'.heap[b]? = w.heap[b]? := hb.block b (by omega) (by omega)
  exact ⟨b, off, hA, h1, fun j hj => by rw [World.cell?_of_block (w := w) e]; exact hc j hj⟩

/-- a copy that may be written -/
theorem toFO (A : Option Addr) (c : Nat) (zs : List Nat) (w : World) (hr : RowF w w.heap.size A zs) (hn : zs.length ≤ 1048576) :
    Calls Try.prog 10 #[.slice A zs.length c] w fun e w' => ∃ g, e = .returned (.slice (some ⟨g, 0, none⟩) zs.length zs.length) ∧ w.heap.size ≤ g ∧ g < w'.heap.size ∧ Hid (OwnF w' g (some ⟨g, 0, none⟩) zs) ∧ Below w.heap.size w w' := by
  obtain ⟨i0, hi, hz0, hz1, hz2⟩ := info_parts info_f32
  have hmk := fun W => run_make_rowF (P := Try.prog) 22 34 i0 (.float .f32 0) Try.underlying22 hi hz0 .i64 .i64 zs.length zs.length (Nat.le_refl _) (by rw [hz2]; omega) (by omega) W
  rw [hz1, Nat.mul_one] at hmk
  have HR := Lib.hid hr
  have C0 := Lib.hid (copied_start w zs.length zs)
  have B0 : Hid (Below w.heap.size w (w.alloc (.cells (madeCells #[.float .f32 0] zs.length) 34))) := (Below.refl _ _).alloc (Nat.le_refl _) _
  clear hr hi hz0 hz1 hz2
  go_enter Try.func10, Try.ntmps10
  go_wp2
  clear hmk
  generalize w.alloc (.cells (madeCells #[.float .f32 0] zs.length) 34) = w1 at *
  generalize hG : w.heap.size = G at *
  have HG := Lib.hid hG
  clear hG
  go_loopw [4] (fun i wr => ∃ k : Nat, k ≤ zs.length ∧ i = .int .i64 k ∧ Hid (Copied wr G zs.length zs k) ∧ Hid (Below G w wr)) (fun i _ => zs.length - (intOf i).toNat)
  case atStart => exact ⟨0, Nat.zero_le _, rfl, C0, B0⟩
  case round =>
    obtain ⟨k, hk, rfl, hC, hB⟩ := hrel
    by_cases hlt : k < zs.length
    · obtain ⟨b, off, rfl, hb, hcell⟩ := HR.out (by omega)
      have hc := hcell k hlt
      rw [← hB.out.cell (p := ⟨b, off + k, none⟩) hb] at hc
      have hd := hC.out.cell k hlt
      rw [if_neg (Nat.lt_irrefl k)] at hd
      have hf := hC.out.free k
      have hs := Lib.hid (copied_step hC.out hlt)
      have hs2 : Hid (Below G w (wr.setCell ⟨G, k, none⟩ (.float .f32 (at0 zs k)))) := hB.out.setCell (Nat.le_refl _) _
      clear hcell hC hB
      go_wp2
      go_roundw
      case rel => exact ⟨k + 1, by omega, by go_num, hs, hs2⟩
      case measure => simp [intOf]; omega
    · have he : k = zs.length := by omega
      have HE := Lib.hid he
      clear he
      go_wp2
      go_ret
      refine ⟨G, rfl, by rw [HG.out]; exact Nat.le_refl _, by have := hC.out.size; omega, ?_, by rw [HG.out]; exact hB.out⟩
      show OwnF wr G _ zs
      intro h0
      refine ⟨G, 0, rfl, Nat.le_refl _, by have := hC.out.size; omega, fun j hj => ?_, fun j _ => hC.out.free _⟩
      rw [Nat.zero_add, hC.out.cell j hj, if_pos (by have := HE.out; omega)]

theorem OwnF.other {w : World} {g off : Nat} {zs : List Nat} (h : OwnF w g (some ⟨g, off, none⟩) zs) {q : Addr} (hq : q.block ≠ g) (u : Value) : OwnF (w.setCell q u) g (some ⟨g, off, none⟩) zs := by
  intro h0
  obtain ⟨b, off', hA, hle, hlt, hc, hf⟩ := h h0
  injection hA with hA
  injection hA with e1 e2 _
  subst e1 e2
  have e : (w.setCell q u).heap[g]? = w.heap[g]? := Below.heap_setCell _ _ _ _ (fun h => hq h.symm)
  exact ⟨g, off, rfl, hle, by simpa [World.setCell] using hlt, fun j hj => by rw [World.cell?_of_block (w := w) e]; exact hc j hj, fun j hj => by rw [World.frozen?_of_block (w := w) e]; exact hf j hj⟩


/-- what a mark leaves -/
theorem But.butIn {B lo hi : Nat} {A : Option Addr} {w w' : World} (h : But B A w w') (hA : ∀ a, A = some a → lo ≤ a.block ∧ a.block < hi) : ButIn lo hi w w' :=
  ⟨h.os, h.tape, h.output, by rw [h.size]; exact Nat.le_refl _, fun k _ hd => h.block k fun a ha => by have := hA a ha; omega⟩

theorem markT (x y : Int) (A : Option Addr) (c lo hi : Nat) (zs : List Nat) (w : World) (hr : RowIn w lo hi A zs) (hn : zs.length ≤ 1048576) :
    Calls Try.prog 30 #[.agg #[.int .i64 x, .int .i64 y, .slice A zs.length c], .int .i64 1] w fun e w' => e = .returned (.int .i64 (1 + zs.length : Nat)) ∧ Hid (RowIn w' lo hi A (upF 1 zs.length)) ∧ Hid (ButIn lo hi w w') := by
  have B0 : Below w.heap.size w (w.alloc (.cells #[.int .i64 x, .int .i64 y, .slice A zs.length c] 46)) := (Below.refl _ _).alloc (Nat.le_refl _) _
  have R1 := hr.but (ButIn.of B0) (.inr (Nat.zero_le _))
  have hA := hr.inn
  have HC := mark1F A c lo zs _ R1.toOwn hn
  have H := Lib.hid HC
  have HB0 := Lib.hid B0
  have HA := Lib.hid hA
  have HL := Lib.hid hr.le
  clear HC hr B0 R1 hA
  go_enter Try.func30, Try.ntmps30
  go_wp2_with fail
  refine H.out.mono ?_
  rintro e w' ⟨rfl, ho, hb⟩
  have HB : Hid (ButIn lo hi w w') := ButIn.after HB0.out (hb.out.butIn HA.out)
  have HO : Hid (RowIn w' lo hi A (upF 1 zs.length)) := ⟨Nat.le_trans HL.out HB.out.size, HA.out, fun g0 => by
    obtain ⟨b, off, e1, h1, h2, hc, hf⟩ := ho.out g0
    have := (HA.out _ e1).2
    exact ⟨b, off, e1, h1, this, hc, hf⟩⟩
  clear hb HB0 H
  go_wp2_with fail
  go_ret
  exact ⟨rfl, HO, HB⟩

theorem heldT (x y : Int) (A : Option Addr) (c lo hi n : Nat) (w : World) (hr : RowIn w lo hi A (upF 1 n)) (hn : n ≤ 1048576) :
    Calls Try.prog 31 #[.agg #[.int .i64 x, .int .i64 y, .slice A n c], .int .i64 1] w fun e w' => e = .returned (.int .i64 (1 + n : Nat)) ∧ Hid (Below w.heap.size w w') :=
  heldSheet_is x y A n c 1 w.heap.size w (Nat.le_refl _) hr.toRow hn (by decide)

theorem eqT (x y : Int) (A B : Option Addr) (c d l1 h1 l2 h2 : Nat) (zs : List Nat) (w : World) (hr : RowIn w l1 h1 A zs) (hq : RowIn w l2 h2 B zs) (hn : zs.length ≤ 1048576) :
    Calls Try.prog 29 #[.agg #[.int .i64 x, .int .i64 y, .slice A zs.length c], .agg #[.int .i64 x, .int .i64 y, .slice B zs.length d]] w fun e w' => e = .returned (.bool true) ∧ Hid (Below w.heap.size w w') :=
  eqSheet_is x y A B c d zs w w.heap.size (Nat.le_refl _) hr.toRow hq.toRow hn

theorem lex {w w' : World} {X : Nat} (h : w.heap.size = X) (c : Below X w w') : X ≤ w'.heap.size := h ▸ c.size

/-- what a function gives that returns a sheet -/
def TPost (p q : Int) (ys : List Nat) (b : Bool) (w : World) (e : Ending) (w' : World) : Prop :=
  ∃ A c, e = .returned (.tuple #[.agg #[.int .i64 p, .int .i64 q, .slice A ys.length c], .bool b]) ∧ Hid (RowIn w' w.heap.size w'.heap.size A ys) ∧ Hid (Below w.heap.size w w')

end Go.Proofs.Ytnhcmloaanamnaa
