/-
  What is proved here: rows of integers as the law's functions copy, compare, mark and look at them, between block numbers. Conditions: at most 1048576 numbers.
-/
import Derived.Test.YtnhcmloaanamnaaLk
import Derived.Test.YtnhcmloaanamnaaOpenI
namespace Go.Proofs.Ytnhcmloaanamnaa
open Flt Go.RowKit
set_option linter.unusedVariables false

structure RowInI (w : World) (lo hi : Nat) (A : Option Addr) (zs : List Int) : Prop where
  le : hi ≤ w.heap.size
  inn : ∀ a, A = some a → lo ≤ a.block ∧ a.block < hi
  row : 0 < zs.length → ∃ b off, A = some ⟨b, off, none⟩ ∧ lo ≤ b ∧ b < hi ∧ (∀ j, j < zs.length → w.cell? ⟨b, off + j, none⟩ = some (.int .i64 (atI zs j))) ∧ ∀ j, j < zs.length → w.frozen? ⟨b, off + j, none⟩ = false
theorem RowInI.but {w w' : World} {lo hi l h : Nat} {A : Option Addr} {zs : List Int} (r : RowInI w lo hi A zs) (hb : ButIn l h w w') (hd : hi ≤ l ∨ h ≤ lo) : RowInI w' lo hi A zs :=
  ⟨Nat.le_trans r.le hb.size, r.inn, fun h0 => by
    obtain ⟨b, off, hA, h1, h2, hc, hf⟩ := r.row h0
    have e : w'.heap[b]? = w.heap[b]? := hb.block b (Nat.lt_of_lt_of_le h2 r.le) (by omega)
    exact ⟨b, off, hA, h1, h2, fun j hj => by rw [World.cell?_of_block (w := w) e]; exact hc j hj, fun j hj => by rw [World.frozen?_of_block (w := w) e]; exact hf j hj⟩⟩
theorem RowInI.toRow {w : World} {lo hi : Nat} {A : Option Addr} {zs : List Int} (r : RowInI w lo hi A zs) : RowI w w.heap.size A zs := fun h0 => by
  obtain ⟨b, off, hA, h1, h2, hc, _⟩ := r.row h0
  exact ⟨b, off, hA, Nat.lt_of_lt_of_le h2 r.le, hc⟩
theorem RowInI.toOwn {w : World} {lo hi : Nat} {A : Option Addr} {zs : List Int} (r : RowInI w lo hi A zs) : OwnI w lo A zs := fun h0 => by
  obtain ⟨b, off, hA, h1, h2, hc, hf⟩ := r.row h0
  exact ⟨b, off, hA, h1, Nat.lt_of_lt_of_le h2 r.le, hc, hf⟩
theorem RowInI.lower {w : World} {lo lo' hi : Nat} {A : Option Addr} {zs : List Int} (r : RowInI w lo hi A zs) (h : lo' ≤ lo) : RowInI w lo' hi A zs := ⟨r.le, fun a ha => by have := r.inn a ha; omega, fun h0 => by
  obtain ⟨b, off, hA, h1, h2, hc, hf⟩ := r.row h0
  exact ⟨b, off, hA, by omega, h2, hc, hf⟩⟩
theorem RowInI.empty {w : World} {lo hi : Nat} (h : hi ≤ w.heap.size) : RowInI w lo hi none [] := ⟨h, fun a ha => (nomatch ha), fun h0 => absurd h0 (by simp)⟩
theorem RowI.butIn {w w' : World} {X l h : Nat} {A : Option Addr} {zs : List Int} (r : RowI w X A zs) (hb : ButIn l h w w') (hX : X ≤ w.heap.size) (hd : X ≤ l ∨ h = 0) : RowI w' X A zs := fun h0 => by
  obtain ⟨b, off, hA, h1, hc⟩ := r h0
  have e : w'.heap[b]? = w.heap[b]? := hb.block b (by omega) (by omega)
  exact ⟨b, off, hA, h1, fun j hj => by rw [World.cell?_of_block (w := w) e]; exact hc j hj⟩
structure TlI (f : List Int) (n : Nat) (ws : List Int) : Prop where
  len : ws.length = n
  is : ws = f
theorem TlI.self (zs : List Int) : TlI zs zs.length zs := ⟨rfl, rfl⟩

theorem eqRI (A B : Option Addr) (c d l1 h1 l2 h2 n : Nat) (xs ys f : List Int) (w : World) (hr : RowInI w l1 h1 A xs) (hq : RowInI w l2 h2 B ys) (tx : TlI f n xs) (ty : TlI f n ys) (hn : n ≤ 1048576) :
    Calls Try.prog 12 #[.slice A n c, .slice B n d] w fun e w' => e = .returned (.bool true) ∧ ∃ n, w' = w.drewN n := by
  obtain ⟨rfl, rfl⟩ := tx
  obtain ⟨_, rfl⟩ := ty
  exact eqI A B c d _ w w.heap.size hr.toRow hq.toRow hn
theorem markRI (A : Option Addr) (c lo hi n : Nat) (zs : List Int) (w : World) (hr : RowInI w lo hi A zs) (hl : zs.length = n) (hn : n ≤ 1048576) :
    Calls Try.prog 15 #[.slice A n c, .int .i64 1] w fun e w' => e = .returned (.int .i64 (1 + n : Nat)) ∧ Hid (RowInI w' lo hi A (up 1 n)) ∧ Hid (ButIn lo hi w w') := by
  subst hl
  exact (mark1 A c lo zs w hr.toOwn hn).mono fun _ _ ⟨h1, h2, h3⟩ => by
    have hb := h3.out.butIn hr.inn
    exact ⟨h1, ⟨Nat.le_trans hr.le hb.size, hr.inn, fun g0 => by
      obtain ⟨b, off, e1, h4, h5, hc, hf⟩ := h2.out g0
      exact ⟨b, off, e1, h4, (hr.inn _ e1).2, hc, hf⟩⟩, hb⟩
theorem heldRI (A : Option Addr) (c lo hi n : Nat) (w : World) (hr : RowInI w lo hi A (up 1 n)) (hn : n ≤ 1048576) :
    Calls Try.prog 16 #[.slice A n c, .int .i64 1] w fun e w' => e = .returned (.int .i64 (1 + n : Nat)) ∧ w = w' := held1 A c w.heap.size n w hr.toRow hn
/-- what a function gives that returns a list of integers, and whether there is one -/
def LPI (f : List Int) (n : Nat) (b : Bool) (w : World) (e : Ending) (w' : World) : Prop :=
  ∃ A c ys, e = .returned (.tuple #[.slice A n c, .bool b]) ∧ Hid (TlI f n ys) ∧ Hid (RowInI w' w.heap.size w'.heap.size A ys) ∧ Hid (Below w.heap.size w w')
theorem lpi_no {w w' : World} {b : Bool} (h : Below w.heap.size w w') : LPI [] 0 b w (.returned (.tuple #[.slice none 0 0, .bool b])) w' := ⟨none, 0, [], rfl, TlI.self [], RowInI.empty (Nat.le_refl _), h⟩
/-- a copy has room for all of it -/
theorem toFRc (A : Option Addr) (c : Nat) (zs : List Nat) (w : World) (hr : RowF w w.heap.size A zs) (hn : zs.length ≤ 1048576) :
    Calls Try.prog 10 #[.slice A zs.length c] w fun e w' => ∃ A' c', e = .returned (.slice A' zs.length c') ∧ Hid (zs.length ≤ c') ∧ Hid (RowIn w' w.heap.size w'.heap.size A' zs) ∧ Hid (Below w.heap.size w w') :=
  (toFO A c zs w hr hn).mono fun _ _ ⟨g, h1, h2, h3, h4, h5⟩ => ⟨some ⟨g, 0, none⟩, _, h1, Nat.le_refl _, (h4.out.rowIn (fun a ha => by injection ha with ha; subst ha; exact ⟨Nat.le_refl _, h3⟩)).lower h2, h5⟩
end Go.Proofs.Ytnhcmloaanamnaa
