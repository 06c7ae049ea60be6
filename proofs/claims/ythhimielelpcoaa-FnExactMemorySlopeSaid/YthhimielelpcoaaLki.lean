/-
  What is proved here: rows of integers as the law's functions copy and compare them, between block numbers. Conditions: at most 1048576 numbers.
-/
import Derived.Test.YthhimielelpcoaaLk
import Derived.Test.YthhimielelpcoaaOpenI
namespace Go.Proofs.Ythhimielelpcoaa
open Flt Go.RowKit
set_option linter.unusedVariables false

structure RowInI (w : World) (lo hi : Nat) (A : Option Addr) (zs : List Int) : Prop where
  le : hi ≤ w.heap.size
  inn : ∀ a, A = some a → lo ≤ a.block ∧ a.block < hi
  row : RowI w hi A zs
theorem RowInI.but {w w' : World} {lo hi l h : Nat} {A : Option Addr} {zs : List Int} (r : RowInI w lo hi A zs) (hb : ButIn l h w w') (hd : hi ≤ l ∨ h ≤ lo) : RowInI w' lo hi A zs :=
  ⟨Nat.le_trans r.le hb.size, r.inn, fun h0 => by
    obtain ⟨b, off, hA, h1, hc⟩ := r.row h0
    have h2 := (r.inn _ hA).1
    have h2 : lo ≤ b := h2
    have e : w'.heap[b]? = w.heap[b]? := hb.block b (Nat.lt_of_lt_of_le h1 r.le) (by omega)
    exact ⟨b, off, hA, h1, fun j hj => by rw [World.cell?_of_block (w := w) e]; exact hc j hj⟩⟩
theorem RowInI.toRow {w : World} {lo hi : Nat} {A : Option Addr} {zs : List Int} (r : RowInI w lo hi A zs) : RowI w w.heap.size A zs := r.row.mono r.le
theorem RowI.butIn {w w' : World} {X l h : Nat} {A : Option Addr} {zs : List Int} (r : RowI w X A zs) (hb : ButIn l h w w') (hX : X ≤ w.heap.size) (hd : X ≤ l ∨ h = 0) : RowI w' X A zs := fun h0 => by
  obtain ⟨b, off, hA, h1, hc⟩ := r h0
  have e : w'.heap[b]? = w.heap[b]? := hb.block b (by omega) (by omega)
  exact ⟨b, off, hA, h1, fun j hj => by rw [World.cell?_of_block (w := w) e]; exact hc j hj⟩
structure TlI (f : List Int) (n : Nat) (ws : List Int) : Prop where
  len : ws.length = n
  is : ws = f
theorem TlI.self (zs : List Int) : TlI zs zs.length zs := ⟨rfl, rfl⟩
theorem toIR (A : Option Addr) (c : Nat) (zs : List Int) (w : World) (hr : RowI w w.heap.size A zs) (hn : zs.length ≤ 1048576) :
    Calls Try.prog 25 #[.slice A zs.length c] w fun e w' => ∃ A' c', e = .returned (.slice A' zs.length c') ∧ Hid (RowInI w' w.heap.size w'.heap.size A' zs) ∧ Hid (Below w.heap.size w w') :=
  (toI A c zs w hr hn).mono fun _ w' ⟨h1, h2, h3, h4⟩ => ⟨some ⟨w.heap.size, 0, none⟩, _, h1, ⟨Nat.le_refl _, fun a ha => by injection ha with ha; subst ha; exact ⟨Nat.le_refl _, by show w.heap.size < _; rw [h2]; omega⟩, h3.out.row⟩, h4⟩
theorem eqRI (A B : Option Addr) (c d l1 h1 l2 h2 n : Nat) (xs ys f : List Int) (w : World) (hr : RowInI w l1 h1 A xs) (hq : RowInI w l2 h2 B ys) (tx : TlI f n xs) (ty : TlI f n ys) (hn : n ≤ 1048576) :
    Calls Try.prog 19 #[.slice A n c, .slice B n d] w fun e w' => e = .returned (.bool true) ∧ ∃ n, w' = w.drewN n := by
  obtain ⟨rfl, rfl⟩ := tx
  obtain ⟨_, rfl⟩ := ty
  exact eqI A B c d _ w w.heap.size hr.toRow hq.toRow hn
/-- a copy has room for all of it -/
theorem toFRc (A : Option Addr) (c : Nat) (zs : List Nat) (w : World) (hr : RowF w w.heap.size A zs) (hn : zs.length ≤ 1048576) :
    Calls Try.prog 17 #[.slice A zs.length c] w fun e w' => ∃ A' c', e = .returned (.slice A' zs.length c') ∧ Hid (zs.length ≤ c') ∧ Hid (RowIn w' w.heap.size w'.heap.size A' zs) ∧ Hid (Below w.heap.size w w') :=
  (toFO A c zs w hr hn).mono fun _ _ ⟨g, h1, h2, h3, h4, h5⟩ => ⟨some ⟨g, 0, none⟩, _, h1, Nat.le_refl _, (h4.out.rowIn (fun a ha => by injection ha with ha; subst ha; exact ⟨Nat.le_refl _, h3⟩)).lower h2, h5⟩
end Go.Proofs.Ythhimielelpcoaa
