/-
  What is proved here: copies, comparisons, marks and looks of lists of integers, as walks. Conditions: at most 1048576 numbers.
-/
import Derived.Test.YtnhcmloaanamnaaChecked
import Derived.WalkKit
import Derived.WalkLawsBesides
import Derived.WalkSpells
import Derived.IntWalk
import Derived.Lib.Hide
import Derived.OwnWalk
import Derived.LoopTactic
import Derived.Laws.MakeOwn
import Derived.Laws.Entries
import Derived.Deep.Slices
import Derived.Outline
import Derived.Deep.RegionWith
import Derived.BigQuiet
import Derived.Deep.QuietTactic
namespace Go.Proofs.Ytnhcmloaanamnaa
open Go.RowKit

/-- the element at a place -/
def atI (zs : List Int) (j : Nat) : Int := zs.getD j 0

/-- a slice of integers below a block -/
def RowI (w : World) (B : Nat) (A : Option Addr) (zs : List Int) : Prop :=
  0 < zs.length → ∃ b off, A = some ⟨b, off, none⟩ ∧ b < B ∧ ∀ j, j < zs.length → w.cell? ⟨b, off + j, none⟩ = some (.int .i64 (atI zs j))

/-- a slice of integers from a block on, that may be written -/
def OwnI (w : World) (B : Nat) (A : Option Addr) (zs : List Int) : Prop :=
  0 < zs.length → ∃ b off, A = some ⟨b, off, none⟩ ∧ B ≤ b ∧ b < w.heap.size ∧ (∀ j, j < zs.length → w.cell? ⟨b, off + j, none⟩ = some (.int .i64 (atI zs j))) ∧ ∀ j, j < zs.length → w.frozen? ⟨b, off + j, none⟩ = false

theorem RowI.below {w w' : World} {B : Nat} {A : Option Addr} {zs : List Int} (h : RowI w B A zs) (hb : Below B w w') : RowI w' B A zs := by
  intro h0
  obtain ⟨b, off, hA, hlt, hc⟩ := h h0
  exact ⟨b, off, hA, hlt, fun j hj => by rw [hb.cell hlt]; exact hc j hj⟩
theorem RowI.mono {w : World} {B B' : Nat} {A : Option Addr} {zs : List Int} (h : RowI w B A zs) (hb : B ≤ B') : RowI w B' A zs := by
  intro h0
  obtain ⟨b, off, hA, hlt, hc⟩ := h h0
  exact ⟨b, off, hA, by omega, hc⟩
theorem RowI.carry {w w' : World} {A : Option Addr} {zs : List Int} (h : RowI w w.heap.size A zs) (hb : Below w.heap.size w w') : RowI w' w'.heap.size A zs := (h.below hb).mono hb.size
theorem OwnI.row {w : World} {B : Nat} {A : Option Addr} {zs : List Int} (h : OwnI w B A zs) : RowI w w.heap.size A zs := by
  intro h0
  obtain ⟨b, off, hA, _, hlt, hc, _⟩ := h h0
  exact ⟨b, off, hA, hlt, hc⟩
theorem OwnI.below {w w' : World} {B : Nat} {A : Option Addr} {zs : List Int} (h : OwnI w B A zs) (hb : Below w.heap.size w w') : OwnI w' B A zs := by
  intro h0
  obtain ⟨b, off, hA, hle, hlt, hc, hf⟩ := h h0
  exact ⟨b, off, hA, hle, Nat.lt_of_lt_of_le hlt hb.size, fun j hj => by rw [hb.cell hlt]; exact hc j hj, fun j hj => by rw [hb.frozen hlt]; exact hf j hj⟩

/-- all but one block is as it was -/
structure But (B : Nat) (A : Option Addr) (w w' : World) : Prop where
  os : w'.os = w.os
  tape : w'.tape = w.tape
  output : w'.output = w.output
  size : w'.heap.size = w.heap.size
  block : ∀ k, (∀ a, A = some a → k ≠ a.block) → w'.heap[k]? = w.heap[k]?
  low : ∀ k, k < B → w'.heap[k]? = w.heap[k]?

theorem But.refl (B : Nat) (A : Option Addr) (w : World) : But B A w w := ⟨rfl, rfl, rfl, rfl, fun _ _ => rfl, fun _ _ => rfl⟩
theorem But.setCell {B : Nat} {A : Option Addr} {a w : World} (h : But B A a w) {p q : Addr} (hA : A = some p) (hp : q.block = p.block) (hB : B ≤ p.block) (u : Value) : But B A a (w.setCell q u) :=
  ⟨h.os, h.tape, h.output, by rw [← h.size]; simp [World.setCell], fun k hk => by rw [Below.heap_setCell _ _ _ _ (by rw [hp]; exact hk p hA)]; exact h.block k hk, fun k hk => by rw [Below.heap_setCell _ _ _ _ (by rw [hp]; omega)]; exact h.low k hk⟩
theorem But.toBelow {B : Nat} {A : Option Addr} {a w : World} (h : But B A a w) : Below B a w := ⟨h.os, h.tape, h.output, by rw [h.size]; exact Nat.le_refl _, h.low⟩

/-- another row, from elsewhere, stands -/
theorem RowI.but {w w' : World} {B B' : Nat} {A C : Option Addr} {zs : List Int} (h : RowI w B' C zs) (hb : But B A w w') (hB : B' ≤ B) : RowI w' B' C zs := h.below ⟨hb.os, hb.tape, hb.output, by rw [hb.size]; exact Nat.le_refl _, fun k hk => hb.low k (by omega)⟩
theorem OwnI.but {w w' : World} {B B' : Nat} {A C : Option Addr} {zs : List Int} (h : OwnI w B' C zs) (hb : But B A w w') (hA : ∀ a, A = some a → a.block < B') : OwnI w' B' C zs := by
  intro h0
  obtain ⟨b, off, hC, hle, hlt, hc, hf⟩ := h h0
  have e : w'.heap[b]? = w.heap[b]? := hb.block b fun a ha => by have := hA a ha; omega
  exact ⟨b, off, hC, hle, by rw [hb.size]; exact hlt, fun j hj => by rw [World.cell?_of_block (w := w) e]; exact hc j hj, fun j hj => by rw [World.frozen?_of_block (w := w) e]; exact hf j hj⟩

theorem info_i64 : (Try.prog.info? 2).map (fun i => (i.zero, i.size, i.bytes)) = some (some (.int .i64 0), 1, 8) := by kernel_rfl

theorem run_make_rowN {P : Program} (t e : TypeId) (i : TypeInfo) (z : Value) (ht : P.underlying t = some (.slice e)) (hi : P.info? e = some i) (hz : i.zero = some z)
    (kl kc : IntKind) (n c : Nat) (hnc : n ≤ c) (hbytes : i.bytes * c ≤ 281474976710656) (h63 : c ≤ 9223372036854775807) (w : World) :
    (Instr.makeSlice t (.int kl (n : Int)) (.int kc (c : Int))).run P w = .ok (.slice (some ⟨w.heap.size, 0, none⟩) n c) (w.alloc (.cells (madeCells z.cells (c * i.size)) e)) := by
  have hb : (i.bytes : Int) * (c : Int) ≤ 281474976710656 := by
    have h : ((i.bytes * c : Nat) : Int) ≤ 281474976710656 := by omega
    rwa [Int.natCast_mul] at h
  have hr := run_make (P := P) w t e i z ht hi hz kl kc n c (by omega) (by omega) hb (by omega)
  simp only [Int.toNat_natCast] at hr
  exact hr

/-- a block of integers of its own: n cells, told by a function -/
structure OneRow (w : World) (G n : Nat) (f : Nat → Int) : Prop where
  size : w.heap.size = G + 1
  cell : ∀ j, j < n → w.cell? ⟨G, j, none⟩ = some (.int .i64 (f j))
  free : ∀ j, w.frozen? ⟨G, j, none⟩ = false

theorem oneRow_start (w : World) (n : Nat) : OneRow (w.alloc (.cells (madeCells #[.int .i64 0] n) 2)) w.heap.size n (fun _ => 0) := by
  refine ⟨by simp, fun j hj => ?_, fun j => ?_⟩
  · have h : (madeCells #[.int .i64 0] n)[j]? = some (.int .i64 0) := by simp [madeCells, hj, Nat.mod_one]
    simp [World.cell?, World.alloc, -World.alloc_eq, h]
  · simp [World.frozen?, World.alloc, -World.alloc_eq]

theorem OneRow.step {w : World} {G n k : Nat} {f g : Nat → Int} {x : Int} (h : OneRow w G n f) (hk : k < n) (hg : g = fun j => if j = k then x else f j) : OneRow (w.setCell ⟨G, k, none⟩ (.int .i64 x)) G n g := by
  subst hg
  refine ⟨by have := h.size; simpa [World.setCell] using this, fun j hj => ?_, fun j => by rw [World.frozen?_setCell]; exact h.free j⟩
  by_cases e : j = k
  · subst e
    rw [World.cell?_setCell_same w _ _ (h.cell j hj), if_pos rfl]
  · rw [World.cell?_setCell_other w _ _ _ (by intro h; injection h with _ h2 _; omega), h.cell j hj, if_neg e]

theorem OneRow.ext {w : World} {G n : Nat} {f g : Nat → Int} (h : OneRow w G n f) (e : ∀ j, j < n → f j = g j) : OneRow w G n g := ⟨h.size, fun j hj => by rw [h.cell j hj, e j hj], h.free⟩

theorem OneRow.own {w : World} {G n : Nat} {f : Nat → Int} {zs : List Int} (h : OneRow w G n f) (hn : zs.length = n) (hf : ∀ j, j < n → f j = atI zs j) : OwnI w G (some ⟨G, 0, none⟩) zs := by
  intro h0
  refine ⟨G, 0, rfl, Nat.le_refl _, by have := h.size; omega, fun j hj => ?_, fun j hj => h.free _⟩
  rw [Nat.zero_add, h.cell j (by omega), hf j (by omega)]

/-- what a copy holds after k steps -/
def cop (zs : List Int) (k : Nat) (j : Nat) : Int := if j < k then atI zs j else 0
theorem cop_succ (zs : List Int) (k : Nat) : cop zs (k + 1) = fun j => if j = k then atI zs k else cop zs k j := by
  funext j
  unfold cop
  by_cases e : j = k
  · subst e; rw [if_pos (by omega), if_pos rfl]
  · rw [if_neg e]
    by_cases h : j < k
    · rw [if_pos h, if_pos (by omega)]
    · rw [if_neg h, if_neg (by omega)]


set_option maxHeartbeats 8000000 in
theorem eqI (A B : Option Addr) (c d : Nat) (zs : List Int) (w : World) (Z : Nat) (hr : RowI w Z A zs) (hq : RowI w Z B zs) (hn : zs.length ≤ 1048576) :
    Calls Try.prog 12 #[.slice A zs.length c, .slice B zs.length d] w fun e w' => e = .returned (.bool true) ∧ ∃ n, w' = w.drewN n := by
  have HR := Lib.hid hr
  have HQ := Lib.hid hq
  clear hr hq
  go_enter Try.func12, Try.ntmps12
  go_wp2
  go_loopw [5] (fun i wr => ∃ k : Nat, k ≤ zs.length ∧ i = .int .i64 k ∧ ∃ n, wr = w.drewN n) (fun i _ => zs.length - (intOf i).toNat)
  case atStart => exact ⟨0, Nat.zero_le _, rfl, 0, rfl⟩
  case round =>
    obtain ⟨k, hk, rfl, n, rfl⟩ := hrel
    by_cases hlt : k < zs.length
    · obtain ⟨b, off, rfl, hb, hcell⟩ := HR.out (by omega)
      obtain ⟨b2, off2, rfl, hb2, hcell2⟩ := HQ.out (by omega)
      have hc := hcell k hlt
      have hd := hcell2 k hlt
      clear hcell hcell2
      go_wp2_with fail
      go_quiet (fail)
      go_wp2
      go_roundw
      case rel => exact ⟨k + 1, by omega, by go_num, _, rfl⟩
      case measure => simp [intOf]; omega
    · go_wp2
      go_ret
      exact ⟨rfl, _, rfl⟩

theorem OwnI.set {w : World} {B k b off : Nat} {ys zs : List Int} {x : Int} (h : OwnI w B (some ⟨b, off, none⟩) ys) (hk : k < ys.length) (hl : zs.length = ys.length) (hz : ∀ j, j < ys.length → atI zs j = if j = k then x else atI ys j) :
    OwnI (w.setCell ⟨b, off + k, none⟩ (.int .i64 x)) B (some ⟨b, off, none⟩) zs := by
  intro _
  obtain ⟨b', off', e, hle, hlt, hc, hf⟩ := h (by omega)
  injection e with e
  injection e with e1 e2 _
  subst e1 e2
  refine ⟨b, off, rfl, hle, by simpa [World.setCell] using hlt, fun j hj => ?_, fun j hj => by rw [World.frozen?_setCell]; exact hf j (by omega)⟩
  rw [hz j (by omega)]
  by_cases e : j = k
  · subst e
    rw [World.cell?_setCell_same w _ _ (hc j (by omega)), if_pos rfl]
  · rw [World.cell?_setCell_other w _ _ _ (by intro h; injection h with _ h2 _; omega), hc j (by omega), if_neg e]

/-- numbers from one on -/
def up (m n : Nat) : List Int := (List.range n).map fun j => ((m + j : Nat) : Int)
theorem up_length (m n : Nat) : (up m n).length = n := by simp [up]
theorem at_up {m n j : Nat} (h : j < n) : atI (up m n) j = ((m + j : Nat) : Int) := by simp [atI, up, List.getD, h]
/-- k of them, and then what was -/
def mix (zs : List Int) (m k : Nat) : List Int := (List.range zs.length).map fun j => if j < k then ((m + j : Nat) : Int) else atI zs j
theorem mix_length (zs : List Int) (m k : Nat) : (mix zs m k).length = zs.length := by simp [mix]
theorem at_mix {zs : List Int} {m k j : Nat} (h : j < zs.length) : atI (mix zs m k) j = if j < k then ((m + j : Nat) : Int) else atI zs j := by simp [atI, mix, List.getD, h]
theorem mix_zero (zs : List Int) (m : Nat) : mix zs m 0 = zs := by
  apply List.ext_getElem (by simp [mix])
  intro j h1 h2
  simp [mix, atI, List.getD, h2]
theorem mix_all (zs : List Int) (m : Nat) : mix zs m zs.length = up m zs.length := by
  apply List.ext_getElem (by simp [mix, up])
  intro j h1 h2
  simp [up] at h2
  simp [mix, up, h2]

theorem markI (A : Option Addr) (c m B : Nat) (zs : List Int) (w : World) (hr : OwnI w B A zs) (hn : zs.length ≤ 1048576) (hm : m ≤ 1048576) :
    Calls Try.prog 15 #[.slice A zs.length c, .int .i64 m] w fun e w' => e = .returned (.int .i64 (m + zs.length : Nat)) ∧ Hid (OwnI w' B A (up m zs.length)) ∧ Hid (But B A w w') := by
  have HR : Hid (OwnI w B A (mix zs m 0)) := by rw [mix_zero]; exact hr
  clear hr
  go_enter Try.func15, Try.ntmps15
  go_wp2
  go_loopw [1, 5] (fun q i wr => ∃ k : Nat, k ≤ zs.length ∧ i = .int .i64 k ∧ q = .int .i64 (m + k : Nat) ∧ Hid (OwnI wr B A (mix zs m k)) ∧ Hid (But B A w wr)) (fun _ i _ => zs.length - (intOf i).toNat)
  case atStart => exact ⟨0, Nat.zero_le _, rfl, rfl, HR, But.refl _ _ _⟩
  case round =>
    obtain ⟨k, hk, rfl, rfl, hC, hB⟩ := hrel
    by_cases hlt : k < zs.length
    · obtain ⟨b, off, rfl, hle, hb, hcell, hfree⟩ := hC.out (by rw [mix_length]; omega)
      have hc := hcell k (by rw [mix_length]; omega)
      have hf := hfree k (by rw [mix_length]; omega)
      have N1 : Hid (OwnI (wr.setCell ⟨b, off + k, none⟩ (.int .i64 (m + k : Nat))) B (some ⟨b, off, none⟩) (mix zs m (k + 1))) :=
        hC.out.set (by rw [mix_length]; omega) (by rw [mix_length, mix_length]) fun j hj => by
          rw [mix_length] at hj
          rw [at_mix hj, at_mix hj]
          by_cases e : j = k
          · subst e; rw [if_pos (by omega), if_pos rfl]
          · rw [if_neg e]
            by_cases h : j < k
            · rw [if_pos h, if_pos (by omega)]
            · rw [if_neg h, if_neg (by omega)]
      have N2 : Hid (But B (some ⟨b, off, none⟩) w (wr.setCell ⟨b, off + k, none⟩ (.int .i64 (m + k : Nat)))) := hB.out.setCell (p := ⟨b, off, none⟩) (q := ⟨b, off + k, none⟩) rfl rfl hle _
      clear hcell hfree hC hB HR hle
      go_wp2
      go_roundw
      case rel => exact ⟨k + 1, by omega, by go_num, by go_num, N1, N2⟩
      case measure => simp [intOf]; omega
    · have HE : Hid (mix zs m k = up m zs.length) := by rw [show k = zs.length by omega]; exact mix_all _ _
      have HK : Hid (k = zs.length) := by show k = zs.length; omega
      go_wp2
      go_ret
      exact ⟨by rw [HK.out]; rfl, by rw [← HE.out]; exact hC, hB⟩

theorem heldI (A : Option Addr) (c m Z n : Nat) (w : World) (hr : RowI w Z A (up m n)) (hn : n ≤ 1048576) (hm : m ≤ 1048576) :
    Calls Try.prog 16 #[.slice A n c, .int .i64 m] w fun e w' => e = .returned (.int .i64 (m + n : Nat)) ∧ w = w' := by
  have HR := Lib.hid hr
  clear hr
  go_enter Try.func16, Try.ntmps16
  go_wp2
  go_loop [1, 5] (fun q i => ∃ k : Nat, k ≤ n ∧ i = .int .i64 k ∧ q = .int .i64 (m + k : Nat)) (fun _ i => n - (intOf i).toNat)
  case atStart => exact ⟨0, Nat.zero_le _, rfl, rfl⟩
  case round =>
    obtain ⟨k, hk, rfl, rfl⟩ := hrel
    by_cases hlt : k < n
    · obtain ⟨b, off, rfl, hb, hcell⟩ := HR.out (by rw [up_length]; omega)
      have hc := hcell k (by rw [up_length]; omega)
      rw [at_up hlt] at hc
      clear hcell
      go_wp2
      go_round
      case rel => exact ⟨k + 1, by omega, by go_num, by go_num⟩
      case measure => simp [intOf]; omega
    · have HK : Hid (k = n) := by show k = n; omega
      go_wp2
      go_ret
      exact ⟨by rw [HK.out]; rfl, rfl⟩

theorem mark1 (A : Option Addr) (c B : Nat) (zs : List Int) (w : World) (hr : OwnI w B A zs) (hn : zs.length ≤ 1048576) :
    Calls Try.prog 15 #[.slice A zs.length c, .int .i64 1] w fun e w' => e = .returned (.int .i64 (1 + zs.length : Nat)) ∧ Hid (OwnI w' B A (up 1 zs.length)) ∧ Hid (But B A w w') := markI A c 1 B zs w hr hn (by omega)

theorem held1 (A : Option Addr) (c Z n : Nat) (w : World) (hr : RowI w Z A (up 1 n)) (hn : n ≤ 1048576) :
    Calls Try.prog 16 #[.slice A n c, .int .i64 1] w fun e w' => e = .returned (.int .i64 (1 + n : Nat)) ∧ w = w' := heldI A c 1 Z n w hr hn (by omega)

theorem belowN {B n : Nat} {a w : World} (h : Below B a w) : Below B a (w.drewN n) := ⟨h.os, h.tape, h.output, h.size, h.block⟩


end Go.Proofs.Ytnhcmloaanamnaa
