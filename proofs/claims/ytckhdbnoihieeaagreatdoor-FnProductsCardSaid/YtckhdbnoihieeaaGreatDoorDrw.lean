/-
  What is proved here: the law's source of choices, as walks: it never stops, and writes nothing but its own cells. Conditions: the bytes are ones that a machine can hold.
-/
import Derived.Test.YtckhdbnoihieeaaGreatDoorByt
import Derived.Deep.RegionWith
import Derived.BigQuiet
import Derived.Deep.QuietTactic
import Derived.Laws.BitsAllLaws
import Derived.Lib.ItoaWalk
namespace Go.Proofs.YtckhdbnoihieeaaGreatDoor
open Go.RowKit

/-- nothing but one block, and what is new, has changed -/
structure Chg (p : Nat) (w w' : World) : Prop where
  os : w'.os = w.os
  tape : w'.tape = w.tape
  output : w'.output = w.output
  size : w.heap.size ≤ w'.heap.size
  block : ∀ k, k < w.heap.size → k ≠ p → w'.heap[k]? = w.heap[k]?
theorem Chg.refl (p : Nat) (w : World) : Chg p w w := ⟨rfl, rfl, rfl, Nat.le_refl _, fun _ _ _ => rfl⟩
theorem Chg.trans {p : Nat} {a b c : World} (h : Chg p a b) (g : Chg p b c) : Chg p a c :=
  ⟨g.os.trans h.os, g.tape.trans h.tape, g.output.trans h.output, Nat.le_trans h.size g.size, fun k hk hp => (g.block k (Nat.lt_of_lt_of_le hk h.size) hp).trans (h.block k hk hp)⟩
theorem Chg.drewN {p n : Nat} {a b : World} (h : Chg p a b) : Chg p a (b.drewN n) := ⟨h.os, h.tape, h.output, h.size, h.block⟩
theorem Chg.setCell {p : Nat} {a b : World} (h : Chg p a b) (o : Nat) (v : Value) : Chg p a (b.setCell ⟨p, o, none⟩ v) :=
  ⟨h.os, h.tape, h.output, by simpa [World.setCell] using h.size, fun k hk hp => by rw [Below.heap_setCell _ _ _ _ (by exact hp)]; exact h.block k hk hp⟩
theorem Chg.below {p B : Nat} {w w' : World} (h : Chg p w w') (hB : B ≤ w.heap.size) (hp : B ≤ p) : Below B w w' := ⟨h.os, h.tape, h.output, h.size, fun k hk => h.block k (by omega) (by omega)⟩
theorem Chg.ofBelow {p : Nat} {w w' : World} (h : Below w.heap.size w w') : Chg p w w' := ⟨h.os, h.tape, h.output, h.size, fun k hk _ => h.block k hk⟩
theorem Chg.cell {p b o : Nat} {w w' : World} (h : Chg p w w') (hb : b < w.heap.size) (hp : b ≠ p) : w'.cell? ⟨b, o, none⟩ = w.cell? ⟨b, o, none⟩ := World.cell?_of_block (w := w) (h.block b hb hp)

/-- the source stands ready: its cells, its bytes -/
structure Rdy (w : World) (p : Nat) (A : Option Addr) (c : Nat) (zs : List Int) (N : Nat) : Prop where
  lt : p < w.heap.size
  code : w.cell? ⟨p, 0, none⟩ = some (.slice A zs.length c)
  pos : ∃ j : Nat, j ≤ N ∧ w.cell? ⟨p, 1, none⟩ = some (.int .i64 j)
  seed : ∃ s : Int, w.cell? ⟨p, 2, none⟩ = some (.int .u64 s)
  free : ∀ o, w.frozen? ⟨p, o, none⟩ = false
  row : RowB w p A zs
  all : AllB zs
  most : zs.length ≤ 1048576
theorem Rdy.mono {w : World} {p : Nat} {A : Option Addr} {c : Nat} {zs : List Int} {N M : Nat} (h : Rdy w p A c zs N) (hm : N ≤ M) : Rdy w p A c zs M := by
  obtain ⟨j, h1, h2⟩ := h.pos
  exact ⟨h.lt, h.code, ⟨j, by omega, h2⟩, h.seed, h.free, h.row, h.all, h.most⟩
theorem Rdy.below {w w' : World} {p : Nat} {A : Option Addr} {c : Nat} {zs : List Int} {N : Nat} (h : Rdy w p A c zs N) (hb : Below w.heap.size w w') : Rdy w' p A c zs N := by
  obtain ⟨j, h1, h2⟩ := h.pos
  obtain ⟨s, h3⟩ := h.seed
  exact ⟨Nat.lt_of_lt_of_le h.lt hb.size, by rw [hb.cell h.lt]; exact h.code, ⟨j, h1, by rw [hb.cell h.lt]; exact h2⟩, ⟨s, by rw [hb.cell h.lt]; exact h3⟩, fun o => by rw [hb.frozen h.lt]; exact h.free o, h.row.below (hb.mono (Nat.le_of_lt h.lt)), h.all, h.most⟩
theorem Rdy.drewN {w : World} {p : Nat} {A : Option Addr} {c : Nat} {zs : List Int} {N n : Nat} (h : Rdy w p A c zs N) : Rdy (w.drewN n) p A c zs N := ⟨h.lt, h.code, h.pos, h.seed, h.free, h.row, h.all, h.most⟩

theorem Rdy.next {w : World} {p : Nat} {A : Option Addr} {c : Nat} {zs : List Int} {N j : Nat} {s : Int} (h : Rdy w p A c zs N) (hj : j ≤ N) :
    Rdy ((w.setCell ⟨p, 1, none⟩ (.int .i64 ((j : Int) + 1))).setCell ⟨p, 2, none⟩ (.int .u64 s)) p A c zs (N + 1) := by
  obtain ⟨j0, h1, h2⟩ := h.pos
  obtain ⟨s0, h3⟩ := h.seed
  have c2 : (w.setCell ⟨p, 1, none⟩ (.int .i64 ((j : Int) + 1))).cell? ⟨p, 2, none⟩ = some (.int .u64 s0) := by
    rw [World.cell?_setCell_other w _ _ _ (by intro h; injection h with _ h2 _; omega)]; exact h3
  have c1 : (w.setCell ⟨p, 1, none⟩ (.int .i64 ((j : Int) + 1))).cell? ⟨p, 1, none⟩ = some (.int .i64 ((j : Int) + 1)) := World.cell?_setCell_same w _ _ h2
  have hg : Chg p w ((w.setCell ⟨p, 1, none⟩ (.int .i64 ((j : Int) + 1))).setCell ⟨p, 2, none⟩ (.int .u64 s)) := ((Chg.refl p w).setCell 1 _).setCell 2 _
  refine ⟨Nat.lt_of_lt_of_le h.lt hg.size, ?_, ⟨j + 1, by omega, ?_⟩, ⟨s, World.cell?_setCell_same _ _ _ c2⟩, fun o => by rw [World.frozen?_setCell, World.frozen?_setCell]; exact h.free o, ?_, h.all, h.most⟩
  · rw [World.cell?_setCell_other _ _ _ _ (by intro h; injection h with _ h2 _; omega), World.cell?_setCell_other w _ _ _ (by intro h; injection h with _ h2 _; omega)]; exact h.code
  · rw [World.cell?_setCell_other _ _ _ _ (by intro h; injection h with _ h2 _; omega), c1]; rfl
  · exact h.row.below (hg.below (Nat.le_of_lt h.lt) (Nat.le_refl _))

theorem and255 (x : Int) : 0 ≤ bits .and .u64 x 255 ∧ bits .and .u64 x 255 ≤ 255 := by
  have e2 : (BitVec.ofInt 64 (255 : Int)).toNat = 255 := by decide
  have h : ((BitVec.ofInt 64 x) &&& (BitVec.ofInt 64 (255 : Int))).toNat ≤ 255 := by
    rw [BitVec.toNat_and, e2]; exact Nat.and_le_right
  show 0 ≤ IntKind.u64.wrap (((BitVec.ofInt 64 x) &&& (BitVec.ofInt 64 (255 : Int))).toNat : Int) ∧ IntKind.u64.wrap (((BitVec.ofInt 64 x) &&& (BitVec.ofInt 64 (255 : Int))).toNat : Int) ≤ 255
  rw [IntKind.wrap_u64]
  omega

/-- what a draw gives: a number of some kind; the source stands ready -/
def Drew (m N : Nat) (p : Nat) (A : Option Addr) (c : Nat) (zs : List Int) (w : World) (e : Ending) (w' : World) : Prop :=
  ∃ i : Nat, i ≤ m ∧ e = .returned (.int .i64 i) ∧ Hid (Rdy w' p A c zs N) ∧ Hid (Chg p w w')
theorem drew_mk {m N p : Nat} {A : Option Addr} {c : Nat} {zs : List Int} {w w' : World} {z : Int} (h0 : 0 ≤ z) (h1 : z ≤ m) (hr : Rdy w' p A c zs N) (hc : Chg p w w') : Drew m N p A c zs w (.returned (.int .i64 z)) w' :=
  ⟨z.toNat, by omega, by rw [Int.toNat_of_nonneg h0], hr, hc⟩

theorem Rdy.cells {w : World} {p : Nat} {A : Option Addr} {c : Nat} {zs : List Int} {N j : Nat} {s : Int} (h : Rdy w p A c zs N) :
    ((w.setCell ⟨p, 1, none⟩ (.int .i64 ((j : Int) + 1))).setCell ⟨p, 2, none⟩ (.int .u64 s)).cell? ⟨p, 0, none⟩ = some (.slice A zs.length c) ∧
    ((w.setCell ⟨p, 1, none⟩ (.int .i64 ((j : Int) + 1))).setCell ⟨p, 2, none⟩ (.int .u64 s)).cell? ⟨p, 1, none⟩ = some (.int .i64 ((j : Int) + 1)) ∧
    ((w.setCell ⟨p, 1, none⟩ (.int .i64 ((j : Int) + 1))).setCell ⟨p, 2, none⟩ (.int .u64 s)).cell? ⟨p, 2, none⟩ = some (.int .u64 s) := by
  obtain ⟨j0, h1, h2⟩ := h.pos
  obtain ⟨s0, h3⟩ := h.seed
  have c2 : (w.setCell ⟨p, 1, none⟩ (.int .i64 ((j : Int) + 1))).cell? ⟨p, 2, none⟩ = some (.int .u64 s0) := by
    rw [World.cell?_setCell_other w _ _ _ (by intro h; injection h with _ h2 _; omega)]; exact h3
  have c1 : (w.setCell ⟨p, 1, none⟩ (.int .i64 ((j : Int) + 1))).cell? ⟨p, 1, none⟩ = some (.int .i64 ((j : Int) + 1)) := World.cell?_setCell_same w _ _ h2
  refine ⟨?_, ?_, World.cell?_setCell_same _ _ _ c2⟩
  · rw [World.cell?_setCell_other _ _ _ _ (by intro h; injection h with _ h2 _; omega), World.cell?_setCell_other w _ _ _ (by intro h; injection h with _ h2 _; omega)]; exact h.code
  · rw [World.cell?_setCell_other _ _ _ _ (by intro h; injection h with _ h2 _; omega), c1]
theorem chg_two {p j n : Nat} {s : Int} (w : World) : Chg p w (((w.drewN n).setCell ⟨p, 1, none⟩ (.int .i64 ((j : Int) + 1))).setCell ⟨p, 2, none⟩ (.int .u64 s)) := (((Chg.refl p w).drewN).setCell 1 _).setCell 2 _

set_option maxHeartbeats 2000000 in
theorem next_any (w : World) (p : Nat) (A : Option Addr) (c : Nat) (zs : List Int) (N : Nat) (h : Rdy w p A c zs N) (hN : N ≤ 4000000000000) :
    Calls Tryz.prog 52 #[.pointer (some ⟨p, 0, none⟩)] w (Drew 255 (N + 1) p A c zs w) := by
  have H := Lib.hid h
  obtain ⟨j, hj, hc1⟩ := h.pos
  obtain ⟨s, hc2⟩ := h.seed
  have hc0 := h.code
  have hf1 := h.free 1
  have hf2 := h.free 2
  have hm := h.most
  by_cases hlt : j < zs.length
  · obtain ⟨b, off, rfl, hb, hcell⟩ := h.row (by omega)
    have hcb := hcell j hlt
    obtain ⟨z0, z1⟩ := atB_bd h.all j
    generalize atB zs j = z at *
    clear h hcell
    go_enter Tryz.func52, Tryz.ntmps52
    go_wp2_with fail
    go_quiet (fail)
    go_wp2_with fail
    go_quiet (fail)
    go_wp2_with fail
    go_name_world W2 hW2
    have R2 : Hid (Rdy W2 p (some ⟨b, off, none⟩) c zs (N + 1)) := by rw [← hW2]; exact Rdy.next (H.out.drewN) hj
    have C2 : Hid (Chg p w W2) := by rw [← hW2]; exact chg_two w
    obtain ⟨d0, d1, _⟩ : W2.cell? ⟨p, 0, none⟩ = some (.slice (some ⟨b, off, none⟩) zs.length c) ∧ W2.cell? ⟨p, 1, none⟩ = some (.int .i64 ((j : Int) + 1)) ∧ True := by
      rw [← hW2]; exact ⟨(Rdy.cells (H.out.drewN)).1, (Rdy.cells (H.out.drewN)).2.1, trivial⟩
    have hle : (j : Int) + 1 ≤ (zs.length : Int) := by omega
    clear hW2 hc0 hc1 hc2 hcb hf1 hf2
    go_quiet (fail)
    go_wp2_with fail
    go_ret
    exact drew_mk z0 (by omega) R2.out.drewN C2.out.drewN
  · clear h
    have hd1 : (zs.length : Int) ≤ (j : Int) := by omega
    go_enter Tryz.func52, Tryz.ntmps52
    go_wp2_with fail
    go_quiet (fail)
    go_wp2_with fail
    go_name_world W2 hW2
    obtain ⟨E, hE⟩ : ∃ E : Int, W2.cell? ⟨p, 2, none⟩ = some (.int .u64 E) := by
      rw [← hW2]; exact ⟨_, (Rdy.cells (H.out.drewN)).2.2⟩
    have R2 : Hid (Rdy W2 p A c zs (N + 1)) := by rw [← hW2]; exact Rdy.next (H.out.drewN) hj
    have C2 : Hid (Chg p w W2) := by rw [← hW2]; exact chg_two w
    obtain ⟨d0, d1, _⟩ : W2.cell? ⟨p, 0, none⟩ = some (.slice A zs.length c) ∧ W2.cell? ⟨p, 1, none⟩ = some (.int .i64 ((j : Int) + 1)) ∧ True := by
      rw [← hW2]; exact ⟨(Rdy.cells (H.out.drewN)).1, (Rdy.cells (H.out.drewN)).2.1, trivial⟩
    have hle : (zs.length : Int) < (j : Int) + 1 := by omega
    obtain ⟨g0, g1⟩ := and255 (E / 2 ^ 40)
    obtain ⟨q, hq⟩ : ∃ q : Int, bits .and .u64 (E / 1099511627776) 255 = q := ⟨_, rfl⟩
    rw [show (2 : Int) ^ 40 = 1099511627776 by decide, hq] at g0 g1
    clear hW2 hc0 hc1 hc2 hf1 hf2 hlt
    go_quiet (fail)
    go_wp2_with fail
    go_ret
    exact drew_mk g0 (by omega) R2.out.drewN C2.out.drewN

theorem pick_any (n : Nat) (h2 : 2 ≤ n) (hn : n ≤ 100000) (w : World) (p : Nat) (A : Option Addr) (c : Nat) (zs : List Int) (N : Nat) (h : Rdy w p A c zs N) (hN : N ≤ 3000000000000) :
    Calls Tryz.prog 28 #[.pointer (some ⟨p, 0, none⟩), .int .i64 n] w (Drew (n - 1) (N + 2) p A c zs w) := by
  have H := Lib.hid h
  have h2i : (2 : Int) ≤ n := by omega
  have hni : (n : Int) ≤ 100000 := by omega
  clear h
  by_cases hbig : 200 < n
  · have hb : (200 : Int) < n := by omega
    go_enter Tryz.func28, Tryz.ntmps28
    go_wp2_with fail
    refine (next_any _ p A c zs N H.out (by omega)).mono ?_
    rintro e w1 ⟨i, hi, rfl, R1, C1⟩
    go_wp2_with fail
    refine (next_any _ p A c zs (N + 1) R1.out (by omega)).mono ?_
    rintro e w2 ⟨i2, hi2, rfl, R2, C2⟩
    obtain ⟨q, hq⟩ : ∃ q : Int, (i : Int) * 256 + (i2 : Int) = q := ⟨_, rfl⟩
    have q0 : 0 ≤ q := by omega
    have q1 : q ≤ 100000 := by omega
    have m0 := Int.emod_nonneg q (show (n : Int) ≠ 0 by omega)
    have m1 := Int.emod_lt_of_pos q (show (0 : Int) < n by omega)
    have M := Lib.hid (And.intro m0 m1)
    clear m0 m1
    go_wp2_with fail
    go_ret
    exact drew_mk M.out.1 (by have := M.out.2; omega) R2.out (C1.out.trans C2.out)
  · have hb : (n : Int) ≤ 200 := by omega
    clear hbig
    go_enter Tryz.func28, Tryz.ntmps28
    go_wp2_with fail
    refine (next_any _ p A c zs N H.out (by omega)).mono ?_
    rintro e w1 ⟨i, hi, rfl, R1, C1⟩
    have m0 := Int.emod_nonneg (i : Int) (show (n : Int) ≠ 0 by omega)
    have m1 := Int.emod_lt_of_pos (i : Int) (show (0 : Int) < n by omega)
    have M := Lib.hid (And.intro m0 m1)
    clear m0 m1
    go_wp2_with fail
    go_ret
    exact drew_mk M.out.1 (by have := M.out.2; omega) (R1.out.mono (by omega)) C1.out

/-- what a choice of yes or no gives -/
def DrewY (N : Nat) (p : Nat) (A : Option Addr) (c : Nat) (zs : List Int) (w : World) (e : Ending) (w' : World) : Prop :=
  ∃ b : Bool, e = .returned (.bool b) ∧ Hid (Rdy w' p A c zs N) ∧ Hid (Chg p w w')
theorem one_any (n : Nat) (h2 : 2 ≤ n) (hn : n ≤ 100000) (w : World) (p : Nat) (A : Option Addr) (c : Nat) (zs : List Int) (N : Nat) (h : Rdy w p A c zs N) (hN : N ≤ 3000000000000) :
    Calls Tryz.prog 40 #[.pointer (some ⟨p, 0, none⟩), .int .i64 n] w (DrewY (N + 2) p A c zs w) := by
  have H := Lib.hid h
  clear h
  go_enter Tryz.func40, Tryz.ntmps40
  go_wp2_with fail
  refine (pick_any n h2 hn _ p A c zs N H.out hN).mono ?_
  rintro e w1 ⟨i, hi, rfl, R1, C1⟩
  go_wp2_with fail
  go_ret
  exact ⟨_, rfl, R1, C1⟩

/-- what a choice among numbers gives: one of them, whichever -/
def DrewZ (N : Nat) (p : Nat) (A : Option Addr) (c : Nat) (zs : List Int) (w : World) (e : Ending) (w' : World) : Prop :=
  ∃ z : Int, e = .returned (.int .i64 z) ∧ Hid (Rdy w' p A c zs N) ∧ Hid (Chg p w w')
theorem among_any (k g cap : Nat) (f : Nat → Int) (w : World) (p : Nat) (A : Option Addr) (c : Nat) (zs : List Int) (N : Nat) (h : Rdy w p A c zs N) (hN : N ≤ 3000000000000) (h2 : 2 ≤ k) (hk : k ≤ 100000) (hg : g < w.heap.size) (hp : g ≠ p)
    (hc : ∀ i, i < k → w.cell? ⟨g, i, none⟩ = some (.int .i64 (f i))) :
    Calls Tryz.prog 62 #[.pointer (some ⟨p, 0, none⟩), .slice (some ⟨g, 0, none⟩) k cap] w (DrewZ (N + 2) p A c zs w) := by
  have H := Lib.hid h
  have HC := Lib.hid hc
  have HG := Lib.hid (And.intro hg hp)
  clear h hc hg hp
  go_enter Tryz.func62, Tryz.ntmps62
  go_wp2_with fail
  refine (pick_any k h2 hk _ p A c zs N H.out hN).mono ?_
  rintro e w1 ⟨i, hi, rfl, R1, C1⟩
  have hlt : i < k := by omega
  have hcell := HC.out i hlt
  rw [← C1.out.cell HG.out.1 HG.out.2] at hcell
  go_wp2_with fail
  go_ret
  exact ⟨_, rfl, R1, C1⟩

/-- a source of its own -/
theorem from_any (A : Option Addr) (c : Nat) (zs : List Int) (w : World) (hr : RowB w w.heap.size A zs) (ha : AllB zs) (hl : zs.length ≤ 1048576) :
    Calls Tryz.prog 27 #[.slice A zs.length c] w fun e w' => ∃ p, e = .returned (.pointer (some ⟨p, 0, none⟩)) ∧ Hid (w.heap.size ≤ p) ∧ Hid (Rdy w' p A c zs 0) ∧ Hid (Below w.heap.size w w') := by
  have HR := Lib.hid hr
  have HA := Lib.hid ha
  clear hr ha
  go_enter Tryz.func27, Tryz.ntmps27
  go_wp2_with fail
  go_ret
  refine ⟨w.heap.size, rfl, Nat.le_refl _, ⟨by simp, ?_, ⟨0, Nat.le_refl _, ?_⟩, ⟨0, ?_⟩, fun o => ?_, HR.out.below ((Below.refl _ _).alloc (Nat.le_refl _) _), HA.out, hl⟩, (Below.refl _ _).alloc (Nat.le_refl _) _⟩
  · simp [World.cell?, World.alloc, -World.alloc_eq]
  · simp [World.cell?, World.alloc, -World.alloc_eq]
  · simp [World.cell?, World.alloc, -World.alloc_eq]
  · simp [World.frozen?, World.alloc, -World.alloc_eq]

end Go.Proofs.YtckhdbnoihieeaaGreatDoor
