/-
  What is proved here: lists of texts, compared, marked and looked at by the law, as walks. Conditions: at most 1048576 texts.
-/
import Derived.Test.YtegbclfjcckglaaDoorRlA
import Derived.Test.YtegbclfjcckglaaDoorInts
import Derived.Deep.QuietTactic
import Derived.Deep.RegionHeld3
namespace Go.Proofs.YtegbclfjcckglaaDoor
open Go.RowKit

def atT (ss : List ByteArray) (j : Nat) : ByteArray := ss.getD j ByteArray.empty
theorem atT_eq {ss : List ByteArray} {j : Nat} (h : j < ss.length) : atT ss j = ss[j] := by simp [atT, List.getD, h]
theorem ext_atT {ss ts : List ByteArray} (h : ss.length = ts.length) (e : ∀ j, j < ss.length → atT ss j = atT ts j) : ss = ts := by
  apply List.ext_getElem h
  intro j h1 h2
  have := e j h1
  rwa [atT_eq h1, atT_eq h2] at this

/-- a row of texts below a block -/
def RowT (w : World) (B : Nat) (A : Option Addr) (ss : List ByteArray) : Prop :=
  0 < ss.length → ∃ b off, A = some ⟨b, off, none⟩ ∧ b < B ∧ ∀ j, j < ss.length → w.cell? ⟨b, off + j, none⟩ = some (.string (atT ss j))

/-- a row of texts from a block on, that may be written -/
def OwnT (w : World) (B : Nat) (A : Option Addr) (ss : List ByteArray) : Prop :=
  0 < ss.length → ∃ b off, A = some ⟨b, off, none⟩ ∧ B ≤ b ∧ b < w.heap.size ∧ (∀ j, j < ss.length → w.cell? ⟨b, off + j, none⟩ = some (.string (atT ss j))) ∧ ∀ j, j < ss.length → w.frozen? ⟨b, off + j, none⟩ = false

theorem RowT.below {w w' : World} {B : Nat} {A : Option Addr} {ss : List ByteArray} (h : RowT w B A ss) (hb : Below B w w') : RowT w' B A ss := by
  intro h0
  obtain ⟨b, off, hA, hlt, hc⟩ := h h0
  exact ⟨b, off, hA, hlt, fun j hj => by rw [hb.cell hlt]; exact hc j hj⟩
theorem RowT.mono {w : World} {B B' : Nat} {A : Option Addr} {ss : List ByteArray} (h : RowT w B A ss) (hb : B ≤ B') : RowT w B' A ss := by
  intro h0
  obtain ⟨b, off, hA, hlt, hc⟩ := h h0
  exact ⟨b, off, hA, by omega, hc⟩
theorem RowT.carry {w w' : World} {A : Option Addr} {ss : List ByteArray} (h : RowT w w.heap.size A ss) (hb : Below w.heap.size w w') : RowT w' w'.heap.size A ss := (h.below hb).mono hb.size
theorem OwnT.row {w : World} {B : Nat} {A : Option Addr} {ss : List ByteArray} (h : OwnT w B A ss) : RowT w w.heap.size A ss := by
  intro h0
  obtain ⟨b, off, hA, _, hlt, hc, _⟩ := h h0
  exact ⟨b, off, hA, hlt, hc⟩
theorem OwnT.below {w w' : World} {B : Nat} {A : Option Addr} {ss : List ByteArray} (h : OwnT w B A ss) (hb : Below w.heap.size w w') : OwnT w' B A ss := by
  intro h0
  obtain ⟨b, off, hA, hle, hlt, hc, hf⟩ := h h0
  exact ⟨b, off, hA, hle, Nat.lt_of_lt_of_le hlt hb.size, fun j hj => by rw [hb.cell hlt]; exact hc j hj, fun j hj => by rw [hb.frozen hlt]; exact hf j hj⟩
theorem OwnT.mono {w : World} {B B' : Nat} {A : Option Addr} {ss : List ByteArray} (h : OwnT w B A ss) (hb : B' ≤ B) : OwnT w B' A ss := by
  intro h0
  obtain ⟨b, off, hA, hle, hlt, hc, hf⟩ := h h0
  exact ⟨b, off, hA, by omega, hlt, hc, hf⟩

theorem OwnT.setLow {w : World} {B : Nat} {A : Option Addr} {ss : List ByteArray} (h : OwnT w B A ss) {q : Addr} (hq : q.block < B) (u : Value) : OwnT (w.setCell q u) B A ss := by
  intro h0
  obtain ⟨b, off, hA, hle, hlt, hc, hf⟩ := h h0
  have e : (w.setCell q u).heap[b]? = w.heap[b]? := Below.heap_setCell _ _ _ _ (by omega)
  exact ⟨b, off, hA, hle, by simpa [World.setCell] using hlt, fun j hj => by rw [World.cell?_of_block (w := w) e]; exact hc j hj, fun j hj => by rw [World.frozen?_of_block (w := w) e]; exact hf j hj⟩

theorem markText_any (q : Int) (k : Nat) (hq : q = k) (h0 : 0 < k) (h1 : k < 4194304) (w : World) :
    Calls Tryd.prog 80 #[.int .i64 q] w fun e w' => e = .returned (.string (mtx k)) ∧ Below w.heap.size w w' := by subst hq; exact markText_is k h0 h1 w

/-- all that was stands but one block, and more may lie behind -/
structure ButT (B : Nat) (A : Option Addr) (w w' : World) : Prop where
  os : w'.os = w.os
  tape : w'.tape = w.tape
  output : w'.output = w.output
  size : w.heap.size ≤ w'.heap.size
  block : ∀ k, k < w.heap.size → (∀ a, A = some a → k ≠ a.block) → w'.heap[k]? = w.heap[k]?
  low : ∀ k, k < B → w'.heap[k]? = w.heap[k]?

theorem ButT.refl (B : Nat) (A : Option Addr) (w : World) : ButT B A w w := ⟨rfl, rfl, rfl, Nat.le_refl _, fun _ _ _ => rfl, fun _ _ => rfl⟩
theorem ButT.setCell {B : Nat} {A : Option Addr} {a w : World} (h : ButT B A a w) {p q : Addr} (hA : A = some p) (hp : q.block = p.block) (hB : B ≤ p.block) (u : Value) : ButT B A a (w.setCell q u) :=
  ⟨h.os, h.tape, h.output, by have := h.size; simpa [World.setCell] using this, fun k hl hk => by rw [Below.heap_setCell _ _ _ _ (by rw [hp]; exact hk p hA)]; exact h.block k hl hk, fun k hk => by rw [Below.heap_setCell _ _ _ _ (by rw [hp]; omega)]; exact h.low k hk⟩
theorem ButT.more {B : Nat} {A : Option Addr} {a w w' : World} (h : ButT B A a w) (hb : Below w.heap.size w w') (hB : B ≤ a.heap.size) : ButT B A a w' :=
  ⟨hb.os.trans h.os, hb.tape.trans h.tape, hb.output.trans h.output, Nat.le_trans h.size hb.size, fun k hl hk => (hb.block k (Nat.lt_of_lt_of_le hl h.size)).trans (h.block k hl hk), fun k hk => (hb.block k (by have := h.size; omega)).trans (h.low k hk)⟩
theorem ButT.joinLow {B : Nat} {A : Option Addr} {a b c : World} (h : Below a.heap.size a b) (k : ButT B A b c) (hB : B ≤ a.heap.size) : ButT B A a c :=
  ⟨k.os.trans h.os, k.tape.trans h.tape, k.output.trans h.output, Nat.le_trans h.size k.size, fun i hl hk => (k.block i (Nat.lt_of_lt_of_le hl h.size) hk).trans (h.block i hl), fun i hi => (k.low i hi).trans (h.block i (by omega))⟩
theorem ButT.toBelow {B : Nat} {A : Option Addr} {a w : World} (h : ButT B A a w) : Below B a w := ⟨h.os, h.tape, h.output, h.size, h.low⟩
theorem RowT.butT {w w' : World} {B B' : Nat} {A C : Option Addr} {ss : List ByteArray} (h : RowT w B' C ss) (hb : ButT B A w w') (hB : B' ≤ B) : RowT w' B' C ss := h.below (hb.toBelow.mono hB)
theorem OwnT.butT {w w' : World} {B B' : Nat} {A C : Option Addr} {ss : List ByteArray} (h : OwnT w B' C ss) (hb : ButT B A w w') (hA : ∀ a, A = some a → a.block < B') : OwnT w' B' C ss := by
  intro h0
  obtain ⟨b, off, hC, hle, hlt, hc, hf⟩ := h h0
  have e : w'.heap[b]? = w.heap[b]? := hb.block b hlt fun a ha => by have := hA a ha; omega
  exact ⟨b, off, hC, hle, Nat.lt_of_lt_of_le hlt hb.size, fun j hj => by rw [World.cell?_of_block (w := w) e]; exact hc j hj, fun j hj => by rw [World.frozen?_of_block (w := w) e]; exact hf j hj⟩

theorem OwnT.set {w : World} {B k b off : Nat} {ss ts : List ByteArray} {x : ByteArray} (h : OwnT w B (some ⟨b, off, none⟩) ss) (hk : k < ss.length) (hl : ts.length = ss.length) (hz : ∀ j, j < ss.length → atT ts j = if j = k then x else atT ss j) :
    OwnT (w.setCell ⟨b, off + k, none⟩ (.string x)) B (some ⟨b, off, none⟩) ts := by
  intro _
  obtain ⟨b', off', e, hle, hlt, hc, hf⟩ := h (by omega)
  injection e with e
  injection e with e1 e2 _
  subst e1 e2
  refine ⟨b, off, rfl, hle, by simpa [World.setCell] using hlt, fun j hj => ?_, fun j hj => by rw [World.frozen?_setCell]; exact hf j (by omega)⟩
  rw [hz j (by omega)]
  by_cases e : j = k
  · subst e
    rw [World.cell?_setCell_same w _ _ (hc j (by omega)), if_pos rfl]
  · rw [World.cell?_setCell_other w _ _ _ (by intro h; injection h with _ h2 _; omega), hc j (by omega), if_neg e]

/-- marks from one on -/
def upT (m n : Nat) : List ByteArray := (List.range n).map fun j => mtx (m + j)
theorem upT_length (m n : Nat) : (upT m n).length = n := by simp [upT]
theorem at_upT {m n j : Nat} (h : j < n) : atT (upT m n) j = mtx (m + j) := by simp [atT, upT, List.getD, h]
/-- k of them, and then what was -/
def mixT (ss : List ByteArray) (m k : Nat) : List ByteArray := (List.range ss.length).map fun j => if j < k then mtx (m + j) else atT ss j
theorem mixT_length (ss : List ByteArray) (m k : Nat) : (mixT ss m k).length = ss.length := by simp [mixT]
theorem at_mixT {ss : List ByteArray} {m k j : Nat} (h : j < ss.length) : atT (mixT ss m k) j = if j < k then mtx (m + j) else atT ss j := by simp [atT, mixT, List.getD, h]
theorem mixT_zero (ss : List ByteArray) (m : Nat) : mixT ss m 0 = ss := by
  apply List.ext_getElem (by simp [mixT])
  intro j h1 h2
  simp [mixT, atT, List.getD, h2]
theorem mixT_all (ss : List ByteArray) (m : Nat) : mixT ss m ss.length = upT m ss.length := by
  apply List.ext_getElem (by simp [mixT, upT])
  intro j h1 h2
  simp [upT] at h2
  simp [mixT, upT, h2]
theorem mixT_succ {ss : List ByteArray} {m k j : Nat} (h : j < ss.length) : atT (mixT ss m (k + 1)) j = if j = k then mtx (m + k) else atT (mixT ss m k) j := by
  rw [at_mixT h, at_mixT h]
  by_cases e : j = k
  · subst e; rw [if_pos (by omega), if_pos rfl]
  · rw [if_neg e]
    by_cases h : j < k
    · rw [if_pos h, if_pos (by omega)]
    · rw [if_neg h, if_neg (by omega)]

theorem keepT1 {w wa wb : World} {b o : Nat} {v : Value} (hb : Below wa.heap.size wa wb) (hc : wa.cell? ⟨b, o, none⟩ = some v) (hB : Hid (Below w.heap.size w wa)) (hlt : b < w.heap.size) : wb.cell? ⟨b, o, none⟩ = some v ∧ Hid (Below w.heap.size w wb) :=
  ⟨by rw [hb.cell (p := ⟨b, o, none⟩) (Nat.lt_of_lt_of_le hlt hB.out.size)]; exact hc, hB.out.trans (hb.mono hB.out.size)⟩


theorem eqStr_is (A B : Option Addr) (c d : Nat) (ss : List ByteArray) (w : World) (Z : Nat) (hr : RowT w Z A ss) (hq : RowT w Z B ss) (hN : ss.length ≤ 1048576) :
    Calls Tryd.prog 30 #[.slice A ss.length c, .slice B ss.length d] w fun e w' => e = .returned (.bool true) ∧ ∃ n, w' = w.drewN n := by
  have HR := Lib.hid hr
  have HQ := Lib.hid hq
  clear hr hq
  go_enter Tryd.func30, Tryd.ntmps30
  go_wp2
  go_loopw [5] (fun i wr => ∃ k : Nat, k ≤ ss.length ∧ i = .int .i64 k ∧ ∃ n, wr = w.drewN n) (fun i _ => ss.length - (intOf i).toNat)
  case atStart => exact ⟨0, Nat.zero_le _, rfl, 0, rfl⟩
  case round =>
    obtain ⟨k, hk, rfl, n, rfl⟩ := hrel
    by_cases hlt : k < ss.length
    · obtain ⟨b, off, rfl, hb, hcell⟩ := HR.out (by omega)
      obtain ⟨b2, off2, rfl, hb2, hcell2⟩ := HQ.out (by omega)
      have hc := hcell k hlt
      have hd := hcell2 k hlt
      generalize atT ss k = x at hc hd
      clear hcell hcell2
      go_wp2_with fail
      go_quiet (fail)
      go_wp2_with fail
      go_roundw
      case rel => exact ⟨k + 1, by omega, by go_num, _, rfl⟩
      case measure => simp [intOf]; omega
    · go_wp2
      go_ret
      exact ⟨rfl, _, rfl⟩

theorem markStr_is (A : Option Addr) (c m B : Nat) (ss : List ByteArray) (w : World) (hB0 : B ≤ w.heap.size) (hr : OwnT w B A ss) (hN : ss.length ≤ 1048576) (hm : m ≤ 4) (hm0 : 0 < m) :
    Calls Tryd.prog 33 #[.slice A ss.length c, .int .i64 m] w fun e w' => e = .returned (.int .i64 (m + ss.length : Nat)) ∧ Hid (OwnT w' B A (upT m ss.length)) ∧ Hid (ButT B A w w') := by
  have HR : Hid (OwnT w B A (mixT ss m 0)) := by rw [mixT_zero]; exact hr
  clear hr
  go_enter Tryd.func33, Tryd.ntmps33
  go_wp2
  go_loopw [1, 5] (fun q i wr => ∃ k : Nat, k ≤ ss.length ∧ i = .int .i64 k ∧ q = .int .i64 (m + k : Nat) ∧ Hid (OwnT wr B A (mixT ss m k)) ∧ Hid (ButT B A w wr)) (fun _ i _ => ss.length - (intOf i).toNat)
  case atStart => exact ⟨0, Nat.zero_le _, rfl, rfl, HR, ButT.refl _ _ _⟩
  case round =>
    obtain ⟨k, hk, rfl, rfl, hC, hB⟩ := hrel
    by_cases hlt : k < ss.length
    · have O1 := hC.out
      obtain ⟨b, off, rfl, hle, hb, hcell, hfree⟩ := hC.out (by rw [mixT_length]; omega)
      clear hcell hfree
      go_wp2_with fail
      refine (markText_any _ (m + k) (by omega) (by omega) (by omega) _).mono ?_
      rintro e w1 ⟨rfl, hb1⟩
      have O2 := O1.below hb1
      have G2 := hB.out.more hb1 hB0
      obtain ⟨b', off', e, _, _, hcell, hfree⟩ := O2 (by rw [mixT_length]; omega)
      injection e with e
      injection e with e1 e2 _
      subst e1 e2
      have hc := hcell k (by rw [mixT_length]; omega)
      have hf := hfree k (by rw [mixT_length]; omega)
      have N1 := Lib.hid (O2.set (k := k) (ts := mixT ss m (k + 1)) (x := mtx (m + k)) (by rw [mixT_length]; omega) (by rw [mixT_length, mixT_length]) fun j hj => mixT_succ (by rwa [mixT_length] at hj))
      have N2 := Lib.hid (G2.setCell (p := ⟨b, off, none⟩) (q := ⟨b, off + k, none⟩) rfl rfl hle (.string (mtx (m + k))))
      clear O1 O2 G2 hb1 hcell hfree hC hB
      go_wp2_with fail
      go_roundw
      case rel => exact ⟨k + 1, by omega, by go_num, by go_num, N1, N2⟩
      case measure => simp [intOf]; omega
    · have HE : Hid (mixT ss m k = upT m ss.length) := by rw [show k = ss.length by omega, mixT_all]; exact rfl
      have HK : Hid (k = ss.length) := by show k = _; omega
      go_wp2
      go_ret
      exact ⟨by rw [HK.out]; rfl, by rw [← HE.out]; exact hC, hB⟩

theorem heldStr_is (A : Option Addr) (n c m Z : Nat) (w : World) (hZ : Z ≤ w.heap.size) (hr : RowT w Z A (upT m n)) (hN : n ≤ 1048576) (hm : m ≤ 4) (hm0 : 0 < m) :
    Calls Tryd.prog 34 #[.slice A n c, .int .i64 m] w fun e w' => e = .returned (.int .i64 (m + n : Nat)) ∧ Hid (Below w.heap.size w w') := by
  have HR := Lib.hid hr
  clear hr
  go_enter Tryd.func34, Tryd.ntmps34
  go_wp2
  go_loopw [1, 5] (fun q i wr => ∃ k : Nat, k ≤ n ∧ i = .int .i64 k ∧ q = .int .i64 (m + k : Nat) ∧ Hid (Below w.heap.size w wr)) (fun _ i _ => n - (intOf i).toNat)
  case atStart => exact ⟨0, Nat.zero_le _, rfl, rfl, Below.refl _ _⟩
  case round =>
    obtain ⟨k, hk, rfl, rfl, hB⟩ := hrel
    by_cases hlt : k < n
    · obtain ⟨b, off, rfl, hb, hcell⟩ := HR.out (by rw [upT_length]; omega)
      have hc := hcell k (by rw [upT_length]; omega)
      rw [at_upT hlt] at hc
      have hbz := Nat.lt_of_lt_of_le hb hZ
      rw [← hB.out.cell (p := ⟨b, _, none⟩) hbz] at hc
      have hBd : Hid (Below w.heap.size w wr.drew) := hB.out.drew
      clear hcell
      go_wp2_with fail
      go_region_held3 (fun w' => w'.cell? ⟨b, off + k, none⟩ = some (.string (mtx (m + k))) ∧ Hid (Below w.heap.size w w')) (first | (exact ⟨by assumption, by assumption⟩) | go_keep)
        ((go_at_call 80; refine (markText_any _ (m + k) (by omega) (by omega) (by omega) _).mono ?_; rintro e w' ⟨rfl, hb3⟩; obtain ⟨hk1, hk2⟩ := keepT1 (o := off + k) (v := .string (mtx (m + k))) hb3 (by assumption) (by assumption) hbz))
      clear hb3 hBd hB hc hk1
      go_wp2_with fail
      go_roundw
      case rel => exact ⟨k + 1, by omega, by go_num, by go_num, hk2⟩
      case measure => simp [intOf]; omega
    · have HK : Hid (k = n) := by show k = n; omega
      go_wp2
      go_ret
      exact ⟨by rw [HK.out]; rfl, hB⟩

end Go.Proofs.YtegbclfjcckglaaDoor
