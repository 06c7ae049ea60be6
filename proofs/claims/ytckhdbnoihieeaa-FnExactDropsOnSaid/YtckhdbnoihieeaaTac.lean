/-
  What is proved here: numbers that are at least nothing, of both packages, as walks; a difference that is a number; what two blocks apart from one another leave of each other. Conditions: none but those that each theorem names.
-/
import Derived.Test.YtckhdbnoihieeaaTap
import Derived.Test.YtckhdbnoihieeaaBes
namespace Go.Proofs.Ytckhdbnoihieeaa
open Flt Go.RowKit
set_option linter.unusedVariables false

theorem geO_eq (o : Option Ordering) : geO o = (o == some .gt || o == some .eq) := by rcases ord4 o with h | h | h | h <;> subst h <;> rfl
theorem leO_eq (o : Option Ordering) : leO o = (o == some .lt || o == some .eq) := by rcases ord4 o with h | h | h | h <;> subst h <;> rfl
def gtB (x y : Nat) : Bool := FloatKind.f32.format.order x y == some .gt
def ltB (x y : Nat) : Bool := FloatKind.f32.format.order x y == some .lt
theorem gtO_eq {r : Nat} {o : Option Nat} (h : can .f32 r = o) : gtO o = gtB r 0 := by
  unfold gtO gtB; rw [← h, ← ford_can]

theorem specLeast (x : Nat) (w : World) : Calls Try.prog 53 #[.float .f32 x] w fun e w' => e = .returned (.bool (leastB x)) ∧ ∃ n, w' = w.drewN n := by
  cases hf : finB .f32 x
  · have N : Hid (leastB x = false) := by show _ = _; unfold leastB; rw [hf]; rfl
    have HF := Lib.hid hf
    clear hf
    go_enter Try.func53, Try.ntmps53
    go_wp2_with fail
    refine (specFin x w).mono ?_
    rintro e b ⟨rfl, n, rfl⟩
    rw [HF.out]
    go_wp2_with fail
    go_ret
    exact ⟨by rw [N.out]; rfl, n, rfl⟩
  · have N : Hid (leastB x = geO (FloatKind.f32.format.order x 0)) := by show _ = _; unfold leastB; rw [hf]; rfl
    have HF := Lib.hid hf
    clear hf
    go_enter Try.func53, Try.ntmps53
    go_wp2_with fail
    refine (specFin x w).mono ?_
    rintro e b ⟨rfl, n, rfl⟩
    rw [HF.out]
    go_wp2_with fail
    go_ret
    exact ⟨by rw [N.out, geO_eq]; rfl, n, rfl⟩
theorem implLeast (x : Nat) (w : World) : Calls Try.prog 55 #[.float .f32 x] w fun e w' => e = .returned (.bool (leastB x)) ∧ ∃ n, w' = w.drewN n := by
  cases hf : finB .f32 x
  · have N : Hid (leastB x = false) := by show _ = _; unfold leastB; rw [hf]; rfl
    have HF := Lib.hid hf
    clear hf
    go_enter Try.func55, Try.ntmps55
    go_wp2_with fail
    refine (implFin x w).mono ?_
    rintro e b ⟨rfl, n, rfl⟩
    rw [HF.out]
    go_wp2_with fail
    go_ret
    exact ⟨by rw [N.out]; rfl, n, rfl⟩
  · have N : Hid (leastB x = geO (FloatKind.f32.format.order x 0)) := by show _ = _; unfold leastB; rw [hf]; rfl
    have HF := Lib.hid hf
    clear hf
    go_enter Try.func55, Try.ntmps55
    go_wp2_with fail
    refine (implFin x w).mono ?_
    rintro e b ⟨rfl, n, rfl⟩
    rw [HF.out]
    go_wp2_with fail
    go_ret
    exact ⟨by rw [N.out, geO_eq]; rfl, n, rfl⟩

/-- a number less a finite one is a number -/
theorem sub_any {x y : Nat} (hx : nanW .f32 x = false) (hy : finB .f32 y = true) : ∃ r, floatBits .sub .f32 x y = some r := by
  rcases three .f32 x with h | h | h
  · obtain ⟨r, hr, _⟩ := dif_gt (of_decide_eq_true (decide_eq_true h) |> fun h => decide_eq_true h) hy
    exact ⟨r, hr⟩
  · obtain ⟨n, e, hs, _⟩ := read_V (of_decide_eq_true hy : y % FloatKind.f32.format.signWeight < FloatKind.f32.format.infRung)
    have h' : ((FloatKind.f32.format.read x).sum (FloatKind.f32.format.read y).opposite).map FloatKind.f32.format.write = floatBits .sub .f32 x y := rfl
    rw [read_inf h, hs] at h'
    exact ⟨_, h'.symm⟩
  · rw [nanW_of_lt h] at hx; cases hx

theorem ButIn.trans {lo hi : Nat} {a b c : World} (h : ButIn lo hi a b) (g : ButIn lo hi b c) : ButIn lo hi a c :=
  ⟨g.os.trans h.os, g.tape.trans h.tape, g.output.trans h.output, Nat.le_trans h.size g.size, fun k hk hd => (g.block k (Nat.lt_of_lt_of_le hk h.size) hd).trans (h.block k hk hd)⟩
theorem ButIn.andB {lo hi : Nat} {a b c : World} (h : ButIn lo hi a b) (g : Below b.heap.size b c) : ButIn lo hi a c :=
  ⟨g.os.trans h.os, g.tape.trans h.tape, g.output.trans h.output, Nat.le_trans h.size g.size, fun k hk hd => (g.block k (Nat.lt_of_lt_of_le hk h.size)).trans (h.block k hk hd)⟩

/-- a list of integers from a block on -/
def LstR (w : World) (lo : Nat) (B : Option Addr) (L : List Int) : Prop :=
  0 < L.length → ∃ b off, B = some ⟨b, off, none⟩ ∧ lo ≤ b ∧ b < w.heap.size ∧ ∀ j, j < L.length → w.cell? ⟨b, off + j, none⟩ = some (.int .i64 (atI L j))
theorem LstR.of {w : World} {lo d : Nat} {B : Option Addr} {L : List Int} (h : Fk.GroI w lo L B d) : LstR w lo B L := fun h0 => by
  obtain ⟨b, off, hA, h1, h2, hc, _⟩ := h.rowW.row h0
  exact ⟨b, off, hA, h1, h2, hc⟩
theorem LstR.but {w w' : World} {lo l h : Nat} {B : Option Addr} {L : List Int} (r : LstR w lo B L) (hb : ButIn l h w w') (hd : h ≤ lo) : LstR w' lo B L := fun h0 => by
  obtain ⟨b, off, hA, h1, h2, hc⟩ := r h0
  have e : w'.heap[b]? = w.heap[b]? := hb.block b h2 (by omega)
  exact ⟨b, off, hA, h1, Nat.lt_of_lt_of_le h2 hb.size, fun j hj => by rw [World.cell?_of_block (w := w) e]; exact hc j hj⟩
theorem LstR.lower {w : World} {lo lo' : Nat} {B : Option Addr} {L : List Int} (r : LstR w lo B L) (h : lo' ≤ lo) : LstR w lo' B L := fun h0 => by
  obtain ⟨b, off, hA, h1, h2, hc⟩ := r h0
  exact ⟨b, off, hA, by omega, h2, hc⟩

theorem LstR.at {w : World} {lo b off j : Nat} {L : List Int} (r : LstR w lo (some ⟨b, off, none⟩) L) (hj : j < L.length) : w.cell? ⟨b, off + j, none⟩ = some (.int .i64 (atI L j)) := by
  obtain ⟨b', off', hA, _, _, hc⟩ := r (by omega)
  injection hA with hA
  injection hA with e1 e2 _
  subst e1 e2
  exact hc j hj
/-- the sides of a place are places, and others -/
theorem side_at {x y i : Int} {n : Nat} (hx : 1 ≤ x) (h0 : 0 ≤ i) (hi : i < x * y) (hn : (n : Int) = x * y) {k : Nat} (hk : k < (Fk.sidL x y i).length) : ∃ j : Nat, atI (Fk.sidL x y i) k = j ∧ j < n ∧ (j : Int) ≠ i := by
  have hm : atI (Fk.sidL x y i) k ∈ Fk.sidL x y i := by
    unfold atI
    rw [List.getD_eq_getElem?_getD, List.getElem?_eq_getElem hk]
    exact List.getElem_mem hk
  obtain ⟨g1, g2⟩ := Fk.sidL_mem hx h0 hi _ hm
  have hne : atI (Fk.sidL x y i) k ≠ i := by
    generalize atI (Fk.sidL x y i) k = s at hm
    unfold Fk.sidL at hm
    rw [List.mem_append, List.mem_append, List.mem_append] at hm
    rcases hm with ((h | h) | h) | h <;> (split at h; (rw [List.mem_singleton] at h; omega); cases h)
  refine ⟨(atI (Fk.sidL x y i) k).toNat, by omega, by omega, by omega⟩

theorem shB_sides {x y : Int} {zs : List Nat} (h : shB x y zs = true) : sidesB x y = true ∧ 1 ≤ x ∧ (zs.length : Int) = x * y := by
  unfold shB at h
  simp only [Bool.and_eq_true, beq_iff_eq] at h
  obtain ⟨h1, h2, h3, _⟩ := h
  exact ⟨by unfold sidesB; rw [h1, h2]; rfl, (inB_yes h1).1, h3⟩

end Go.Proofs.Ytckhdbnoihieeaa
