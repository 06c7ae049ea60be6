/-
  What is proved here: how many sides of a cell are among cells, as the program tells it, as a walk. Conditions: sides of a field, a cell of it.
-/
import Derived.Test.YteojpmnnpinpeaaSdj
namespace Go.Proofs.Yteojpmnnpinpeaa
open Go.RowKit
set_option linter.unusedVariables false

theorem GroI.cap {w : World} {G c : Nat} {L : List Int} {A : Option Addr} (h : GroI w G L A c) : L.length ≤ c := by
  rcases h.2 with ⟨h1, _⟩ | ⟨g, cap, cur, h0, hbg, hg, hnc, _⟩
  · injection h1 with e1 e2 e3
    omega
  · injection h0 with e1 e2 e3
    omega

theorem sidL_mem {x y i : Int} (hx : 1 ≤ x) (h0 : 0 ≤ i) (hi : i < x * y) : ∀ s ∈ sidL x y i, 0 ≤ s ∧ s < x * y := by
  obtain ⟨e, q0, q1, r0, r1⟩ := div_facts hx h0 hi
  have hm : x * (i / x + 1) ≤ x * y := Int.mul_le_mul_of_nonneg_left (by omega) (by omega)
  rw [Int.mul_add, Int.mul_one] at hm
  have hq : 0 ≤ x * (i / x) := Int.mul_nonneg (by omega) q0
  intro s hs
  unfold sidL at hs
  rw [List.mem_append, List.mem_append, List.mem_append] at hs
  rcases hs with ((h | h) | h) | h
  · split at h
    · rw [List.mem_singleton] at h; subst h; omega
    · cases h
  · split at h
    · rw [List.mem_singleton] at h; subst h; omega
    · cases h
  · split at h
    · rw [List.mem_singleton] at h; subst h; omega
    · cases h
  · split at h
    · rw [List.mem_singleton] at h; subst h; omega
    · cases h
theorem sidL_cells {x y i : Int} {n : Nat} (hx : 1 ≤ x) (h0 : 0 ≤ i) (hi : i < x * y) (hn : (n : Int) = x * y) : CellsL (sidL x y i) n := fun j hj => by
  have hm : atI (sidL x y i) j ∈ sidL x y i := by
    unfold atI
    rw [List.getD_eq_getElem?_getD, List.getElem?_eq_getElem hj]
    exact List.getElem_mem hj
  have := sidL_mem hx h0 hi _ hm
  rw [hn]; exact this

/-- how many sides of a cell are full -/
def fulS (p : Nat → Bool) (x y i : Int) : Nat := (kepL p (sidL x y i) (sidL x y i).length).length
theorem fulS_le (p : Nat → Bool) (x y i : Int) : fulS p x y i ≤ 4 := Nat.le_trans (kepL_le _ _ _) (sidL_len x y i)

theorem cell1_new (W : World) (v : Value) (t : TypeId) : (W.alloc (.cells #[v] t)).cell? ⟨W.heap.size, 0, none⟩ = some v := by
  simp [World.cell?, World.alloc, -World.alloc_eq]
set_option maxHeartbeats 2000000 in
theorem implAmo (x y i : Int) (F : Option Addr) (n f : Nat) (A : Option Addr) (c : Nat) (p : Nat → Bool) (hv : fvB x y n = true) (h0 : 0 ≤ i) (hi : i < x * y) (w : World) (hr : RowV w w.heap.size A n (bo p)) :
    Calls Try.prog 83 #[.agg #[.int .i64 x, .int .i64 y, .slice F n f], .int .i64 i, .slice A n c] w fun e w' => ∃ X' c', e = .returned (.slice X' (fulS p x y i) c') ∧ Hid (Below w.heap.size w w') := by
  obtain ⟨⟨hx, hy⟩, hnn, hn1, hn2⟩ := fvB_yes hv
  have hsd : sidB x y = true := by
    cases e : sidB x y with
    | true => rfl
    | false => rw [fvB_1 e] at hv; cases hv
  have b1 : Below w.heap.size w (w.alloc (.cells #[.int .i64 x, .int .i64 y, .slice F n f] 35)) := (Below.refl _ _).alloc (Nat.le_refl _) _
  have b2 : Below w.heap.size w ((w.alloc (.cells #[.int .i64 x, .int .i64 y, .slice F n f] 35)).alloc (.cells #[.slice A n c] 28)) := b1.alloc (by simp) _
  have hsz : ((w.alloc (.cells #[.int .i64 x, .int .i64 y, .slice F n f] 35)).alloc (.cells #[.slice A n c] 28)).heap.size = w.heap.size + 2 := by simp
  have c1 := cell1_new (w.alloc (.cells #[.int .i64 x, .int .i64 y, .slice F n f] 35)) (.slice A n c) 28
  rw [show (w.alloc (.cells #[.int .i64 x, .int .i64 y, .slice F n f] 35)).heap.size = w.heap.size + 1 by simp] at c1
  have C0 : Clo ((w.alloc (.cells #[.int .i64 x, .int .i64 y, .slice F n f] 35)).alloc (.cells #[.slice A n c] 28)) (w.heap.size + 1) (w.heap.size + 2) A n c p := ⟨by omega, c1, (hr.below b2).mono (by omega)⟩
  have HS := Lib.hid (fun W => implSid x y i hsd h0 hi W)
  have HCL := Lib.hid (sidL_cells (n := n) hx.1 h0 hi hnn)
  have HB := Lib.hid b2
  have HSZ := Lib.hid hsz
  have HC0 := Lib.hid C0
  have hl := sidL_len x y i
  clear b1 b2 hsz c1 C0 hr hv hx hy hnn hsd
  go_enter Try.func83, Try.ntmps83
  go_wp2_with fail
  generalize ((w.alloc (.cells #[.int .i64 x, .int .i64 y, .slice F n f] 35)).alloc (.cells #[.slice A n c] 28)) = b at *
  refine (HS.out b).mono ?_
  rintro e w2 ⟨X, cx, rfl, hO, hb⟩
  have hO2 := hO.out
  rw [HSZ.out] at hO2
  have HC2 := Lib.hid (HC0.out.butIn (ButIn.of hb.out) (by rw [HSZ.out]; exact Nat.le_refl _) (.inr rfl))
  have HBW : Hid (w.heap.size + 2 ≤ w2.heap.size) := by rw [← HSZ.out]; exact hb.out.size
  have HD := Lib.hid (delF (w.heap.size + 1) (w.heap.size + 2) A n c p (sidL x y i) X cx (w.heap.size + 3) w2.heap.size HCL.out (by omega) hl hO2.cap w2 HC2.out (by omega) HBW.out hO2.rowW)
  have HB2 := Lib.hid (HB.out.trans (hb.out.mono (by rw [HSZ.out]; omega)))
  clear hO hO2 hb HS HC0 HC2 HB HSZ
  go_wp2_with fail
  refine HD.out.mono ?_
  rintro e w3 ⟨X', c', rfl, hB3⟩
  have HB3 := Lib.hid (HB2.out.trans (hB3.out.toBelow (by omega) (by have := HBW.out; omega)))
  clear hB3 HD HB2
  go_wp2_with fail
  go_ret
  exact ⟨X', c', rfl, HB3⟩

end Go.Proofs.Yteojpmnnpinpeaa
