/-
  What is proved here: the law's drawn complex numbers, and lists of them, as walks: some words, whichever, and small integers where integers are drawn. Conditions: the bytes are ones that a machine can hold; at most 1000 are drawn.
-/
import Derived.Test.YtckhdbnoihieeaaGreatDoorDrwF
import Derived.Test.YtckhdbnoihieeaaGreatDoorNcl
namespace Go.Proofs.YtckhdbnoihieeaaGreatDoor
open Flt Go.RowKit

theorem Chg.thenBelow {p : Nat} {a b c : World} (h : Chg p a b) (g : Below a.heap.size b c) : Chg p a c :=
  ⟨g.os.trans h.os, g.tape.trans h.tape, g.output.trans h.output, Nat.le_trans h.size g.size, fun k hk hp => (g.block k hk).trans (h.block k hk hp)⟩
theorem Rdy.belowAt {w w' : World} {p B : Nat} {A : Option Addr} {c : Nat} {zs : List Int} {N : Nat} (h : Rdy w p A c zs N) (hB : p < B) (hb : Below B w w') : Rdy w' p A c zs N := by
  obtain ⟨j, h1, h2⟩ := h.pos
  obtain ⟨s, h3⟩ := h.seed
  exact ⟨Nat.lt_of_lt_of_le h.lt hb.size, by rw [hb.cell hB]; exact h.code, ⟨j, h1, by rw [hb.cell hB]; exact h2⟩, ⟨s, by rw [hb.cell hB]; exact h3⟩, fun o => by rw [hb.frozen hB]; exact h.free o, h.row.below (hb.mono (Nat.le_of_lt hB)), h.all, h.most⟩
theorem own_chg {w w' : World} {G n size p : Nat} {e : TypeId} {v : Value} {xs : List Value} (h : w.ownsRow G e size v n xs) (hp : p < G) (hb : Chg p w w') : w'.ownsRow G e size v n xs := by
  refine ⟨h.1, ?_⟩
  rcases h.2 with h1 | ⟨g, cap, cur, rfl, h2, h3, h4⟩
  · exact .inl h1
  · refine .inr ⟨g, cap, cur, rfl, h2, ?_, h4⟩
    have hlt : g < w.heap.size := by
      rcases Nat.lt_or_ge g w.heap.size with h | h
      · exact h
      · rw [Array.getElem?_eq_none h] at h3; cases h3
    rw [hb.block g hlt (by omega)]; exact h3

/-- words of 32 bits, all of them -/
def AllC (L : List (Nat × Nat)) : Prop := ∀ p ∈ L, WF .f32 p.1 ∧ WF .f32 p.2

def DrewC (N : Nat) (p : Nat) (A : Option Addr) (c : Nat) (zs : List Int) (w : World) (e : Ending) (w' : World) : Prop :=
  ∃ x y : Nat, e = .returned (.complex .f32 x y) ∧ Hid (WF .f32 x ∧ WF .f32 y) ∧ Hid (Rdy w' p A c zs N) ∧ Hid (Chg p w w')

theorem drawC_any (w : World) (p : Nat) (A : Option Addr) (c : Nat) (zs : List Int) (N : Nat) (h : Rdy w p A c zs N) (hN : N ≤ 500000000000) :
    Calls Tryz.prog 46 #[.pointer (some ⟨p, 0, none⟩)] w (DrewC (N + 40) p A c zs w) := by
  have H := Lib.hid h
  clear h
  go_enter Tryz.func46, Tryz.ntmps46
  go_wp2_with fail
  refine (float_any _ p A c zs N H.out (by omega)).mono ?_
  rintro e w1 ⟨x, rfl, hx, R1, C1⟩
  go_wp2_with fail
  refine (float_any _ p A c zs (N + 20) R1.out (by omega)).mono ?_
  rintro e w2 ⟨y, rfl, hy, R2, C2⟩
  go_wp2_with fail
  go_ret
  exact ⟨x, y, rfl, ⟨hx, hy⟩, R2.out.mono (by omega), C1.out.trans C2.out⟩

theorem fine_any (w : World) (p : Nat) (A : Option Addr) (c : Nat) (zs : List Int) (N : Nat) (h : Rdy w p A c zs N) (hN : N ≤ 500000000000) :
    Calls Tryz.prog 47 #[.pointer (some ⟨p, 0, none⟩)] w (DrewC (N + 40) p A c zs w) := by
  have H := Lib.hid h
  clear h
  go_enter Tryz.func47, Tryz.ntmps47
  go_wp2_with fail
  refine (pick_any 65 (by omega) (by omega) _ p A c zs N H.out (by omega)).mono ?_
  rintro e w1 ⟨i, hi, rfl, R1, C1⟩
  have hi' : (i : Int) ≤ 64 := by omega
  go_wp2_with ((with_reducible refine upon_bin rfl ?_); intro x n1 hx _)
  have R1' : Hid (Rdy (w1.drewN n1) p A c zs (N + 2)) := R1.out.drewN
  refine (pick_any 65 (by omega) (by omega) _ p A c zs (N + 2) R1'.out (by omega)).mono ?_
  rintro e w2 ⟨j, hj, rfl, R2, C2⟩
  have hj' : (j : Int) ≤ 64 := by omega
  go_wp2_with ((with_reducible refine upon_bin rfl ?_); intro y n2 hy _)
  go_ret
  exact ⟨x, y, rfl, ⟨hx, hy⟩, (R2.out.mono (by omega)).drewN, ((C1.out.drewN).trans C2.out).drewN⟩

/-- what drawing a list gives -/
def DrewLC (n M p : Nat) (A : Option Addr) (c : Nat) (zs : List Int) (w : World) (e : Ending) (w' : World) : Prop :=
  ∃ g c' L, e = .returned (.slice (some ⟨g, 0, none⟩) L.length c') ∧ Hid (L.length = n) ∧ Hid (AllC L) ∧ Hid (OwnLC w' w.heap.size L g c') ∧ Hid (Rdy w' p A c zs M) ∧ Hid (Chg p w w')

set_option maxHeartbeats 4000000 in
theorem complexes_any (n0 : Nat) (hn : n0 ≤ 1000) (w : World) (p : Nat) (A : Option Addr) (c : Nat) (zs : List Int) (h : Rdy w p A c zs 0) :
    Calls Tryz.prog 35 #[.pointer (some ⟨p, 0, none⟩), .int .i64 n0] w (DrewLC n0 100000 p A c zs w) := by
  obtain ⟨i0, hi, hz0, hz1, hz2⟩ := info_parts info_c64
  have HI := Lib.hid (And.intro hi (And.intro hz0 (And.intro hz1 hz2)))
  have O0 : Hid (OwnLC (w.alloc (.cells #[] 24)) w.heap.size [] w.heap.size 0) := World.ownsRow_lit w #[] 0 (Nat.le_refl _) (by decide) rfl
  have B0 : Hid (Below w.heap.size w (w.alloc (.cells #[] 24))) := (Below.refl _ _).alloc (Nat.le_refl _) _
  have R0 : Hid (Rdy (w.alloc (.cells #[] 24)) p A c zs 0) := h.below B0.out
  have C0 : Hid (Chg p w (w.alloc (.cells #[] 24))) := Chg.ofBelow B0.out
  have HPL : Hid (p < w.heap.size) := h.lt
  clear hi hz0 hz1 hz2 h B0
  go_enter Tryz.func35, Tryz.ntmps35
  go_wp2_with fail
  refine (one_any 5 (by omega) (by omega) _ p A c zs 0 R0.out (by omega)).mono ?_
  rintro e w1 ⟨b, rfl, R1, C1⟩
  have O1 : Hid (OwnLC w1 w.heap.size [] w.heap.size 0) := own_chg O0.out HPL.out C1.out
  have D1 : Hid (Chg p w w1) := C0.out.trans C1.out
  clear O0 R0 C0 C1
  go_wp2_with fail
  generalize hG : w.heap.size = G at *
  have HG := Lib.hid hG
  clear hG
  go_loopw [1, 5] (fun i o wr => ∃ (k g cc : Nat) (L : List (Nat × Nat)), i = .int .i64 k ∧ o = .slice (some ⟨g, 0, none⟩) L.length cc ∧ k ≤ 1000 ∧ L.length ≤ 1000 ∧ Hid (L.length + k = n0) ∧ Hid (AllC L) ∧ Hid (OwnLC wr G L g cc) ∧ Hid (Rdy wr p A c zs (2 + 40 * L.length)) ∧ Hid (Chg p w wr)) (fun i _ _ => (intOf i).toNat)
  case atStart => exact ⟨n0, G, 0, [], rfl, rfl, hn, by simp, by show _ = _; simp, fun z hz => absurd hz (List.not_mem_nil), O1, R1.out.mono (by simp), D1⟩
  case round =>
    obtain ⟨k, g, cc, L, rfl, rfl, hk, htl, HL, HA, hO, hR, hC⟩ := hrel
    by_cases hlt : 0 < k
    · have hki : (0 : Int) < k := by omega
      cases b
      all_goals
        go_wp2_with fail
        first
          | refine (drawC_any _ p A c zs (2 + 40 * L.length) hR.out (by omega)).mono ?_
          | refine (fine_any _ p A c zs (2 + 40 * L.length) hR.out (by omega)).mono ?_
        rintro e w3 ⟨x, y, rfl, HX, R3, C3⟩
        have D3 : Hid (Chg p w w3) := hC.out.trans C3.out
        have O3 : Hid (OwnLC w3 G L g cc) := own_chg hO.out HPL.out C3.out
        have hsz : Hid (G ≤ w3.heap.size) := by show G ≤ w3.heap.size; rw [← HG.out]; exact D3.out.size
        have R3' : Hid (Rdy w3 p A c zs (2 + 40 * (L.length + 1))) := R3.out.mono (by omega)
        clear R3 C3 hO hR hC
        go_wp2_with (first | (at_builtin; refine wpList_append_own _ rfl _ _ 25 rfl G 24 i0 (.complex .f32 0 0) 1 8 Tryz.underlying25 HI.out.1 HI.out.2.1 HI.out.2.2.1 HI.out.2.2.2 rfl (by decide) _ L.length (L.map cV) rfl (World.ownsRow.alloc O3.out _) ⟨w3.heap.size, 0, none⟩ 1 1 [.complex .f32 x y] rfl rfl (World.ownsRow.cells (World.ownsRow_lit (base := G) (e := 24) (size := 1) w3 #[.complex .f32 x y] 1 hsz.out (by decide) rfl) rfl) (by intro u hu; rw [List.mem_singleton.1 hu]; rfl) (by unfold maxLen; omega) (by omega) (by simp; exact Nat.le_succ_of_le hsz.out) ?_))
        intro v' w4 h2 hg2 hv2
        obtain ⟨g2, c2, rfl, O2⟩ := OwnLC.of (L := L ++ [(x, y)]) (by rw [List.map_append]; exact h2) (by simp) hv2
        have HB4 : Hid (Below G w3 w4) := Below.grown ((Below.refl G w3).alloc hsz.out _) hg2 (by simp; exact Nat.le_succ_of_le hsz.out) (fun q hq => by obtain rfl := Option.some.inj hq; exact (World.ownsRow.lt O3.out g rfl).1)
        have HO4 := Lib.hid O2
        have HR4 : Hid (Rdy w4 p A c zs (2 + 40 * (L ++ [(x, y)]).length)) := by
          rw [List.length_append]; exact R3'.out.belowAt HPL.out HB4.out
        have HC4 : Hid (Chg p w w4) := D3.out.thenBelow (by rw [HG.out]; exact HB4.out)
        have HA4 : Hid (AllC (L ++ [(x, y)])) := fun z hz => by
          rcases List.mem_append.1 hz with hz | hz
          · exact HA.out z hz
          · rw [List.mem_singleton.1 hz]; exact HX.out
        have hl4 : (L ++ [(x, y)]).length + (k - 1) = n0 := by have := HL.out; simp; omega
        have HL4 := Lib.hid hl4
        have hl5 : (L ++ [(x, y)]).length ≤ 1000 := by omega
        generalize L ++ [(x, y)] = L2 at *
        clear hv2 hg2 h2 O2 O3 hl4
        go_wp2_with fail
        go_roundw
        case rel => exact ⟨k - 1, g2, c2, L2, by go_num, rfl, by omega, hl5, HL4, HA4, HO4, HR4, HC4⟩
        case measure => simp [intOf]; omega
    · have hk0 : k = 0 := by omega
      have hll : Hid (L.length = n0) := by show L.length = n0; have := HL.out; omega
      clear HL
      subst hk0
      go_wp2_with fail
      go_ret
      exact ⟨g, cc, L, rfl, hll, HA, by rw [HG.out]; exact hO, hR.out.mono (by omega), hC⟩

theorem ownC_low {w : World} {B B' : Nat} {A : Option Addr} {zs : List (Nat × Nat)} (h : OwnC w B A zs) (hB : B' ≤ B) : OwnC w B' A zs := fun h0 => by
  obtain ⟨b, off, hA, hle, h2⟩ := h h0
  exact ⟨b, off, hA, Nat.le_trans hB hle, h2⟩

/-- a list of some complex numbers, of a given length; nothing that was there has changed -/
def NewLC (n : Nat) (w : World) (e : Ending) (w' : World) : Prop :=
  ∃ g c' L, e = .returned (.slice (some ⟨g, 0, none⟩) L.length c') ∧ Hid (L.length = n) ∧ Hid (AllC L) ∧ Hid (OwnC w' w.heap.size (some ⟨g, 0, none⟩) L) ∧ Hid (Below w.heap.size w w')
theorem anyC_any (n0 : Nat) (hn : n0 ≤ 1000) (A : Option Addr) (c : Nat) (zs : List Int) (w : World) (hr : RowB w w.heap.size A zs) (ha : AllB zs) (hl : zs.length ≤ 1048576) :
    Calls Tryz.prog 14 #[.slice A zs.length c, .int .i64 n0] w (NewLC n0 w) := by
  have HF := Lib.hid (from_any A c zs w hr ha hl)
  clear hr ha
  go_enter Tryz.func14, Tryz.ntmps14
  go_wp2_with fail
  refine HF.out.mono ?_
  rintro e w1 ⟨p, rfl, hp, R1, B1⟩
  go_wp2_with fail
  refine (complexes_any n0 hn _ p A c zs R1.out).mono ?_
  rintro e w2 ⟨g, c', L, rfl, hL, HA, HO, R2, C2⟩
  go_wp2_with fail
  go_ret
  exact ⟨g, c', L, rfl, hL, HA, ownC_low HO.out.own B1.out.size, B1.out.trans (C2.out.below B1.out.size hp.out)⟩

/-- some complex number; nothing that was there has changed -/
def NewC (w : World) (e : Ending) (w' : World) : Prop := ∃ x y : Nat, e = .returned (.complex .f32 x y) ∧ Hid (WF .f32 x ∧ WF .f32 y) ∧ Hid (Below w.heap.size w w')
theorem complex_any (A : Option Addr) (c : Nat) (zs : List Int) (w : World) (hr : RowB w w.heap.size A zs) (ha : AllB zs) (hl : zs.length ≤ 1048576) :
    Calls Tryz.prog 21 #[.slice A zs.length c] w (NewC w) := by
  have HF := Lib.hid (from_any A c zs w hr ha hl)
  clear hr ha
  go_enter Tryz.func21, Tryz.ntmps21
  go_wp2_with fail
  refine HF.out.mono ?_
  rintro e w1 ⟨p, rfl, hp, R1, B1⟩
  go_wp2_with fail
  refine (one_any 4 (by omega) (by omega) _ p A c zs 0 R1.out (by omega)).mono ?_
  rintro e w2 ⟨b, rfl, R2, C2⟩
  cases b
  all_goals
    go_wp2_with fail
    first
      | refine (drawC_any _ p A c zs 2 R2.out (by omega)).mono ?_
      | refine (fine_any _ p A c zs 2 R2.out (by omega)).mono ?_
    rintro e w3 ⟨x, y, rfl, hx, R3, C3⟩
    go_wp2_with fail
    go_ret
    exact ⟨x, y, rfl, hx, B1.out.trans ((C2.out.trans C3.out).below B1.out.size hp.out)⟩

/-- complex numbers whose parts are integers from -200 to 200 -/
def WholeL (L : List (Nat × Nat)) : Prop := ∀ p ∈ L, ∃ a b : Int, (-200 ≤ a ∧ a ≤ 200) ∧ (-200 ≤ b ∧ b ≤ 200) ∧ p = (floatOfInt .f32 a, floatOfInt .f32 b)

def NewW (w : World) (e : Ending) (w' : World) : Prop :=
  ∃ g c' a b, e = .returned (.slice (some ⟨g, 0, none⟩) 1 c') ∧ Hid ((-200 ≤ a ∧ a ≤ 200) ∧ (-200 ≤ b ∧ b ≤ 200)) ∧ w'.cell? ⟨g, 0, none⟩ = some (.complex .f32 (floatOfInt .f32 a) (floatOfInt .f32 b)) ∧ Hid (Below w.heap.size w w')

set_option maxHeartbeats 4000000 in
theorem whole_any (A : Option Addr) (c : Nat) (zs : List Int) (w : World) (hr : RowB w w.heap.size A zs) (ha : AllB zs) (hl : zs.length ≤ 1048576) :
    Calls Tryz.prog 5 #[.slice A zs.length c, .int .i64 1, .int .i64 200] w (NewW w) := by
  have HF := Lib.hid (from_any A c zs w hr ha hl)
  obtain ⟨i0, hi, hz0, hz1, hz2⟩ := info_parts info_c64
  have HI := Lib.hid (And.intro hi (And.intro hz0 (And.intro hz1 hz2)))
  clear hr ha hi hz0 hz1 hz2
  go_enter Tryz.func5, Tryz.ntmps5
  go_wp2_with fail
  refine HF.out.mono ?_
  rintro e w0 ⟨p, rfl, hp, R0, B0⟩
  have HPL : Hid (p < w0.heap.size) := R0.out.lt
  have O1 : Hid (OwnLC (w0.alloc (.cells #[] 24)) w0.heap.size [] w0.heap.size 0) := World.ownsRow_lit w0 #[] 0 (Nat.le_refl _) (by decide) rfl
  have B1 : Hid (Below w0.heap.size w0 (w0.alloc (.cells #[] 24))) := (Below.refl _ _).alloc (Nat.le_refl _) _
  have R1 : Hid (Rdy (w0.alloc (.cells #[] 24)) p A c zs 0) := R0.out.below B1.out
  have D1 : Hid (Chg p w0 (w0.alloc (.cells #[] 24))) := Chg.ofBelow B1.out
  clear B1 R0
  go_wp2_with fail
  generalize hG : w0.heap.size = G at *
  have HG := Lib.hid hG
  clear hG
  go_loopw [1, 8, 9] (fun i o _ wr => ∃ (k g cc : Nat) (L : List (Nat × Nat)), i = .int .i64 k ∧ o = .slice (some ⟨g, 0, none⟩) L.length cc ∧ k ≤ 1 ∧ L.length ≤ 1 ∧ Hid (L.length + k = 1) ∧ Hid (WholeL L) ∧ Hid (OwnLC wr G L g cc) ∧ Hid (Rdy wr p A c zs (4 * L.length)) ∧ Hid (Chg p w0 wr)) (fun i _ _ _ => (intOf i).toNat)
  case atStart => exact ⟨1, G, 0, [], rfl, rfl, Nat.le_refl _, by simp, by show _ = _; simp, fun z hz => absurd hz (List.not_mem_nil), O1, R1, D1⟩
  case round =>
    obtain ⟨k, g, cc, L, rfl, rfl, hk, htl, HL, HA, hO, hR, hC⟩ := hrel
    by_cases hlt : 0 < k
    · have hki : (0 : Int) < k := by omega
      go_wp2_with fail
      refine (pick_any 401 (by omega) (by omega) _ p A c zs (4 * L.length) hR.out (by omega)).mono ?_
      rintro e w2 ⟨i, hi, rfl, R2, C2⟩
      have hi' : (i : Int) ≤ 400 := by omega
      go_wp2_with fail
      refine (pick_any 401 (by omega) (by omega) _ p A c zs (4 * L.length + 2) R2.out (by omega)).mono ?_
      rintro e w3 ⟨j, hj, rfl, R3, C3⟩
      have hj' : (j : Int) ≤ 400 := by omega
      obtain ⟨x, hx⟩ : ∃ x, floatOfInt .f32 ((i : Int) - 200) = x := ⟨_, rfl⟩
      obtain ⟨y, hy⟩ : ∃ y, floatOfInt .f32 ((j : Int) - 200) = y := ⟨_, rfl⟩
      have D3 : Hid (Chg p w0 w3) := (hC.out.trans C2.out).trans C3.out
      have O3 : Hid (OwnLC w3 G L g cc) := own_chg (own_chg hO.out HPL.out C2.out) HPL.out C3.out
      have hsz : Hid (G ≤ w3.heap.size) := by show G ≤ w3.heap.size; rw [← HG.out]; exact D3.out.size
      have R3' : Hid (Rdy w3 p A c zs (4 * (L.length + 1))) := R3.out.mono (by omega)
      have HXY : Hid (WholeL [(x, y)]) := fun z hz => by
        rw [List.mem_singleton.1 hz]
        exact ⟨(i : Int) - 200, (j : Int) - 200, ⟨by omega, by omega⟩, ⟨by omega, by omega⟩, by rw [hx, hy]⟩
      clear R2 R3 C2 C3 hO hR hC
      go_wp2_with (first | (at_builtin; refine wpList_append_own _ rfl _ _ 25 rfl G 24 i0 (.complex .f32 0 0) 1 8 Tryz.underlying25 HI.out.1 HI.out.2.1 HI.out.2.2.1 HI.out.2.2.2 rfl (by decide) _ L.length (L.map cV) rfl (World.ownsRow.alloc O3.out _) ⟨w3.heap.size, 0, none⟩ 1 1 [.complex .f32 x y] rfl rfl (World.ownsRow.cells (World.ownsRow_lit (base := G) (e := 24) (size := 1) w3 #[.complex .f32 x y] 1 hsz.out (by decide) rfl) rfl) (by intro u hu; rw [List.mem_singleton.1 hu]; rfl) (by unfold maxLen; omega) (by omega) (by simp; exact Nat.le_succ_of_le hsz.out) ?_))
      intro v' w4 h2 hg2 hv2
      obtain ⟨g2, c2, rfl, O2⟩ := OwnLC.of (L := L ++ [(x, y)]) (by rw [List.map_append]; exact h2) (by simp) hv2
      have HB4 : Hid (Below G w3 w4) := Below.grown ((Below.refl G w3).alloc hsz.out _) hg2 (by simp; exact Nat.le_succ_of_le hsz.out) (fun q hq => by obtain rfl := Option.some.inj hq; exact (World.ownsRow.lt O3.out g rfl).1)
      have HO4 := Lib.hid O2
      have HR4 : Hid (Rdy w4 p A c zs (4 * (L ++ [(x, y)]).length)) := by
        rw [List.length_append]; exact R3'.out.belowAt HPL.out HB4.out
      have HC4 : Hid (Chg p w0 w4) := D3.out.thenBelow (by rw [HG.out]; exact HB4.out)
      have HA4 : Hid (WholeL (L ++ [(x, y)])) := fun z hz => by
        rcases List.mem_append.1 hz with hz | hz
        · exact HA.out z hz
        · exact HXY.out z hz
      have hl4 : (L ++ [(x, y)]).length + (k - 1) = 1 := by have := HL.out; simp; omega
      have HL4 := Lib.hid hl4
      have hl5 : (L ++ [(x, y)]).length ≤ 1 := by omega
      clear hx hy
      generalize L ++ [(x, y)] = L2 at *
      clear hv2 hg2 h2 O2 O3 hl4
      go_wp2_with fail
      go_roundw
      case rel => exact ⟨k - 1, g2, c2, L2, by go_num, rfl, by omega, hl5, HL4, HA4, HO4, HR4, HC4⟩
      case measure => simp [intOf]; omega
    · have hk0 : k = 0 := by omega
      have hll : L.length = 1 := by have := HL.out; omega
      clear HL
      subst hk0
      obtain ⟨q, rfl⟩ := List.length_eq_one_iff.1 hll
      obtain ⟨a, b, h1, h2, rfl⟩ := HA.out q (by simp)
      have hcell := World.ownsRow.cellAt hO.out 0 (by simp)
      have HH := Lib.hid (And.intro h1 h2)
      clear h1 h2 hll
      go_wp2_with fail
      go_ret
      exact ⟨g, cc, a, b, rfl, HH, by simpa [cV] using hcell, B0.out.trans (hC.out.below B0.out.size hp.out)⟩

end Go.Proofs.YtckhdbnoihieeaaGreatDoor
