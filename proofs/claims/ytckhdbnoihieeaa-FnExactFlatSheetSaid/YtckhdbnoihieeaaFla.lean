/-
  What is proved here: FlatSheet, of both packages, as walks. Conditions: none.
-/
import Derived.Test.YtckhdbnoihieeaaGiv
import Derived.Test.YtckhdbnoihieeaaRpf
import Derived.Test.YtckhdbnoihieeaaNrm
import Derived.Lib.SmallJoins
namespace Go.Proofs.Ytckhdbnoihieeaa
open Flt Go.RowKit
attribute [local go_sem] run_store_float
set_option linter.unusedVariables false

theorem specSides5 (x y : Int) (w : World) : Calls Try.prog 69 #[.int .i64 x, .int .i64 y] w fun e w' => e = .returned (.bool (sidesB x y)) ∧ w = w' := by
  cases h1 : inB x 1 17
  · have N : Hid (sidesB x y = false) := by show sidesB x y = false; unfold sidesB; rw [h1]; rfl
    have H1 := Lib.hid h1
    clear h1
    go_enter Try.func69, Try.ntmps69
    go_wp2_with (go_at_call 58; refine (inS_any _ _ _ _).mono ?_; rintro e w' ⟨rfl, rfl⟩; rw [H1.out])
    go_ret
    exact ⟨by rw [N.out]; rfl, rfl⟩
  · have N : Hid (sidesB x y = inB y 1 17) := by show sidesB x y = _; unfold sidesB; rw [h1]; rfl
    have H1 := Lib.hid h1
    clear h1
    go_enter Try.func69, Try.ntmps69
    go_wp2_with (go_at_call 58; refine (inS_any _ _ _ _).mono ?_; rintro e w' ⟨rfl, rfl⟩; try rw [H1.out])
    go_ret
    exact ⟨by rw [N.out]; rfl, rfl⟩

/-- a variable of a sheet that may be written, as the last of two -/
structure VarW (w : World) (X : Nat) (x y : Int) (A : Option Addr) (n c : Nat) : Prop where
  lt : X + 1 < w.heap.size
  c0 : w.cell? ⟨X + 1, 0, none⟩ = some (.int .i64 x)
  c1 : w.cell? ⟨X + 1, 1, none⟩ = some (.int .i64 y)
  c2 : w.cell? ⟨X + 1, 2, none⟩ = some (.slice A n c)
  f2 : w.frozen? ⟨X + 1, 2, none⟩ = false
  r0 : w.cell? ⟨X, 0, none⟩ = some (.int .i64 0)
  r1 : w.cell? ⟨X, 1, none⟩ = some (.int .i64 0)
  r2 : w.cell? ⟨X, 2, none⟩ = some (.slice none 0 0)
  g0 : w.frozen? ⟨X, 0, none⟩ = false
  g1 : w.frozen? ⟨X, 1, none⟩ = false
  g2 : w.frozen? ⟨X, 2, none⟩ = false
theorem VarW.below {w w' : World} {X : Nat} {x y : Int} {A : Option Addr} {n c : Nat} (h : VarW w X x y A n c) (hb : Below (X + 2) w w') : VarW w' X x y A n c := by
  have a : X + 1 < X + 2 := by omega
  have b : X < X + 2 := by omega
  exact ⟨Nat.lt_of_lt_of_le h.lt hb.size, by rw [hb.cell (p := ⟨X + 1, 0, none⟩) a]; exact h.c0, by rw [hb.cell (p := ⟨X + 1, 1, none⟩) a]; exact h.c1, by rw [hb.cell (p := ⟨X + 1, 2, none⟩) a]; exact h.c2, by rw [hb.frozen (p := ⟨X + 1, 2, none⟩) a]; exact h.f2, by rw [hb.cell (p := ⟨X, 0, none⟩) b]; exact h.r0, by rw [hb.cell (p := ⟨X, 1, none⟩) b]; exact h.r1, by rw [hb.cell (p := ⟨X, 2, none⟩) b]; exact h.r2, by rw [hb.frozen (p := ⟨X, 0, none⟩) b]; exact h.g0, by rw [hb.frozen (p := ⟨X, 1, none⟩) b]; exact h.g1, by rw [hb.frozen (p := ⟨X, 2, none⟩) b]; exact h.g2⟩
theorem VarW.set {w : World} {X : Nat} {x y : Int} {A B : Option Addr} {n m c d : Nat} (h : VarW w X x y A n c) : VarW (w.setCell ⟨X + 1, 2, none⟩ (.slice B m d)) X x y B m d := by
  refine ⟨by have := h.lt; simpa [World.setCell] using this, ?_, ?_, ?_, ?_, ?_, ?_, ?_, ?_, ?_, ?_⟩
  · rw [World.cell?_setCell_other w _ _ _ (by intro e; injection e with _ e _; cases e)]; exact h.c0
  · rw [World.cell?_setCell_other w _ _ _ (by intro e; injection e with _ e _; cases e)]; exact h.c1
  · exact World.cell?_setCell_same w _ _ h.c2
  · rw [World.frozen?_setCell]; exact h.f2
  · rw [World.cell?_setCell_other w _ _ _ (by intro e; injection e with e _ _; omega)]; exact h.r0
  · rw [World.cell?_setCell_other w _ _ _ (by intro e; injection e with e _ _; omega)]; exact h.r1
  · rw [World.cell?_setCell_other w _ _ _ (by intro e; injection e with e _ _; omega)]; exact h.r2
  · rw [World.frozen?_setCell]; exact h.g0
  · rw [World.frozen?_setCell]; exact h.g1
  · rw [World.frozen?_setCell]; exact h.g2
theorem VarW.drewN {w : World} {X m : Nat} {x y : Int} {A : Option Addr} {n c : Nat} (h : VarW w X x y A n c) : VarW (w.drewN m) X x y A n c := ⟨h.lt, h.c0, h.c1, h.c2, h.f2, h.r0, h.r1, h.r2, h.g0, h.g1, h.g2⟩
theorem varW_new (w : World) (x y : Int) (t : TypeId) : VarW ((w.alloc (.cells #[.int .i64 0, .int .i64 0, .slice none 0 0] t)).alloc (.cells #[.int .i64 x, .int .i64 y, .slice none 0 0] t)) w.heap.size x y none 0 0 := by
  have e1 : (w.alloc (.cells #[.int .i64 0, .int .i64 0, .slice none 0 0] t)).heap.size = w.heap.size + 1 := by simp
  obtain ⟨d0, d1, d2, f0, f1, f2⟩ := fresh3 (w.alloc (.cells #[.int .i64 0, .int .i64 0, .slice none 0 0] t)) (.int .i64 x) (.int .i64 y) (.slice none 0 0) t
  rw [e1] at d0 d1 d2 f0 f1 f2
  have B := (Below.refl (w.alloc (.cells #[.int .i64 0, .int .i64 0, .slice none 0 0] t)).heap.size (w.alloc (.cells #[.int .i64 0, .int .i64 0, .slice none 0 0] t))).alloc (Nat.le_refl _) (.cells #[.int .i64 x, .int .i64 y, .slice none 0 0] t)
  obtain ⟨e0, e2, e3, g0, g1, g2⟩ := fresh3 w (.int .i64 0) (.int .i64 0) (.slice none 0 0) t
  have b : w.heap.size < (w.alloc (.cells #[.int .i64 0, .int .i64 0, .slice none 0 0] t)).heap.size := by rw [e1]; exact Nat.lt_succ_self _
  exact ⟨by simp, d0, d1, d2, f2, by rw [B.cell (p := ⟨w.heap.size, 0, none⟩) b]; exact e0, by rw [B.cell (p := ⟨w.heap.size, 1, none⟩) b]; exact e2, by rw [B.cell (p := ⟨w.heap.size, 2, none⟩) b]; exact e3, by rw [B.frozen (p := ⟨w.heap.size, 0, none⟩) b]; exact g0, by rw [B.frozen (p := ⟨w.heap.size, 1, none⟩) b]; exact g1, by rw [B.frozen (p := ⟨w.heap.size, 2, none⟩) b]; exact g2⟩
theorem twoB_new (w : World) (x y x2 y2 : Int) (t : TypeId) : Below w.heap.size w ((w.alloc (.cells #[.int .i64 x2, .int .i64 y2, .slice none 0 0] t)).alloc (.cells #[.int .i64 x, .int .i64 y, .slice none 0 0] t)) := ((Below.refl _ _).alloc (Nat.le_refl _) _).alloc (by simp) _
theorem sidesB_yes {x y : Int} (h1 : inB x 1 17 = true) (h2 : inB y 1 17 = true) : sidesB x y = true := by unfold sidesB; rw [h1, h2]; rfl

set_option maxHeartbeats 8000000 in
set_option maxRecDepth 100000 in
theorem specFlat (x y : Int) (n h : Nat) (w : World) (h1 : inB x 1 17 = true) (h2 : inB y 1 17 = true) (e : x * y = n) :
    Calls Try.prog 25 #[.int .i64 x, .int .i64 y, .float .f32 h] w (TPost (gN (shB x y (List.replicate n h)) x) (gN (shB x y (List.replicate n h)) y) (gY (shB x y (List.replicate n h)) (List.replicate n h)) (shB x y (List.replicate n h)) w) := by
  have hn : n ≤ 289 := by have := prod_bd h1 h2; omega
  have hw : IntKind.i64.wrap (x * y) = (n : Int) := by rw [prod_in h1 h2, e]
  have HS := Lib.hid (specSides5 x y)
  rw [sidesB_yes h1 h2] at HS
  have HV := Lib.hid (varW_new w x y 27)
  have HB0 := Lib.hid (twoB_new w x y 0 0 27)
  have H0 : Hid (GroF ((w.alloc (.cells #[.int .i64 0, .int .i64 0, .slice none 0 0] 27)).alloc (.cells #[.int .i64 x, .int .i64 y, .slice none 0 0] 27)) (w.heap.size + 2) (List.replicate 0 h) none 0) := GroF.nil _ _
  obtain ⟨B, hB⟩ : ∃ B, shB x y (List.replicate n h) = B := ⟨_, rfl⟩
  have HBB := Lib.hid hB
  rw [hB]
  clear h1 h2 e hB
  go_enter Try.func25, Try.ntmps25
  go_wp2_with (go_at_call 69; refine (HS.out _).mono ?_; rintro e w' ⟨rfl, rfl⟩)
  generalize ((w.alloc (.cells #[.int .i64 0, .int .i64 0, .slice none 0 0] 27)).alloc (.cells #[.int .i64 x, .int .i64 y, .slice none 0 0] 27)) = b at *
  clear HS
  go_loopw [9] (fun i wr => ∃ (k : Nat) (A' : Option Addr) (c' : Nat), k ≤ n ∧ i = .int .i64 k ∧ Hid (VarW wr w.heap.size x y A' k c') ∧ Hid (GroF wr (w.heap.size + 2) (List.replicate k h) A' c') ∧ Hid (Below w.heap.size w wr)) (fun i _ => n - (intOf i).toNat)
  case atStart => exact ⟨0, none, 0, Nat.zero_le _, rfl, HV, H0, HB0⟩
  case round =>
    obtain ⟨k, A', c', hk, rfl, hV, hO, hB⟩ := hrel
    have c0 := hV.out.c0
    have c1 := hV.out.c1
    have c2 := hV.out.c2
    have hlen := List.length_replicate (n := k) (a := h)
    have hsz : Hid (w.heap.size + 2 ≤ wr.heap.size) := hV.out.lt
    by_cases hlt : k < n
    · have hlt2 : (k : Int) < n := by omega
      go_wp2_with (at_builtin; refine wpGroF rfl _ _ rfl (w0 := wr) (y := h) hO.out rfl (by rw [hlen]; rfl) rfl (by rw [hlen]; omega) hsz.out ?_; rw [hlen]; intro g2 c3 w4 O4 B4; have V4 := Lib.hid (hV.out.below (B4.mono (Nat.le_refl _))); have HO4 := Lib.hid O4; have HB4 := Lib.hid (hB.out.trans (B4.mono (Nat.le_trans (Nat.le_succ _) (Nat.le_succ _)))); have q2 := V4.out.c2; have q3 := V4.out.f2; clear O4 B4)
      have V5 := Lib.hid (V4.out.set (B := some ⟨g2, 0, none⟩) (m := k + 1) (d := c3))
      have O5 : Hid (GroF (w4.setCell ⟨w.heap.size + 1, 2, none⟩ (.slice (some ⟨g2, 0, none⟩) (k + 1) c3)) (w.heap.size + 2) (List.replicate (k + 1) h) (some ⟨g2, 0, none⟩) c3) := by
        show GroF _ _ _ _ _
        rw [List.replicate_succ']
        exact GroF.but HO4.out ((ButIn.refl (w.heap.size + 1) (w.heap.size + 2) w4).set (q := ⟨w.heap.size + 1, 2, none⟩) (Nat.le_refl _) (Nat.lt_succ_self _) _) fun a ha => .inr (HO4.out.lt a ha).1
      have B5 := Lib.hid (HB4.out.setCell (p := ⟨w.heap.size + 1, 2, none⟩) (Nat.le_succ _) (.slice (some ⟨g2, 0, none⟩) (k + 1) c3))
      go_roundw
      case rel => exact ⟨k + 1, _, _, by omega, by go_num, V5, O5, B5⟩
      case measure => simp [intOf]; omega
    · obtain rfl : k = n := by omega
      have hlt2 : ¬ (k : Int) < k := by omega
      have hgv := specGive x y A' c' (List.replicate k h) wr (hO.out.rowIn.toRow) (by rw [hlen]; omega) B HBB.out
      rw [hlen] at hgv
      have HG := Lib.hid hgv
      have HR := Lib.hid (hO.out.rowIn)
      clear hgv hO
      cases B
      · go_wp2_with fail
        refine HG.out.mono ?_
        rintro e w5 ⟨_, he5, hb5⟩
        obtain rfl := he5 (by first | rfl | trivial)
        have V5 := Lib.hid (hV.out.below (hb5.out.mono hsz.out))
        have B5 := Lib.hid (hB.out.trans (hb5.out.mono hB.out.size))
        have q0 := V5.out.r0
        have q1 := V5.out.r1
        have q2 := V5.out.r2
        have g0 := V5.out.g0
        have g1 := V5.out.g1
        have g2 := V5.out.g2
        clear he5 hb5 HG c0 c1 c2
        go_wp2_with fail
        exact bodyPost_ret (v := .tuple #[.agg #[.int .i64 0, .int .i64 0, .slice none 0 0], .bool false]) (by simp [results, Try.results25, go_sem, q0, q1, q2]) rfl (tpost_no rfl (B5.out.trans (store3 (Nat.le_refl _) _ _ _)))
      · go_wp2_with fail
        refine HG.out.mono ?_
        rintro e w5 ⟨he5, _, hb5⟩
        obtain rfl := he5 (by first | rfl | trivial)
        have V5 := Lib.hid (hV.out.below (hb5.out.mono hsz.out))
        have B5 := Lib.hid (hB.out.trans (hb5.out.mono hB.out.size))
        have R5 := Lib.hid (HR.out.but (ButIn.of hb5.out) (.inr (Nat.zero_le _)))
        have q0 := V5.out.r0
        have q1 := V5.out.r1
        have q2 := V5.out.r2
        have g0 := V5.out.g0
        have g1 := V5.out.g1
        have g2 := V5.out.g2
        clear he5 hb5 HG c0 c1 c2
        go_wp2_with fail
        refine bodyPost_ret (v := .tuple #[.agg #[.int .i64 x, .int .i64 y, .slice A' k c'], .bool true]) (by simp [results, Try.results25, go_sem, q0, q1, q2]) rfl (tpost_yes rfl hlen ?_ (B5.out.trans (store3 (Nat.le_refl _) _ _ _)))
        exact ((R5.out.wide (lo' := w.heap.size + 2) (hi' := w5.heap.size) (Nat.le_refl _) R5.out.le (Nat.le_refl _)).store3 (Y := w.heap.size) (by omega) _ _ _).lower (by omega)

theorem specFlatNo (x y : Int) (h : Nat) (w : World) (hs : sidesB x y = false) :
    Calls Try.prog 25 #[.int .i64 x, .int .i64 y, .float .f32 h] w (TPost 0 0 [] false w) := by
  have HS := Lib.hid (specSides5 x y)
  rw [hs] at HS
  have B0 : Hid (Below w.heap.size w (w.alloc (.cells #[.int .i64 0, .int .i64 0, .slice none 0 0] 27))) := (Below.refl _ _).alloc (Nat.le_refl _) _
  clear hs
  go_enter Try.func25, Try.ntmps25
  go_wp2_with (go_at_call 69; refine (HS.out _).mono ?_; rintro e w' ⟨rfl, rfl⟩)
  exact bodyPost_ret (v := .tuple #[.agg #[.int .i64 0, .int .i64 0, .slice none 0 0], .bool false]) (by simp [results, Try.results25, go_sem]) rfl ⟨none, 0, rfl, RowIn.empty (Nat.le_refl _), B0.out⟩

theorem implFlatNo (x y : Int) (h : Nat) (w : World) (hs : sidesB x y = false) :
    Calls Try.prog 26 #[.int .i64 x, .int .i64 y, .float .f32 h] w (TPost 0 0 [] false w) := by
  have HS := Lib.hid (implSides x y)
  rw [hs] at HS
  have B0 : Hid (Below w.heap.size w (w.alloc (.cells #[.int .i64 0, .int .i64 0, .slice none 0 0] 27))) := (Below.refl _ _).alloc (Nat.le_refl _) _
  clear hs
  go_enter Try.func26, Try.ntmps26
  go_wp2_with (go_at_call 70; refine (HS.out _).mono ?_; rintro e w' ⟨rfl, rfl⟩)
  exact bodyPost_ret (v := .tuple #[.agg #[.int .i64 0, .int .i64 0, .slice none 0 0], .bool false]) (by simp [results, Try.results26, go_sem]) rfl ⟨none, 0, rfl, RowIn.empty (Nat.le_refl _), B0.out⟩

set_option maxHeartbeats 8000000 in
set_option maxRecDepth 100000 in
theorem implFlat (x y : Int) (n h : Nat) (w : World) (h1 : inB x 1 17 = true) (h2 : inB y 1 17 = true) (e : x * y = n) :
    Calls Try.prog 26 #[.int .i64 x, .int .i64 y, .float .f32 h] w (TPost (gN (shB x y (List.replicate n h)) x) (gN (shB x y (List.replicate n h)) y) (gY (shB x y (List.replicate n h)) (List.replicate n h)) (shB x y (List.replicate n h)) w) := by
  have hn : n ≤ 289 := by have := prod_bd h1 h2; omega
  have hw : IntKind.i64.wrap (x * y) = (n : Int) := by rw [prod_in h1 h2, e]
  have hlen := List.length_replicate (n := n) (a := h)
  have HS := Lib.hid (implSides x y)
  rw [sidesB_yes h1 h2] at HS
  obtain ⟨B, hB⟩ : ∃ B, shB x y (List.replicate n h) = B := ⟨_, rfl⟩
  have HBB := Lib.hid hB
  rw [hB]
  obtain ⟨d0, d1, d2, f0, f1, f2⟩ := fresh3 w (.int .i64 0) (.int .i64 0) (.slice none 0 0) 27
  have B0 : Below w.heap.size w (w.alloc (.cells #[.int .i64 0, .int .i64 0, .slice none 0 0] 27)) := (Below.refl _ _).alloc (Nat.le_refl _) _
  have hlt0 : w.heap.size < (w.alloc (.cells #[.int .i64 0, .int .i64 0, .slice none 0 0] 27)).heap.size := by simp
  have HRES := Lib.hid (And.intro d0 (And.intro d1 (And.intro d2 (And.intro f0 (And.intro f1 f2)))))
  have HB0 := Lib.hid B0
  have HL0 := Lib.hid hlt0
  clear h1 h2 e hB d0 d1 d2 f0 f1 f2 B0 hlt0
  go_enter Try.func26, Try.ntmps26
  go_wp2_with (go_at_call 70; refine (HS.out _).mono ?_; rintro e w' ⟨rfl, rfl⟩)
  have HREP := Lib.hid (repF h (w.heap.size + 1) 0 n 1 ((w.alloc (.cells #[.int .i64 0, .int .i64 0, .slice none 0 0] 27)).alloc (.cells #[.float .f32 h] 25)) (by simp) (by rw [Joins.cell_alloc_mark_at _ _ _ (0, 0) _ 0 (by simp)]; rfl) (by omega))
  have HB1 := Lib.hid (HB0.out.alloc (by simp) (.cells #[.float .f32 h] 25))
  have HK1 : Hid (Below (w.alloc (.cells #[.int .i64 0, .int .i64 0, .slice none 0 0] 27)).heap.size (w.alloc (.cells #[.int .i64 0, .int .i64 0, .slice none 0 0] 27)) ((w.alloc (.cells #[.int .i64 0, .int .i64 0, .slice none 0 0] 27)).alloc (.cells #[.float .f32 h] 25))) := (Below.refl _ _).alloc (Nat.le_refl _) _
  clear HS
  generalize ((w.alloc (.cells #[.int .i64 0, .int .i64 0, .slice none 0 0] 27)).alloc (.cells #[.float .f32 h] 25)) = v1 at *
  generalize (w.alloc (.cells #[.int .i64 0, .int .i64 0, .slice none 0 0] 27)) = b at *
  refine HREP.out.mono ?_
  rintro e w2 ⟨rfl, hR, hb2⟩
  have HB2 := Lib.hid (HB1.out.trans (hb2.out.mono HB1.out.size))
  have HK2 := Lib.hid (HK1.out.trans (hb2.out.mono HK1.out.size))
  have hgv := implGive x y (some ⟨v1.heap.size, 0, none⟩) n (List.replicate n h) w2 hR.out.toRow (by rw [hlen]; omega) B HBB.out
  rw [hlen] at hgv
  have HG := Lib.hid hgv
  have HR := Lib.hid (hR.out.lower HB1.out.size)
  have HLV : Hid (w.heap.size < v1.heap.size) := Nat.lt_of_lt_of_le HL0.out HK1.out.size
  have HRv := hR
  clear hgv hR hb2 HREP hw
  cases B
  · go_wp2_with fail
    refine HG.out.mono ?_
    rintro e w5 ⟨_, he5, hb5⟩
    obtain rfl := he5 (by first | rfl | trivial)
    have HK5 := Lib.hid (HK2.out.trans (hb5.out.mono HK2.out.size))
    have HB5 := Lib.hid (HB2.out.trans (hb5.out.mono HB2.out.size))
    obtain ⟨d0, d1, d2, f0, f1, f2⟩ := HRES.out
    have q0 := (HK5.out.cell (p := ⟨w.heap.size, 0, none⟩) HL0.out).trans d0
    have q1 := (HK5.out.cell (p := ⟨w.heap.size, 1, none⟩) HL0.out).trans d1
    have q2 := (HK5.out.cell (p := ⟨w.heap.size, 2, none⟩) HL0.out).trans d2
    have g0 := (HK5.out.frozen (p := ⟨w.heap.size, 0, none⟩) HL0.out).trans f0
    have g1 := (HK5.out.frozen (p := ⟨w.heap.size, 1, none⟩) HL0.out).trans f1
    have g2 := (HK5.out.frozen (p := ⟨w.heap.size, 2, none⟩) HL0.out).trans f2
    clear he5 hb5 HG d0 d1 d2 f0 f1 f2 HRES
    go_wp2_with fail
    exact bodyPost_ret (v := .tuple #[.agg #[.int .i64 0, .int .i64 0, .slice none 0 0], .bool false]) (by simp [results, Try.results26, go_sem, q0, q1, q2]) rfl (tpost_no rfl (HB5.out.trans (store3 (Nat.le_refl _) _ _ _)))
  · go_wp2_with fail
    refine HG.out.mono ?_
    rintro e w5 ⟨he5, _, hb5⟩
    obtain rfl := he5 (by first | rfl | trivial)
    have HK5 := Lib.hid (HK2.out.trans (hb5.out.mono HK2.out.size))
    have HB5 := Lib.hid (HB2.out.trans (hb5.out.mono HB2.out.size))
    have R5 := Lib.hid (HRv.out.but (ButIn.of hb5.out) (.inr (Nat.zero_le _)))
    obtain ⟨d0, d1, d2, f0, f1, f2⟩ := HRES.out
    have q0 := (HK5.out.cell (p := ⟨w.heap.size, 0, none⟩) HL0.out).trans d0
    have q1 := (HK5.out.cell (p := ⟨w.heap.size, 1, none⟩) HL0.out).trans d1
    have q2 := (HK5.out.cell (p := ⟨w.heap.size, 2, none⟩) HL0.out).trans d2
    have g0 := (HK5.out.frozen (p := ⟨w.heap.size, 0, none⟩) HL0.out).trans f0
    have g1 := (HK5.out.frozen (p := ⟨w.heap.size, 1, none⟩) HL0.out).trans f1
    have g2 := (HK5.out.frozen (p := ⟨w.heap.size, 2, none⟩) HL0.out).trans f2
    clear he5 hb5 HG d0 d1 d2 f0 f1 f2 HRES
    go_wp2_with fail
    refine bodyPost_ret (v := .tuple #[.agg #[.int .i64 x, .int .i64 y, .slice (some ⟨v1.heap.size, 0, none⟩) n n], .bool true]) (by simp [results, Try.results26, go_sem, q0, q1, q2]) rfl (tpost_yes rfl hlen ?_ (HB5.out.trans (store3 (Nat.le_refl _) _ _ _)))
    exact ((R5.out.wide (lo' := v1.heap.size) (hi' := w5.heap.size) (Nat.le_refl _) R5.out.le (Nat.le_refl _)).store3 (Y := w.heap.size) HLV.out _ _ _).lower (Nat.le_of_lt HLV.out)

theorem flatBoth (x y : Int) (h : Nat) (hh : WF .f32 h) (ww : (Lit.int .i64 x).wf = true) (wh : (Lit.int .i64 y).wf = true) : ∃ p q ys b, ys.length ≤ 1048576 ∧ (∀ W, Calls Try.prog 25 #[.int .i64 x, .int .i64 y, .float .f32 h] W (TPost p q ys b W)) ∧ (∀ W, Calls Try.prog 26 #[.int .i64 x, .int .i64 y, .float .f32 h] W (TPost p q ys b W)) := by
  cases h1 : inB x 1 17 with
  | false =>
    have hs : sidesB x y = false := by unfold sidesB; rw [h1]; rfl
    exact ⟨0, 0, [], false, by simp, fun W => specFlatNo x y h W hs, fun W => implFlatNo x y h W hs⟩
  | true =>
    cases h2 : inB y 1 17 with
    | false =>
      have hs : sidesB x y = false := by unfold sidesB; rw [h2, Bool.and_false]
      exact ⟨0, 0, [], false, by simp, fun W => specFlatNo x y h W hs, fun W => implFlatNo x y h W hs⟩
    | true =>
      obtain ⟨a, b⟩ := prod_bd h1 h2
      obtain ⟨n, e⟩ : ∃ n : Nat, x * y = (n : Int) := ⟨(x * y).toNat, by omega⟩
      refine ⟨_, _, _, _, ?_, fun W => specFlat x y n h W h1 h2 e, fun W => implFlat x y n h W h1 h2 e⟩
      unfold gY
      split
      · rw [List.length_replicate]; omega
      · exact Nat.zero_le _

end Go.Proofs.Ytckhdbnoihieeaa
