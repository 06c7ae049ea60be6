/-
  What is proved here: ReadView of both packages, and the law, as walks. Conditions: the text has at most 1048576 bytes; the library's variables hold what it lays.
-/
import Derived.Test.YtegbclfjcckglaaDoorRvw
import Derived.Test.YtegbclfjcckglaaDoorEqm
import Derived.Test.YtegbclfjcckglaaDoorShelfD
namespace Go.Proofs.YtegbclfjcckglaaDoor
open Flt Go.RowKit
attribute [local go_sem] run_store_complex run_store_float

set_option maxHeartbeats 2000000 in
theorem specRV (s : ByteArray) (hs : s.size ≤ 1048576) (w : World) : Calls Tryd.prog 16 #[.string s] w (RVP (rvB s) (rvV s) w) := by
  have H : Hid (∀ W, Calls Tryd.prog 58 #[.string s] W (RVP (rvB s) (rvV s) W)) := fun W => specRV8 s hs W
  unfold RVP Vw.val at H
  generalize rvB s = bb at *
  generalize rvV s = vv at *
  obtain ⟨p, q, f, k, l⟩ := vv
  go_enter Tryd.func16, Tryd.ntmps16
  go_wp2_with fail
  refine (H.out _).mono ?_
  rintro e w3 ⟨rfl, B3⟩
  have hx : w.heap.size < w3.heap.size := by have := B3.out.size; simp at this; omega
  have hc := fun o => (varq B3.out o).1
  have hf := fun o => (varq B3.out o).2
  have c0 := (hc 0).trans rfl; have c1 := (hc 1).trans rfl; have c2 := (hc 2).trans rfl; have c3 := (hc 3).trans rfl
  have HB : Hid (Below w.heap.size w w3) := ((Below.refl _ _).alloc (Nat.le_refl _) _).trans (B3.out.mono (by simp))
  clear B3 hc
  go_wp2_with fail
  refine bodyPost_ret (v := .tuple #[.agg #[.complex .f32 p q, .float .f32 f, .int .i64 k, .int .i64 l], .bool bb]) (by simp [results, Tryd.results16, go_sem, c0, c1, c2, c3]) rfl ⟨rfl, ?_⟩
  iterate 4 (refine Below.setCell ?_ (by exact Nat.le_refl _) _)
  exact HB.out

set_option maxHeartbeats 2000000 in
theorem implRVlen (s : ByteArray) (hs : s.size ≤ 1048576) (hl : ¬ (cutBd 59 s).length = 3) (w : World) (hv : VarsM w) : Calls Tryd.prog 17 #[.string s] w (RVP false vw0 w) := by
  have HV := Lib.hid hv
  have HC : Hid (∀ W, VarsM W → Calls Tryd.prog 59 #[.string s, .string ⟨#[59]⟩] W fun e w' => ∃ g c, e = .returned (.slice (some ⟨g, 0, none⟩) (cutBd 59 s).length c) ∧ Hid (Below W.heap.size W w')) := fun W h => (splitWhole 59 s hs W h.most).mono fun e w' ⟨g, c, h1, _, h2⟩ => ⟨g, c, h1, h2⟩
  have e0 : (((cutBd 59 s).length : Int) != 3) = true := by simp; omega
  have e1 : (((cutBd 59 s).length : Int) == 3) = false := by simp; omega
  have B0 : Hid (Below w.heap.size w (w.alloc (.cells #[.complex .f32 0 0, .float .f32 0, .int .i64 0, .int .i64 0] 31))) := (Below.refl _ _).alloc (Nat.le_refl _) _
  clear hl hv
  generalize (cutBd 59 s).length = n at *
  go_enter Tryd.func17, Tryd.ntmps17
  go_wp2_with fail
  refine (HC.out _ (HV.out.below B0.out)).mono ?_
  rintro e w1 ⟨g, c, rfl, B1⟩
  have hx : w.heap.size < w1.heap.size := by have := B1.out.size; simp at this; omega
  have hc := fun o => (varq B1.out o).1
  have hf := fun o => (varq B1.out o).2
  have c0 := (hc 0).trans rfl; have c1 := (hc 1).trans rfl; have c2 := (hc 2).trans rfl; have c3 := (hc 3).trans rfl
  have HB : Hid (Below w.heap.size w w1) := ((Below.refl _ _).alloc (Nat.le_refl _) _).trans (B1.out.mono (by simp))
  clear B1 hc
  go_wp2_with fail
  refine bodyPost_ret (v := .tuple #[vw0.val, .bool false]) (by simp [results, Tryd.results17, go_sem, c0, c1, c2, c3, Vw.val, vw0]) rfl ⟨rfl, ?_⟩
  iterate 4 (refine Below.setCell ?_ (by exact Nat.le_refl _) _)
  exact HB.out

/-- what is known of the parts of a view -/
structure ImpV (s x y z : ByteArray) (p q f : Nat) (b1 b2 : Bool) : Prop where
  cut : ∀ W, VarsM W → Calls Tryd.prog 59 #[.string s, .string ⟨#[59]⟩] W fun e w' => ∃ g c, e = .returned (.slice (some ⟨g, 0, none⟩) 3 c) ∧ w'.cell? ⟨g, 0, none⟩ = some (.string x) ∧ Hid (w'.cell? ⟨g, 1, none⟩ = some (.string y)) ∧ Hid (w'.cell? ⟨g, 2, none⟩ = some (.string z)) ∧ Hid (g < w'.heap.size) ∧ Hid (Below W.heap.size W w')
  cx : ∀ W, VarsM W → Calls Tryd.prog 55 #[.string x] W (CLPost (clL x) (clB x) W)
  ox : ∀ A c B W, OwnC W B A (clL x) → Calls Tryd.prog 54 #[.slice A (clL x).length c, .bool (clB x)] W fun e w' => e = .returned (.tuple #[.complex .f32 p q, .bool b1]) ∧ W = w'
  cy : ∀ W, VarsM W → Calls Tryd.prog 48 #[.string y] W (NLPost (nlL y) (nlB y) W)
  oy : ∀ A c B W, OwnF W B A (nlL y) → Calls Tryd.prog 60 #[.slice A (nlL y).length c, .bool (nlB y)] W fun e w' => e = .returned (.tuple #[.float .f32 f, .bool b2]) ∧ W = w'

set_option maxHeartbeats 4000000 in
theorem implRVno (s x y z : ByteArray) (p q f n : Nat) (b1 b2 b3 : Bool) (hno : NoV b1 b2 b3 n) (w : World) (hv : VarsM w) (I : ImpV s x y z p q f b1 b2)
    (HZ : Hid (∀ W, VarsM W → Calls Tryd.prog 40 #[.string z] W fun e w' => ∃ A c, e = .returned (.tuple #[.slice A n c, .bool b3]) ∧ Hid (Below W.heap.size W w'))) :
    Calls Tryd.prog 17 #[.string s] w (RVP false vw0 w) := by
  obtain ⟨hC, hX, hOX, hY, hOY⟩ := I
  unfold CLPost at hX
  unfold NLPost at hY
  have HC := Lib.hid hC
  have HX := Lib.hid hX
  have HOX := Lib.hid hOX
  have HY := Lib.hid hY
  have HOY := Lib.hid hOY
  have HV := Lib.hid hv
  clear hC hX hOX hY hOY hv
  generalize clL x = cl at *
  generalize clB x = cb at *
  generalize nlL y = nl at *
  generalize nlB y = nb at *
  have B0 : Hid (Below w.heap.size w (w.alloc (.cells #[.complex .f32 0 0, .float .f32 0, .int .i64 0, .int .i64 0] 31))) := (Below.refl _ _).alloc (Nat.le_refl _) _
  have e0 : n = 2 ∨ (((n : Int) != 2) = true ∧ ((n : Int) == 2) = false) := by
    by_cases h : n = 2
    · exact .inl h
    · exact .inr ⟨by simp; omega, by simp; omega⟩
  rcases hno with rfl | ⟨rfl, rfl⟩ | ⟨rfl, rfl, rfl⟩ | ⟨rfl, rfl, rfl, h⟩
  all_goals
    first
      | (have e1 := (e0.resolve_left h).1
         have e2 := (e0.resolve_left h).2
         clear e0 h)
      | clear e0
    go_enter Tryd.func17, Tryd.ntmps17
    go_wp2_with fail
    refine (HC.out _ (HV.out.below B0.out)).mono ?_
    rintro e w1 ⟨g, c, rfl, t0, T1, T2, hg, B1⟩
    go_wp2_with fail
    refine (HX.out _ (HV.out.below (B0.out.trans (B1.out.mono (by simp))))).mono ?_
    rintro e w2 ⟨A2, c2, rfl, hO2, b2⟩
    have t1 : w2.cell? ⟨g, 1, none⟩ = some (.string y) := by rw [b2.out.cell (p := ⟨g, 1, none⟩) hg.out]; exact T1.out
    have U2 : Hid (w2.cell? ⟨g, 2, none⟩ = some (.string z)) := by show _ = _; rw [b2.out.cell (p := ⟨g, 2, none⟩) hg.out]; exact T2.out
    have hg2 : Hid (g < w2.heap.size) := Nat.lt_of_lt_of_le hg.out b2.out.size
    have B2 := Lib.hid (B1.out.trans (b2.out.mono B1.out.size))
    clear t0 b2 B1 T1 T2 hg
    go_wp2_with fail
    refine (HOX.out _ _ _ _ hO2.out).mono ?_
    rintro e w2' ⟨rfl, rfl⟩
    clear hO2
    go_wp2_with fail
    refine (HY.out _ (HV.out.below (B0.out.trans (B2.out.mono (by simp))))).mono ?_
    rintro e w3 ⟨A3, c3, rfl, hO3, b3⟩
    have t2 : w3.cell? ⟨g, 2, none⟩ = some (.string z) := by rw [b3.out.cell (p := ⟨g, 2, none⟩) hg2.out]; exact U2.out
    have B3 := Lib.hid (B2.out.trans (b3.out.mono B2.out.size))
    clear t1 b3 B2 U2 hg2
    go_wp2_with fail
    refine (HOY.out _ _ _ _ hO3.out).mono ?_
    rintro e w3' ⟨rfl, rfl⟩
    clear hO3
    go_wp2_with fail
    refine (HZ.out _ (HV.out.below (B0.out.trans (B3.out.mono (by simp))))).mono ?_
    rintro e w4 ⟨A, c4, rfl, b4⟩
    have B4 := Lib.hid (B3.out.trans (b4.out.mono B3.out.size))
    have hx : w.heap.size < w4.heap.size := by have := B4.out.size; simp at this; omega
    have hc := fun o => (varq B4.out o).1
    have hf := fun o => (varq B4.out o).2
    have d0 := (hc 0).trans rfl; have d1 := (hc 1).trans rfl; have d2 := (hc 2).trans rfl; have d3 := (hc 3).trans rfl
    have HB : Hid (Below w.heap.size w w4) := ((Below.refl _ _).alloc (Nat.le_refl _) _).trans (B4.out.mono (by simp))
    clear t2 b4 B3 B4 hc
    go_wp2_with fail
    refine bodyPost_ret (v := .tuple #[vw0.val, .bool false]) (by simp [results, Tryd.results17, go_sem, d0, d1, d2, d3, Vw.val, vw0]) rfl ⟨rfl, ?_⟩
    iterate 4 (refine Below.setCell ?_ (by exact Nat.le_refl _) _)
    exact HB.out

set_option maxHeartbeats 4000000 in
theorem implRVyes (s x y z : ByteArray) (p q f : Nat) (k l : Int) (vb : Bool) (hvb : viewB p q f k l = vb) (v : Vw) (hvv : Hid (v = if vb = true then ⟨p, q, f, k, l⟩ else vw0)) (w : World) (hv : VarsM w) (I : ImpV s x y z p q f true true)
    (HZ : Hid (∀ W, VarsM W → Calls Tryd.prog 40 #[.string z] W fun e w' => ∃ b off c, e = .returned (.tuple #[.slice (some ⟨b, off, none⟩) 2 c, .bool true]) ∧ b < w'.heap.size ∧ w'.cell? ⟨b, off, none⟩ = some (.int .i64 k) ∧ w'.cell? ⟨b, off + 1, none⟩ = some (.int .i64 l) ∧ Hid (Below W.heap.size W w'))) :
    Calls Tryd.prog 17 #[.string s] w (RVP vb v w) := by
  obtain ⟨hC, hX, hOX, hY, hOY⟩ := I
  unfold CLPost at hX
  unfold NLPost at hY
  have HC := Lib.hid hC
  have HX := Lib.hid hX
  have HOX := Lib.hid hOX
  have HY := Lib.hid hY
  have HOY := Lib.hid hOY
  have HV := Lib.hid hv
  have HVV : Hid (∀ W, Calls Tryd.prog 61 #[.agg #[.complex .f32 p q, .float .f32 f, .int .i64 k, .int .i64 l]] W fun e w' => e = .returned (.bool vb) ∧ Below W.heap.size W w') := fun W => by
    rw [← hvb]; exact implView p q f k l W
  clear hC hX hOX hY hOY hv hvb
  generalize clL x = cl at *
  generalize clB x = cb at *
  generalize nlL y = nl at *
  generalize nlB y = nb at *
  have B0 : Hid (Below w.heap.size w (w.alloc (.cells #[.complex .f32 0 0, .float .f32 0, .int .i64 0, .int .i64 0] 31))) := (Below.refl _ _).alloc (Nat.le_refl _) _
  go_enter Tryd.func17, Tryd.ntmps17
  go_wp2_with fail
  refine (HC.out _ (HV.out.below B0.out)).mono ?_
  rintro e w1 ⟨g, c, rfl, t0, T1, T2, hg, B1⟩
  go_wp2_with fail
  refine (HX.out _ (HV.out.below (B0.out.trans (B1.out.mono (by simp))))).mono ?_
  rintro e w2 ⟨A2, c2, rfl, hO2, b2⟩
  have t1 : w2.cell? ⟨g, 1, none⟩ = some (.string y) := by rw [b2.out.cell (p := ⟨g, 1, none⟩) hg.out]; exact T1.out
  have U2 : Hid (w2.cell? ⟨g, 2, none⟩ = some (.string z)) := by show _ = _; rw [b2.out.cell (p := ⟨g, 2, none⟩) hg.out]; exact T2.out
  have hg2 : Hid (g < w2.heap.size) := Nat.lt_of_lt_of_le hg.out b2.out.size
  have B2 := Lib.hid (B1.out.trans (b2.out.mono B1.out.size))
  clear t0 b2 B1 T1 T2 hg
  go_wp2_with fail
  refine (HOX.out _ _ _ _ hO2.out).mono ?_
  rintro e w2' ⟨rfl, rfl⟩
  clear hO2
  go_wp2_with fail
  refine (HY.out _ (HV.out.below (B0.out.trans (B2.out.mono (by simp))))).mono ?_
  rintro e w3 ⟨A3, c3, rfl, hO3, b3⟩
  have t2 : w3.cell? ⟨g, 2, none⟩ = some (.string z) := by rw [b3.out.cell (p := ⟨g, 2, none⟩) hg2.out]; exact U2.out
  have B3 := Lib.hid (B2.out.trans (b3.out.mono B2.out.size))
  clear t1 b3 B2 U2 hg2
  go_wp2_with fail
  refine (HOY.out _ _ _ _ hO3.out).mono ?_
  rintro e w3' ⟨rfl, rfl⟩
  clear hO3
  go_wp2_with fail
  refine (HZ.out _ (HV.out.below (B0.out.trans (B3.out.mono (by simp))))).mono ?_
  rintro e w4 ⟨b, off, c4, rfl, hb, hk, hl, b4⟩
  have B4 := Lib.hid (B3.out.trans (b4.out.mono B3.out.size))
  have e2 : (((2 : Nat) : Int) != 2) = false := by decide
  have hx : w.heap.size < w4.heap.size := by have := B4.out.size; simp at this; omega
  clear t2 b4 B3
  have BD : Below (w4.alloc (.cells #[.complex .f32 p q, .float .f32 f, .int .i64 k, .int .i64 l] 31)).heap.size (w4.alloc (.cells #[.complex .f32 p q, .float .f32 f, .int .i64 k, .int .i64 l] 31)) (w4.alloc (.cells #[.complex .f32 p q, .float .f32 f, .int .i64 k, .int .i64 l] 31)).drew := (Below.refl _ _).drew
  have hz4 : Hid (w4.heap.size < (w4.alloc (.cells #[.complex .f32 p q, .float .f32 f, .int .i64 k, .int .i64 l] 31)).drew.heap.size) := by show _ < _; simp
  have B5 := Lib.hid ((B4.out.alloc B4.out.size (.cells #[.complex .f32 p q, .float .f32 f, .int .i64 k, .int .i64 l] 31)).trans (BD.mono (by have := B4.out.size; simp at this ⊢; omega)))
  have hd := fun o => (varq BD o).1
  have D0 := Lib.hid ((hd 0).trans rfl); have D1 := Lib.hid ((hd 1).trans rfl); have D2 := Lib.hid ((hd 2).trans rfl); have D3 := Lib.hid ((hd 3).trans rfl)
  clear BD hd B4
  cases vb
  all_goals
    go_wp2_with fail
    go_region_with fail
    all_goals
      clear hk hl hb hx e2
      generalize (w4.alloc (.cells #[.complex .f32 p q, .float .f32 f, .int .i64 k, .int .i64 l] 31)).drew = w5 at *
      have d0 := D0.out; have d1 := D1.out; have d2 := D2.out; have d3 := D3.out
      go_wp2_with fail
      refine (HVV.out _).mono ?_
      rintro e w6 ⟨rfl, b6⟩
      have B6 := Lib.hid (B5.out.trans (b6.mono B5.out.size))
      have hx : w.heap.size < w6.heap.size := by have := B6.out.size; simp at this; omega
      have hc := fun o => (varq B6.out o).1
      have hf := fun o => (varq B6.out o).2
      have c0 := (hc 0).trans rfl; have c1 := (hc 1).trans rfl; have c2 := (hc 2).trans rfl; have c3 := (hc 3).trans rfl
      have HB : Hid (Below w.heap.size w w6) := ((Below.refl _ _).alloc (Nat.le_refl _) _).trans (B6.out.mono (by simp))
      rw [← b6.cell (p := ⟨w4.heap.size, 0, none⟩) hz4.out] at d0
      rw [← b6.cell (p := ⟨w4.heap.size, 1, none⟩) hz4.out] at d1
      rw [← b6.cell (p := ⟨w4.heap.size, 2, none⟩) hz4.out] at d2
      rw [← b6.cell (p := ⟨w4.heap.size, 3, none⟩) hz4.out] at d3
      clear hc B5 B6 b6
      go_wp2_with fail
      first
        | refine bodyPost_ret (v := .tuple #[vw0.val, .bool false]) (by simp [results, Tryd.results17, go_sem, c0, c1, c2, c3, Vw.val, vw0]) rfl ⟨by rw [hvv.out]; rfl, ?_⟩
        | refine bodyPost_ret (v := .tuple #[(Vw.mk p q f k l).val, .bool true]) (by simp [results, Tryd.results17, go_sem, c0, c1, c2, c3, Vw.val]) rfl ⟨by rw [hvv.out]; rfl, ?_⟩
      iterate 4 (refine Below.setCell ?_ (by exact Nat.le_refl _) _)
      exact HB.out

theorem implRV (s : ByteArray) (hs : s.size ≤ 1048576) (w : World) (hv : VarsM w) : Calls Tryd.prog 17 #[.string s] w (RVP (rvB s) (rvV s) w) := by
  by_cases hl : (cutBd 59 s).length = 3
  · obtain ⟨x, y, z, hP⟩ : ∃ x y z, cutBd 59 s = [x, y, z] := by
      match h : cutBd 59 s, hl with
      | [x, y, z], _ => exact ⟨x, y, z, rfl⟩
    have hsz : ∀ t ∈ cutBd 59 s, t.size ≤ 1048576 := fun t ht => Nat.le_trans (part_size ht) hs
    rw [hP] at hsz
    have I : ∀ b1 b2, ptB x = b1 → nmB y = b2 → ImpV s x y z (ptN x).1 (ptN x).2 (nmN y) b1 b2 := fun b1 b2 g1 g2 => ⟨fun W h => (splitWhole 59 s hs W h.most).mono fun e w' ⟨g, c, h1, hS, h2⟩ => by
      rw [hP] at h1 hS
      exact ⟨g, c, h1, hS.out.2.2 0 _ rfl, hS.out.2.2 1 _ rfl, hS.out.2.2 2 _ rfl, hS.out.2.1, h2⟩,
      fun W h => implCl x (hsz x (by simp)) W h.most, fun A c B W h => g1 ▸ onlyC2 A c B x W h, fun W h => implNl y (hsz y (by simp)) W h.most, fun A c B W h => g2 ▸ onlyF2 A c B y W h⟩
    have HZ := fun W h => implLi z (hsz z (by simp)) W (VarsM.vars h) (VarsM.most h)
    have e1 : rvB s = rdV x y z := by unfold rvB; rw [hP]
    have e2 : rvV s = rvO x y z := by unfold rvV; rw [hP]
    rw [e1, e2]
    rcases rv_ways x y z with h | ⟨h1, h2, h3, h4, h5⟩
    · rw [(rv_zero h).1, (rv_zero h).2]
      exact implRVno s x y z _ _ _ _ _ _ _ h w hv (I _ _ rfl rfl) fun W hW => (HZ W hW).mono fun e w' ⟨A, c, h1, _, h2⟩ => ⟨A, c, h1, h2⟩
    · unfold LPost at HZ
      rw [h3, h4] at HZ
      refine implRVyes s x y z _ _ _ _ _ _ h5.symm _ ?_ w hv (I _ _ h1 h2) fun W hW => (HZ W hW).mono fun e w' ⟨A, c, h1, hO, h2⟩ => ?_
      · show rvO x y z = _
        unfold rvO; rfl
      · obtain ⟨b, off, rfl, _, hlt, hc, _⟩ := hO.out (by omega)
        exact ⟨b, off, c, h1, hlt, hc 0 (by omega), hc 1 (by omega), h2⟩
  · have e1 : rvB s = false := by
      unfold rvB
      split
      · rename_i h; rw [h] at hl; exact absurd rfl hl
      · rfl
    have e2 : rvV s = vw0 := by
      unfold rvV
      split
      · rename_i h; rw [h] at hl; exact absurd rfl hl
      · rfl
    rw [e1, e2]
    exact implRVlen s hs hl w hv

set_option maxHeartbeats 2000000 in
theorem lawRV (s : ByteArray) (hs : s.size ≤ maxLen) (w : World) (hv : VarsM w) :
    Calls Tryd.prog 4 #[.string s] w fun e w' => e = .returned (.bool true) ∧ Below w.heap.size w w' := by
  have HV := Lib.hid hv
  clear hv
  unfold maxLen at hs
  by_cases hbig : 1048576 < s.size
  · go_enter Tryd.func4, Tryd.ntmps4
    go_wp2
    go_ret
    exact ⟨rfl, Below.refl _ _⟩
  · have hn : s.size ≤ 1048576 := by omega
    have HS : Hid (∀ W, Calls Tryd.prog 16 #[.string s] W (RVP (rvB s) (rvV s) W)) := fun W => specRV s hn W
    have HI : Hid (∀ W, VarsM W → Calls Tryd.prog 17 #[.string s] W (RVP (rvB s) (rvV s) W)) := fun W h => implRV s hn W h
    unfold RVP Vw.val at HS HI
    clear hbig
    generalize rvB s = bb at *
    generalize rvV s = vv at *
    obtain ⟨p, q, f, k, l⟩ := vv
    go_enter Tryd.func4, Tryd.ntmps4
    go_wp2_with fail
    refine (HS.out _).mono ?_
    rintro e w1 ⟨rfl, B1⟩
    have B2 : Hid (Below w.heap.size w (w1.alloc (.cells #[.complex .f32 p q, .float .f32 f, .int .i64 k, .int .i64 l] 31))) := B1.out.alloc B1.out.size _
    have z1 : w1.heap.size < (w1.alloc (.cells #[.complex .f32 p q, .float .f32 f, .int .i64 k, .int .i64 l] 31)).heap.size := by simp
    have C1 : Hid (∀ w2, Below (w1.alloc (.cells #[.complex .f32 p q, .float .f32 f, .int .i64 k, .int .i64 l] 31)).heap.size (w1.alloc (.cells #[.complex .f32 p q, .float .f32 f, .int .i64 k, .int .i64 l] 31)) w2 → w2.cell? ⟨w1.heap.size, 0, none⟩ = some (.complex .f32 p q) ∧ w2.cell? ⟨w1.heap.size, 1, none⟩ = some (.float .f32 f) ∧ w2.cell? ⟨w1.heap.size, 2, none⟩ = some (.int .i64 k) ∧ w2.cell? ⟨w1.heap.size, 3, none⟩ = some (.int .i64 l)) := fun w2 h => ⟨(varq h 0).1.trans rfl, (varq h 1).1.trans rfl, (varq h 2).1.trans rfl, (varq h 3).1.trans rfl⟩
    have Z1 := Lib.hid z1
    clear B1 z1
    go_wp2_with fail
    generalize w1.alloc (.cells #[.complex .f32 p q, .float .f32 f, .int .i64 k, .int .i64 l] 31) = a1 at *
    generalize w1.heap.size = x1 at *
    refine (HI.out _ (HV.out.below B2.out)).mono ?_
    rintro e w2 ⟨rfl, b2⟩
    obtain ⟨c0, c1, c2, c3⟩ := C1.out w2 b2.out
    have B3 : Hid (Below w.heap.size w (w2.alloc (.cells #[.complex .f32 p q, .float .f32 f, .int .i64 k, .int .i64 l] 31))) := (B2.out.trans (b2.out.mono B2.out.size)).alloc (Nat.le_trans B2.out.size b2.out.size) _
    have hx1 : x1 < w2.heap.size := Nat.lt_of_lt_of_le Z1.out b2.out.size
    clear B2 b2 C1 Z1
    go_wp2_with (go_at_call 18; refine (eqView_is _ _ _ _ _ _).mono ?_; rintro e w3 ⟨rfl, b3⟩; have B4 := Lib.hid (B3.out.trans (b3.mono B3.out.size)); clear b3)
    go_ret
    exact ⟨rfl, B4.out⟩

end Go.Proofs.YtegbclfjcckglaaDoor
