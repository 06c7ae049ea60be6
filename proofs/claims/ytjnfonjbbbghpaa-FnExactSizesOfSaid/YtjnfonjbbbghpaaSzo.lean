/-
  What is proved here: SizesOf, of both packages, as walks. Conditions: none but those that each theorem names.
-/
import Derived.Test.YtjnfonjbbbghpaaApp
namespace Go.Proofs.Ytjnfonjbbbghpaa
open Flt Go.RowKit
attribute [local go_sem] run_store_float
set_option linter.unusedVariables false

def szF (fr b : Nat) : Nat → Option Nat
  | 0 => can .f32 fr
  | k + 1 => fop .mul .f32 (szF fr b k) (can .f32 b)

/-- so many, or none -/
def cntT (f : Nat → Option Nat) (n : Nat) : Nat := if finT f n = true then n else 0

set_option maxHeartbeats 2000000 in
theorem specSzo (fr b ct : Nat) (h1 : 1 ≤ ct) (h2 : ct ≤ 32) (g1 : abvB fr = true) (g2 : abvB b = true) (w : World) :
    Calls Try.prog 30 #[.float .f32 fr, .float .f32 b, .int .i64 ct] w (LP (szF fr b) (cntT (szF fr b) ct) (finT (szF fr b) ct) w) := by
  have HX := Lib.hid (fun W => specAbove fr W)
  have HY := Lib.hid (fun W => specAbove b W)
  rw [g1] at HX
  rw [g2] at HY
  have HD := Lib.hid (fun W => inS_any (ct : Int) 1 32 W)
  rw [show inB (ct : Int) 1 32 = true by simp [inB]; omega] at HD
  clear g1 g2
  go_enter Try.func30, Try.ntmps30
  go_wp2_with (first | (go_at_call 62; (first | (with_reducible refine (HX.out _).mono ?_) | (with_reducible refine (HY.out _).mono ?_)); rintro e w' ⟨rfl, n, rfl⟩) | (go_at_call 51; refine (HD.out _).mono ?_; rintro e w' ⟨rfl, rfl⟩))
  clear HX HY HD
  go_loopw [8, 9, 10] (fun o x i wr => ∃ (k g c : Nat) (L : List Nat) (xw : Nat), o = .slice (some ⟨g, 0, none⟩) L.length c ∧ x = .float .f32 xw ∧ i = .int .i64 k ∧ k ≤ ct ∧ Hid (can .f32 xw = szF fr b (k - 1)) ∧ Hid (Tl (szF fr b) k L) ∧ Hid (OwnA wr w.heap.size L g c) ∧ Hid (Below w.heap.size w wr)) (fun _ _ i _ => ct - (intOf i).toNat)
  case atStart => exact ⟨0, _, 0, [], fr, rfl, rfl, rfl, Nat.zero_le _, rfl, Tl.nil _, OwnA.lit0 (w.drewN _), (belowN (Below.refl _ _)).alloc (Nat.le_refl _) _⟩
  case round =>
    obtain ⟨k, g, c, L, xw, rfl, rfl, rfl, hk, hx, hT, hO, hB⟩ := hrel
    have hl : L.length ≤ 32 := by rw [hT.out.len]; omega
    have hsz : Hid (w.heap.size ≤ wr.heap.size) := hB.out.size
    have hlo := hO.out.lo.1
    by_cases hlt : k < ct
    · by_cases h0 : k = 0
      · have h00 : (k : Int) ≤ 0 := by omega
        have hT2 : Hid (Tl (szF fr b) (k + 1) (L ++ [xw])) := hT.out.snoc (by have := hx.out; rw [h0] at this ⊢; exact this)
        have hx2 : Hid (can .f32 xw = szF fr b (k + 1 - 1)) := by show _ = _; have := hx.out; rw [h0] at this ⊢; exact this
        go_wp2_with (at_builtin; refine wpApp rfl _ _ rfl hO.out rfl rfl rfl (by omega) hsz.out ?_; intro g2 c2 w4 O4 B4; have HO4 := Lib.hid O4; have HB4 := Lib.hid (below_app hB.out (Nat.le_refl _) hlo B4); clear O4 B4)
        go_roundw
        case rel => exact ⟨k + 1, g2, c2, L ++ [xw], xw, by rw [snoc_len], rfl, by go_num, by omega, hx2, hT2, HO4, HB4⟩
        case measure => simp [intOf]; omega
      · obtain ⟨m, rfl⟩ : ∃ m, k = m + 1 := ⟨k - 1, by omega⟩
        clear h0
        go_wp2_with (first | ((with_reducible refine upon_bin rfl ?_); intro r n wf er; have hO2 : Hid (OwnA (wr.drewN n) w.heap.size L g c) := hO; have hB2 : Hid (Below w.heap.size w (wr.drewN n)) := belowN hB.out; have hsz2 : Hid (w.heap.size ≤ (wr.drewN n).heap.size) := hsz) | (at_builtin; refine wpApp rfl _ _ rfl hO2.out rfl rfl rfl (by omega) hsz2.out ?_; intro g2 c2 w4 O4 B4; have HO4 := Lib.hid O4; have HB4 := Lib.hid (below_app hB2.out (Nat.le_refl _) hlo B4); clear O4 B4))
        have hx2 : Hid (can .f32 r = szF fr b (m + 1)) := by show _ = _; rw [er.out, hx.out]; rfl
        have hT2 : Hid (Tl (szF fr b) (m + 1 + 1) (L ++ [r])) := hT.out.snoc hx2.out
        go_roundw
        case rel => exact ⟨m + 1 + 1, g2, c2, L ++ [r], r, by rw [snoc_len], rfl, by go_num, by omega, hx2, hT2, HO4, HB4⟩
        case measure => simp [intOf]; omega
    · obtain rfl : k = ct := by omega
      have HL := Lib.hid (specLst (some ⟨g, 0, none⟩) c L wr _ hO.out.rowIn.toRow (by omega))
      have hf := hT.out.fin
      cases hb : finT (szF fr b) k
      · rw [hb] at hf
        have N : Hid (cntT (szF fr b) k = 0) := by show _ = _; unfold cntT; rw [hb]; rfl
        have HBF := Lib.hid hb
        clear hb
        go_wp2_with fail
        refine HL.out.mono ?_
        rintro e w' ⟨_, he, n, rfl⟩
        obtain rfl := he hf
        go_wp2_with fail
        go_ret2
        exact lp_no2 N.out HBF.out (belowN hB.out)
      · rw [hb] at hf
        have N : Hid (cntT (szF fr b) k = k) := by show _ = _; unfold cntT; rw [hb]; rfl
        have HBF := Lib.hid hb
        clear hb
        go_wp2_with fail
        refine HL.out.mono ?_
        rintro e w' ⟨he, _, n, rfl⟩
        obtain rfl := he hf
        go_wp2_with fail
        go_ret2
        have hE := hT.out.len
        rw [hE]
        exact lp_yes N.out HBF.out hT.out (show RowIn (wr.drewN n) _ _ _ _ from hO.out.rowIn.but (ButIn.of (belowN (Below.refl _ _))) (.inr (Nat.zero_le _))) (belowN hB.out)

set_option maxHeartbeats 2000000 in
theorem implSzo (fr b ct : Nat) (h1 : 1 ≤ ct) (h2 : ct ≤ 32) (g1 : abvB fr = true) (g2 : abvB b = true) (w : World) :
    Calls Try.prog 31 #[.float .f32 fr, .float .f32 b, .int .i64 ct] w (LP (szF fr b) (cntT (szF fr b) ct) (finT (szF fr b) ct) w) := by
  have HX := Lib.hid (fun W => implAbove fr W)
  have HY := Lib.hid (fun W => implAbove b W)
  rw [g1] at HX
  rw [g2] at HY
  have HD := Lib.hid (fun W => within_any (ct : Int) 1 32 W)
  rw [show inB (ct : Int) 1 32 = true by simp [inB]; omega] at HD
  have hmk := run_mk ct (by omega)
  clear g1 g2
  go_enter Try.func31, Try.ntmps31
  go_wp2_with (first | (go_at_call 64; (first | (with_reducible refine (HX.out _).mono ?_) | (with_reducible refine (HY.out _).mono ?_)); rintro e w' ⟨rfl, n, rfl⟩) | (go_at_call 53; refine (HD.out _).mono ?_; rintro e w' ⟨rfl, rfl⟩))
  clear HX HY HD hmk
  go_loopw [9, 29] (fun x i wr => ∃ (k xw : Nat) (ws : List Nat), x = .float .f32 xw ∧ i = .int .i64 k ∧ k ≤ ct ∧ Hid (can .f32 xw = szF fr b k) ∧ Hid (Part (szF fr b) ct k ws) ∧ Hid (RowH wr w.heap.size ws) ∧ Hid (Below w.heap.size w wr)) (fun _ i _ => ct - (intOf i).toNat)
  case atStart => exact ⟨0, fr, List.replicate ct 0, rfl, rfl, Nat.zero_le _, rfl, by have := Part.start (szF fr b) (List.replicate ct 0); rwa [List.length_replicate] at this, rowH_new (w.drewN _) ct, (belowN (Below.refl _ _)).alloc (Nat.le_refl _) _⟩
  case round =>
    obtain ⟨k, xw, ws, rfl, rfl, hk, hx, hP, hR, hB⟩ := hrel
    by_cases hlt : k < ct
    · have hc := hR.out.cell k (by rw [hP.out.len]; exact hlt)
      have hf := hR.out.free k (by rw [hP.out.len]; exact hlt)
      have hR2 : Hid (RowH (wr.setCell ⟨w.heap.size, k, none⟩ (.float .f32 xw)) w.heap.size (ws.set k xw)) := hR.out.set (by rw [hP.out.len]; exact hlt)
      have hB2 : Hid (Below w.heap.size w (wr.setCell ⟨w.heap.size, k, none⟩ (.float .f32 xw))) := hB.out.setCell (Nat.le_refl _) _
      have hP2 : Hid (Part (szF fr b) ct (k + 1) (ws.set k xw)) := hP.out.step hlt hx.out
      clear hR hB hP
      go_wp2_with ((with_reducible refine upon_bin rfl ?_); intro r n wf er)
      go_roundw
      case rel => exact ⟨k + 1, r, ws.set k xw, rfl, by go_num, by omega, by show _ = _; rw [er.out, hx.out]; rfl, hP2, hR2.out.dn, belowN hB2.out⟩
      case measure => simp [intOf]; omega
    · obtain rfl : k = ct := by omega
      have hl := hP.out.len
      have HL := implFins (some ⟨w.heap.size, 0, none⟩) k ws wr _ hR.out.row (by omega)
      rw [hl] at HL
      have HL2 := Lib.hid HL
      have hf := hP.out.all.fin
      clear HL
      cases hb : finT (szF fr b) k
      · rw [hb] at hf
        have N : Hid (cntT (szF fr b) k = 0) := by show _ = _; unfold cntT; rw [hb]; rfl
        have HBF := Lib.hid hb
        clear hb
        go_wp2_with fail
        refine HL2.out.mono ?_
        rintro e w' ⟨rfl, n, rfl⟩
        rw [hf]
        go_wp2_with fail
        go_ret2
        exact lp_no2 N.out HBF.out (belowN hB.out)
      · rw [hb] at hf
        have N : Hid (cntT (szF fr b) k = k) := by show _ = _; unfold cntT; rw [hb]; rfl
        have HBF := Lib.hid hb
        clear hb
        go_wp2_with fail
        refine HL2.out.mono ?_
        rintro e w' ⟨rfl, n, rfl⟩
        rw [hf]
        go_wp2_with fail
        go_ret2
        exact lp_yes N.out HBF.out hP.out.all (hR.out.dn.rowIn (Nat.le_refl _)) (belowN hB.out)

theorem specSzoNo (fr b : Nat) (ct : Int) (hb : (abvB fr && (abvB b && inB ct 1 32)) = false) (w : World) :
    Calls Try.prog 30 #[.float .f32 fr, .float .f32 b, .int .i64 ct] w (LP (szF fr b) 0 false w) := by
  have HX := Lib.hid (fun W => specAbove fr W)
  have HY := Lib.hid (fun W => specAbove b W)
  have HD := Lib.hid (fun W => inS_any ct 1 32 W)
  cases h1 : abvB fr
  · rw [h1] at HX
    clear h1 hb
    go_enter Try.func30, Try.ntmps30
    go_wp2_with (go_at_call 62; refine (HX.out _).mono ?_; rintro e w' ⟨rfl, n, rfl⟩)
    go_ret2
    exact lp_no (belowN (Below.refl _ _))
  cases h2 : abvB b
  · rw [h1] at HX
    rw [h2] at HY
    clear h1 h2 hb
    go_enter Try.func30, Try.ntmps30
    go_wp2_with (go_at_call 62; (first | (with_reducible refine (HX.out _).mono ?_) | (with_reducible refine (HY.out _).mono ?_)); rintro e w' ⟨rfl, n, rfl⟩)
    go_ret2
    exact lp_no (belowN (Below.refl _ _))
  · have h3 : inB ct 1 32 = false := by rw [h1, h2] at hb; exact hb
    rw [h1] at HX
    rw [h2] at HY
    rw [h3] at HD
    clear h1 h2 h3 hb
    go_enter Try.func30, Try.ntmps30
    go_wp2_with (first | (go_at_call 62; (first | (with_reducible refine (HX.out _).mono ?_) | (with_reducible refine (HY.out _).mono ?_)); rintro e w' ⟨rfl, n, rfl⟩) | (go_at_call 51; refine (HD.out _).mono ?_; rintro e w' ⟨rfl, rfl⟩))
    go_ret2
    exact lp_no (belowN (Below.refl _ _))
theorem implSzoNo (fr b : Nat) (ct : Int) (hb : (abvB fr && (abvB b && inB ct 1 32)) = false) (w : World) :
    Calls Try.prog 31 #[.float .f32 fr, .float .f32 b, .int .i64 ct] w (LP (szF fr b) 0 false w) := by
  have HX := Lib.hid (fun W => implAbove fr W)
  have HY := Lib.hid (fun W => implAbove b W)
  have HD := Lib.hid (fun W => within_any ct 1 32 W)
  cases h1 : abvB fr
  · rw [h1] at HX
    clear h1 hb
    go_enter Try.func31, Try.ntmps31
    go_wp2_with (go_at_call 64; refine (HX.out _).mono ?_; rintro e w' ⟨rfl, n, rfl⟩)
    go_ret2
    exact lp_no (belowN (Below.refl _ _))
  cases h2 : abvB b
  · rw [h1] at HX
    rw [h2] at HY
    clear h1 h2 hb
    go_enter Try.func31, Try.ntmps31
    go_wp2_with (go_at_call 64; (first | (with_reducible refine (HX.out _).mono ?_) | (with_reducible refine (HY.out _).mono ?_)); rintro e w' ⟨rfl, n, rfl⟩)
    go_ret2
    exact lp_no (belowN (Below.refl _ _))
  · have h3 : inB ct 1 32 = false := by rw [h1, h2] at hb; exact hb
    rw [h1] at HX
    rw [h2] at HY
    rw [h3] at HD
    clear h1 h2 h3 hb
    go_enter Try.func31, Try.ntmps31
    go_wp2_with (first | (go_at_call 64; (first | (with_reducible refine (HX.out _).mono ?_) | (with_reducible refine (HY.out _).mono ?_)); rintro e w' ⟨rfl, n, rfl⟩) | (go_at_call 53; refine (HD.out _).mono ?_; rintro e w' ⟨rfl, rfl⟩))
    go_ret2
    exact lp_no (belowN (Below.refl _ _))

theorem szoBoth (fr b : Nat) (ct : Int) : ∃ f n ok, n ≤ 1048576 ∧ (∀ W, Calls Try.prog 30 #[.float .f32 fr, .float .f32 b, .int .i64 ct] W (LP f n ok W)) ∧ (∀ W, Calls Try.prog 31 #[.float .f32 fr, .float .f32 b, .int .i64 ct] W (LP f n ok W)) := by
  cases hb : abvB fr && (abvB b && inB ct 1 32) with
  | false => exact ⟨_, 0, _, by omega, specSzoNo fr b ct hb, implSzoNo fr b ct hb⟩
  | true =>
    rw [Bool.and_eq_true, Bool.and_eq_true] at hb
    obtain ⟨h1, h2, h3⟩ := hb
    obtain ⟨a, d⟩ := inB_yes h3
    obtain ⟨n, rfl⟩ := Int.eq_ofNat_of_zero_le (show 0 ≤ ct by omega)
    exact ⟨_, _, _, by unfold cntT; split <;> omega, specSzo fr b n (by omega) (by omega) h1 h2, implSzo fr b n (by omega) (by omega) h1 h2⟩

end Go.Proofs.Ytjnfonjbbbghpaa
