/-
  What is proved here: whether weights are ones of a field, of both packages; which of two cells is lighter; the lightest of a list of cells (slices.MinFunc), as walks. Conditions: at most 1048576 weights.
-/
import Derived.Test.YthhimielelpcoaaIvp
import Derived.Test.YthhimielelpcoaaLvf
namespace Go.Proofs.Ythhimielelpcoaa
open Flt Go.RowKit
set_option linter.unusedVariables false
set_option linter.unusedSimpArgs false

theorem fin_num {x : Nat} (h : finB .f32 x = true) : nanW .f32 x = false := nanW_of_le (Nat.le_of_lt (of_decide_eq_true h))
/-- weights of a field -/
def wtB (x y : Int) (zs : List Nat) : Bool := fvB x y zs.length && finAll zs

set_option maxRecDepth 100000 in
theorem specWei (x y : Int) (A : Option Addr) (c Z : Nat) (zs : List Nat) (w : World) (hr : RowF w Z A zs) (hn : zs.length ≤ 1048576) :
    Calls Try.prog 63 #[.slice A zs.length c, .int .i64 x, .int .i64 y] w fun e w' => e = .returned (.bool (wtB x y zs)) ∧ ∃ k, w' = w.drewN k := by
  have HS := Lib.hid (fun W => specSides x y W)
  have HF := Lib.hid (specFins A c zs w Z hr hn)
  clear hr
  cases h1 : sidB x y
  · have N : Hid (wtB x y zs = false) := by show _ = _; unfold wtB; rw [fvB_1 h1]; rfl
    rw [h1] at HS
    clear h1
    go_enter Try.func63, Try.ntmps63
    go_wp2_with (go_at_call 103; refine (HS.out _).mono ?_; rintro e w' ⟨rfl, rfl⟩)
    go_ret
    exact ⟨by rw [N.out]; rfl, 0, rfl⟩
  · have hw := sid_in h1
    rw [h1] at HS
    by_cases he : (zs.length : Int) = x * y
    · have N : Hid (wtB x y zs = finAll zs) := by show _ = _; unfold wtB; rw [fvB_2 h1, he]; simp
      have hb : ((zs.length : Int) == x * y) = true := by simp [he]
      clear h1 he
      go_enter Try.func63, Try.ntmps63
      go_wp2_with (first | (go_at_call 103; refine (HS.out _).mono ?_; rintro e w' ⟨rfl, rfl⟩) | (go_at_call 110; refine HF.out.mono ?_; rintro e w' ⟨rfl, k, rfl⟩))
      go_ret
      exact ⟨by rw [N.out]; rfl, _, rfl⟩
    · have N : Hid (wtB x y zs = false) := by show _ = _; unfold wtB; rw [fvB_2 h1, beq_eq_false_iff_ne.2 he]; rfl
      have hb : ((zs.length : Int) == x * y) = false := beq_eq_false_iff_ne.2 he
      clear h1 he
      go_enter Try.func63, Try.ntmps63
      go_wp2_with (go_at_call 103; refine (HS.out _).mono ?_; rintro e w' ⟨rfl, rfl⟩)
      go_ret
      exact ⟨by rw [N.out]; rfl, 0, rfl⟩
set_option maxRecDepth 100000 in
theorem implWei (x y : Int) (A : Option Addr) (c Z : Nat) (zs : List Nat) (w : World) (hr : RowF w Z A zs) (hn : zs.length ≤ 1048576) :
    Calls Try.prog 64 #[.slice A zs.length c, .int .i64 x, .int .i64 y] w fun e w' => e = .returned (.bool (wtB x y zs)) ∧ ∃ k, w' = w.drewN k := by
  have HS := Lib.hid (fun W => implSides x y W)
  have HF := Lib.hid (implFins A c zs w Z hr hn)
  clear hr
  cases h1 : sidB x y
  · have N : Hid (wtB x y zs = false) := by show _ = _; unfold wtB; rw [fvB_1 h1]; rfl
    rw [h1] at HS
    clear h1
    go_enter Try.func64, Try.ntmps64
    go_wp2_with (go_at_call 105; refine (HS.out _).mono ?_; rintro e w' ⟨rfl, rfl⟩)
    go_ret
    exact ⟨by rw [N.out]; rfl, 0, rfl⟩
  · have hw := sid_in h1
    rw [h1] at HS
    by_cases he : (zs.length : Int) = x * y
    · have N : Hid (wtB x y zs = finAll zs) := by show _ = _; unfold wtB; rw [fvB_2 h1, he]; simp
      have hb : ((zs.length : Int) == x * y) = true := by simp [he]
      clear h1 he
      go_enter Try.func64, Try.ntmps64
      go_wp2_with (first | (go_at_call 105; refine (HS.out _).mono ?_; rintro e w' ⟨rfl, rfl⟩) | (go_at_call 111; refine HF.out.mono ?_; rintro e w' ⟨rfl, k, rfl⟩))
      go_ret
      exact ⟨by rw [N.out]; rfl, _, rfl⟩
    · have N : Hid (wtB x y zs = false) := by show _ = _; unfold wtB; rw [fvB_2 h1, beq_eq_false_iff_ne.2 he]; rfl
      have hb : ((zs.length : Int) == x * y) = false := beq_eq_false_iff_ne.2 he
      clear h1 he
      go_enter Try.func64, Try.ntmps64
      go_wp2_with (go_at_call 105; refine (HS.out _).mono ?_; rintro e w' ⟨rfl, rfl⟩)
      go_ret
      exact ⟨by rw [N.out]; rfl, 0, rfl⟩

/-- how two numbers compare -/
def cmpW (a b : Nat) : Int := if FloatKind.f32.format.order a b = some .lt then -1 else if FloatKind.f32.format.order a b = some .gt then 1 else 0
/-- the first of two cells is lighter -/
def ltW (zs : List Nat) (i m : Nat) : Bool := decide (FloatKind.f32.format.order (at0 zs i) (at0 zs m) = some .lt)
theorem cmpW_lt (a b : Nat) : decide (cmpW a b < 0) = decide (FloatKind.f32.format.order a b = some .lt) := by
  unfold cmpW
  by_cases h : FloatKind.f32.format.order a b = some .lt
  · rw [if_pos h, decide_eq_true h]; rfl
  · rw [if_neg h, decide_eq_false h]
    split <;> rfl
theorem cmpW_bd (a b : Nat) : -1 ≤ cmpW a b ∧ cmpW a b ≤ 1 := by
  unfold cmpW
  split
  · omega
  · split <;> omega

set_option maxRecDepth 100000 in
theorem cmpF (a b : Nat) (ha : nanW .f32 a = false) (hb : nanW .f32 b = false) (w : World) :
    Calls Try.prog 67 #[.float .f32 a, .float .f32 b] w fun e w' => e = .returned (.int .i64 (cmpW a b)) ∧ w = w' := by
  have h1 := order_self ha
  have h2 := order_self hb
  have HN : Hid (∀ (x : Nat) (W : World), FloatKind.f32.format.order x x = some .eq → Calls Try.prog 112 #[.float .f32 x] W fun e w' => e = .returned (.bool false) ∧ W = w') := fun x W h => by
    go_enter Try.func112, Try.ntmps112
    go_wp2
    go_ret
    exact ⟨rfl, rfl⟩
  have H1 := Lib.hid (fun W => HN.out a W h1)
  have H2 := Lib.hid (fun W => HN.out b W h2)
  clear HN h1 h2 ha hb
  by_cases hl : FloatKind.f32.format.order a b = some .lt
  · have N : Hid (cmpW a b = -1) := by show _ = _; unfold cmpW; rw [if_pos hl]
    go_enter Try.func67, Try.ntmps67
    go_wp2_with (go_at_call 112; (first | refine (H1.out _).mono ?_ | refine (H2.out _).mono ?_); rintro e w' ⟨rfl, rfl⟩)
    go_ret
    exact ⟨by rw [N.out]; rfl, rfl⟩
  · have hl2 : (FloatKind.f32.format.order a b == some .lt) = false := beq_eq_false_iff_ne.2 hl
    by_cases hg : FloatKind.f32.format.order a b = some .gt
    · have N : Hid (cmpW a b = 1) := by show _ = _; unfold cmpW; rw [if_neg hl, if_pos hg]
      clear hl hl2
      go_enter Try.func67, Try.ntmps67
      go_wp2_with (go_at_call 112; (first | refine (H1.out _).mono ?_ | refine (H2.out _).mono ?_); rintro e w' ⟨rfl, rfl⟩)
      go_ret
      exact ⟨by rw [N.out]; rfl, rfl⟩
    · have hg2 : (FloatKind.f32.format.order a b == some .gt) = false := beq_eq_false_iff_ne.2 hg
      have N : Hid (cmpW a b = 0) := by show _ = _; unfold cmpW; rw [if_neg hl, if_neg hg]
      clear hl hg
      go_enter Try.func67, Try.ntmps67
      go_wp2_with (go_at_call 112; (first | refine (H1.out _).mono ?_ | refine (H2.out _).mono ?_); rintro e w' ⟨rfl, rfl⟩)
      go_ret
      exact ⟨by rw [N.out]; rfl, rfl⟩

theorem cloInv (bx b off n c a d : Nat) (u v : Nat) (w : World) (hbx : w.cell? ⟨bx, 0, none⟩ = some (.slice (some ⟨b, off, none⟩) n c)) (ha : a < n) (hd : d < n) (h1 : w.cell? ⟨b, off + a, none⟩ = some (.float .f32 u)) (h2 : w.cell? ⟨b, off + d, none⟩ = some (.float .f32 v)) (f1 : nanW .f32 u = false) (f2 : nanW .f32 v = false) :
    Calls Try.prog 66 #[.int .i64 (a : Int), .int .i64 (d : Int), .pointer (some ⟨bx, 0, none⟩)] w fun e w' => e = .returned (.int .i64 (cmpW u v)) ∧ ∃ k, w' = w.drewN k := by
  have HC := Lib.hid (fun W => cmpF u v f1 f2 W)
  clear f1 f2
  go_enter Try.func66, Try.ntmps66
  go_wp2_with fail
  go_quiet ((go_at_call 67; refine (HC.out _).mono ?_; rintro e w' ⟨rfl, rfl⟩; exact ⟨rfl, _, rfl⟩))
  go_wp2_with fail
  go_ret
  exact ⟨rfl, _, rfl⟩

set_option maxHeartbeats 4000000 in
theorem minInv (bx b off n c g gc : Nat) (zs : List Nat) (L : List Int) (w : World) (hn : n ≤ 256) (hl : 0 < L.length) (hl2 : L.length ≤ 256) (hL : ∀ j, j < L.length → ∃ a : Nat, atI L j = (a : Int) ∧ a < n) (hX : ∀ j, j < L.length → w.cell? ⟨g, j, none⟩ = some (.int .i64 (atI L j)))
    (hbx : w.cell? ⟨bx, 0, none⟩ = some (.slice (some ⟨b, off, none⟩) n c)) (hz : ∀ j, j < n → w.cell? ⟨b, off + j, none⟩ = some (.float .f32 (at0 zs j))) (hf : ∀ j, j < n → nanW .f32 (at0 zs j) = false) :
    Calls Try.prog 65 #[.slice (some ⟨g, 0, none⟩) L.length gc, .func (.func 66) #[] #[.pointer (some ⟨bx, 0, none⟩)]] w fun e w' => e = .returned (.int .i64 (ivM (ltW zs) L (L.length - 1))) ∧ ∃ k, w' = w.drewN k := by
  have HX := Lib.hid hX
  have HM : Hid (∀ t, t < L.length → ∃ a : Nat, ivM (ltW zs) L t = (a : Int) ∧ a < n) := fun t ht => by
    obtain ⟨j, hj, e⟩ := mem_getD (ivM_mem (lt := ltW zs) ht)
    obtain ⟨a, h1, h2⟩ := hL j hj
    exact ⟨a, by rw [← h1]; exact e.symm, h2⟩
  have HC : Hid (∀ (q a d : Nat), a < n → d < n → Calls Try.prog 66 #[.int .i64 (a : Int), .int .i64 (d : Int), .pointer (some ⟨bx, 0, none⟩)] (w.drewN q) fun e w' => e = .returned (.int .i64 (cmpW (at0 zs a) (at0 zs d))) ∧ ∃ k, w' = (w.drewN q).drewN k) := fun q a d ha hd => cloInv bx b off n c a d _ _ (w.drewN q) hbx ha hd (hz a ha) (hz d hd) (hf a ha) (hf d hd)
  have HL := Lib.hid hL
  have HS : Hid (∀ t, ivM (ltW zs) L (t + 1) = if ltW zs (atI L (t + 1)).toNat (ivM (ltW zs) L t).toNat = true then atI L (t + 1) else ivM (ltW zs) L t) := fun t => rfl
  have h00 := hX 0 hl
  have hz0 : Hid (atI L 0 = ivM (ltW zs) L 0) := rfl
  rw [hz0.out] at h00
  clear hX hL hbx hz hf hz0
  go_enter Try.func65, Try.ntmps65
  go_wp2_with fail
  go_loopw [5, 6] (fun m i wr => ∃ u : Nat, i = .int .i64 (u : Nat) ∧ 0 < u ∧ u ≤ L.length ∧ m = .int .i64 (ivM (ltW zs) L (u - 1)) ∧ ∃ q, wr = w.drewN q) (fun _ i _ => L.length - (intOf i).toNat)
  case atStart => exact ⟨1, rfl, by omega, by omega, rfl, 0, rfl⟩
  case round =>
    clear h00
    obtain ⟨u, rfl, hu0, hu, rfl, q, rfl⟩ := hrel
    by_cases hlt : u < L.length
    · have hc := HX.out u hlt
      obtain ⟨a, ea, han⟩ := HL.out u hlt
      obtain ⟨d, ed, hdn⟩ := HM.out (u - 1) (by omega)
      have hs := HS.out (u - 1)
      rw [show u - 1 + 1 = u by omega, ea, ed, Int.toNat_natCast, Int.toNat_natCast] at hs
      have HQ := Lib.hid (HC.out q a d han hdn)
      rw [ea] at hc
      rw [ed]
      have hd9 := cmpW_lt (at0 zs a) (at0 zs d)
      have hbd := cmpW_bd (at0 zs a) (at0 zs d)
      have hlw : ltW zs a d = decide (FloatKind.f32.format.order (at0 zs a) (at0 zs d) = some .lt) := rfl
      rw [← hlw] at hd9
      clear hlw ea ed
      generalize cmpW (at0 zs a) (at0 zs d) = cv at *
      cases hb : ltW zs a d
      · rw [hb] at hs hd9
        rw [if_neg (by decide)] at hs
        have hcv : ¬ cv < 0 := of_decide_eq_false hd9
        have HS2 := Lib.hid hs
        clear hs hb hd9
        go_wp2_with (go_at_call 66; refine HQ.out.mono ?_; rintro e w' ⟨rfl, k2, rfl⟩)
        go_roundw
        case rel => exact ⟨u + 1, by go_num, by omega, by omega, by rw [show u + 1 - 1 = u by omega, HS2.out], _, by first | rfl | rw [World.drewN_drewN]⟩
        case measure => simp [intOf]; omega
      · rw [hb] at hs hd9
        rw [if_pos rfl] at hs
        have hcv : cv < 0 := of_decide_eq_true hd9
        have HS2 := Lib.hid hs
        clear hs hb hd9
        go_wp2_with (go_at_call 66; refine HQ.out.mono ?_; rintro e w' ⟨rfl, k2, rfl⟩)
        go_roundw
        case rel => exact ⟨u + 1, by go_num, by omega, by omega, by rw [show u + 1 - 1 = u by omega, HS2.out], _, by first | rfl | rw [World.drewN_drewN]⟩
        case measure => simp [intOf]; omega
    · obtain rfl : u = L.length := by omega
      go_wp2_with fail
      go_ret
      exact ⟨rfl, _, rfl⟩
end Go.Proofs.Ythhimielelpcoaa
