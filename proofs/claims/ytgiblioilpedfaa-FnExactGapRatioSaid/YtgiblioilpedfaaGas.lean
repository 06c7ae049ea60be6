/-
  What is proved here: GapRatio, of both packages, as walks. Conditions: at most 1048576 masses.
-/
import Derived.Test.YtgiblioilpedfaaGaw
namespace Go.Proofs.Ytgiblioilpedfaa
open Flt Go.RowKit
set_option linter.unusedVariables false

def gwT (z : List Int) (j : Nat) : Option Nat := can .f32 (floatOfInt .f32 (((atI z j).toNat : Nat) : Int))
theorem gw_is {z : List Int} {n : Nat} (h : msK z n = true) {j : Nat} (hj : j < n) : gwT z j = can .f32 (floatOfInt .f32 (atI z j)) := by
  unfold gwT
  rw [Int.toNat_of_nonneg (msK_at h j hj).1]
theorem msB_yes {z : List Int} (h : msB z = true) : (1 ≤ z.length ∧ z.length ≤ 256) ∧ msK z z.length = true ∧ 0 < msS z z.length := by
  unfold msB at h
  rw [Bool.and_eq_true, Bool.and_eq_true] at h
  obtain ⟨⟨h1, h2⟩, h3⟩ := h
  have := inB_yes h1
  exact ⟨⟨by omega, by omega⟩, h2, of_decide_eq_true h3⟩
theorem gap_is {z : List Int} (h : msB z = true) : ∃ v, gapT (gwT z) z.length = some v ∧ finB .f32 v = true := by
  obtain ⟨⟨_, h2⟩, hk, hp⟩ := msB_yes h
  obtain ⟨j, hj, h1⟩ := msS_pos hp
  obtain ⟨v, e, m, s, p, hr, _⟩ := gap_fin (fun j => (atI z j).toNat) z.length h2 (fun j hj => by have := (msK_at hk j hj).2; omega) ⟨j, hj, by show 1 ≤ (atI z j).toNat; omega⟩
  refine ⟨v, e, decide_eq_true ?_⟩
  rcases Nat.lt_trichotomy (v % FloatKind.f32.format.signWeight) FloatKind.f32.format.infRung with h1 | h1 | h1
  · exact h1
  · rw [read_inf h1] at hr; cases hr
  · have := nanW_of_lt h1; unfold nanW at this; rw [hr] at this; cases this
def GpPost (g : Option Nat) (b : Bool) (w : World) (e : Ending) (w' : World) : Prop := ∃ gw, e = .returned (.tuple #[.float .f32 gw, .bool b]) ∧ WF .f32 gw ∧ Hid (can .f32 gw = g) ∧ Hid (Below w.heap.size w w')
theorem specNum1 (x : Nat) (hx : finB .f32 x = true) (w : World) : Calls Try.prog 143 #[.float .f32 x] w fun e w' => e = .returned (.tuple #[.float .f32 x, .bool true]) ∧ ∃ n, w' = w.drewN n := by
  have H := Lib.hid (specFin x w)
  rw [hx] at H
  go_enter Try.func143, Try.ntmps143
  go_wp2_with (go_at_call 62; refine H.out.mono ?_; rintro e w' ⟨rfl, n, rfl⟩)
  go_ret2
  exact ⟨rfl, _, rfl⟩

theorem specGapNo (A : Option Addr) (c : Nat) (z : List Int) (w : World) (hr : RowV w w.heap.size A z.length (iv (atI z))) (hn : z.length ≤ 1048576) (h : msB z = false) :
    Calls Try.prog 57 #[.slice A z.length c] w (GpPost (can .f32 0) false w) := by
  have HS := Lib.hid (specSm A c z w _ hr hn)
  rw [h] at HS
  clear hr h
  go_enter Try.func57, Try.ntmps57
  go_wp2_with (go_at_call 141; refine HS.out.mono ?_; rintro e w' ⟨s, rfl, rfl⟩)
  go_ret2
  exact ⟨0, rfl, ⟨by decide⟩, rfl, Below.refl _ _⟩
theorem implGapNo (A : Option Addr) (c : Nat) (z : List Int) (w : World) (hr : RowV w w.heap.size A z.length (iv (atI z))) (hn : z.length ≤ 1048576) (h : msB z = false) :
    Calls Try.prog 59 #[.slice A z.length c] w (GpPost (can .f32 0) false w) := by
  have HS := Lib.hid (implSm A c z w _ hr hn)
  rw [h] at HS
  clear hr h
  go_enter Try.func59, Try.ntmps59
  go_wp2_with (go_at_call 144; refine HS.out.mono ?_; rintro e w' ⟨s, rfl, hs, rfl⟩; have hs2 := hs.out; rw [Bool.not_false] at hs2)
  go_ret2
  exact ⟨0, rfl, ⟨by decide⟩, rfl, Below.refl _ _⟩

set_option maxHeartbeats 4000000 in
theorem implGap (A : Option Addr) (c : Nat) (z : List Int) (w : World) (hr : RowV w w.heap.size A z.length (iv (atI z))) (hn : z.length ≤ 1048576) (h : msB z = true) :
    Calls Try.prog 59 #[.slice A z.length c] w (GpPost (gapT (gwT z) z.length) true w) := by
  have HS := Lib.hid (implSm A c z w _ hr hn)
  rw [h] at HS
  obtain ⟨⟨h1, h2⟩, hk, _⟩ := msB_yes h
  have HN := Lib.hid (implNums A c z w hr h2)
  have HT : Hid (Tl (gwT z) z.length (wzL z)) := ⟨wzL_len z, fun j hj => by rw [wzL_at hj, gw_is hk hj]⟩
  clear hr h hk
  go_enter Try.func59, Try.ntmps59
  go_wp2_with (first | (go_at_call 144; refine HS.out.mono ?_; rintro e w' ⟨s, rfl, hs, rfl⟩; have hs2 := hs.out; rw [Bool.not_true] at hs2) | (go_at_call 145; refine HN.out.mono ?_; rintro e w1 ⟨rfl, hR, hB⟩))
  have HM := implMean (some ⟨w.heap.size, 0, none⟩) z.length (wzL z) w1 _ hR.out (by rw [wzL_len]; exact h2)
  have HQ := fun m => implMsq (some ⟨w.heap.size, 0, none⟩) z.length (wzL z) (w1.drewN m) _ (hR.out.below (belowN (Below.refl _ _))) (by rw [wzL_len]; exact h2)
  unfold meanF at HM
  rw [sumF_tl HT.out, wzL_len] at HM
  have HQ2 : Hid (∀ m, Calls Try.prog 147 #[.slice (some ⟨w.heap.size, 0, none⟩) z.length z.length] (w1.drewN m) (FPost .f32 (fop .quo .f32 (sumT (sqT (gwT z)) z.length) (lenF z.length)) (w1.drewN m))) := fun m => by
    have := HQ m
    rw [dotF_tl HT.out HT.out _ (by rw [wzL_len]; exact Nat.le_refl _), wzL_len] at this
    exact this
  have HM2 := Lib.hid HM
  clear HM HQ HS HN hR
  go_wp2_with (first | (go_at_call 146; refine HM2.out.mono ?_; rintro e w' ⟨gm, nm, rfl, rfl, hgm, hwm⟩) | (go_at_call 147; refine (HQ2.out _).mono ?_; rintro e w' ⟨gq, nq, rfl, rfl, hgq, hwq⟩) | ((with_reducible refine upon_bin rfl ?_); intro _ _ _ _))
  rename_i r1 n1 wf1 er1 r2 n2 wf2 er2
  go_ret2
  exact ⟨r2, rfl, wf2, by show _ = _; rw [er2.out, er1.out, hgm.out, hgq.out]; rfl, belowN hB.out⟩

theorem gap_fin2 {c d e f : Option Nat} {g m q r1 : Nat} (h : ∃ v, fop .quo .f32 e (fop .mul .f32 d d) = some v ∧ finB .f32 v = true) (h1 : Hid (can .f32 m = c)) (h2 : Hid (can .f32 q = f)) (h3 : Hid (can .f32 r1 = fop .mul .f32 (can .f32 m) (can .f32 m))) (h4 : Hid (can .f32 g = fop .quo .f32 (can .f32 q) (can .f32 r1))) (h5 : c = d) (h6 : f = e) : finB .f32 g = true := by
  obtain ⟨v, e1, e2⟩ := h
  have e3 : can .f32 g = some v := by rw [h4.out, h3.out, h1.out, h2.out, h5, h6]; exact e1
  rw [(can_eq_some e3).2]; exact e2
theorem gap_eq2 {c d e f : Option Nat} {g m q r1 : Nat} (h1 : Hid (can .f32 m = c)) (h2 : Hid (can .f32 q = f)) (h3 : Hid (can .f32 r1 = fop .mul .f32 (can .f32 m) (can .f32 m))) (h4 : Hid (can .f32 g = fop .quo .f32 (can .f32 q) (can .f32 r1))) (h5 : c = d) (h6 : f = e) : Hid (can .f32 g = fop .quo .f32 e (fop .mul .f32 d d)) := by
  show _ = _
  rw [h4.out, h3.out, h1.out, h2.out, h5, h6]
theorem isAppF {ops : Array Oper} {rest : List Oper} {o : Oper} {a : Act} {Q : Exit → Act → World → Prop} {w : World} (s x : Operand)
    (ho : o.op = .call { callee := .builtin .append, args := #[s, x], argTypes := #[22, 22] }) (h : wpList Try.prog ops Q (o :: rest) a w) : wpList Try.prog ops Q (o :: rest) a w := h
set_option maxHeartbeats 4000000 in
theorem specGap (A : Option Addr) (c : Nat) (z : List Int) (w : World) (hr : RowV w w.heap.size A z.length (iv (atI z))) (hn : z.length ≤ 1048576) (h : msB z = true) :
    Calls Try.prog 57 #[.slice A z.length c] w (GpPost (gapT (gwT z) z.length) true w) := by
  have HS := Lib.hid (specSm A c z w _ hr hn)
  rw [h] at HS
  have HF := Lib.hid (gap_is h)
  obtain ⟨⟨h1, h2⟩, hk, _⟩ := msB_yes h
  have HK := Lib.hid hk
  have HR := Lib.hid hr
  have O1 : Hid (GroF ((w.alloc (.cells #[] 25)).alloc (.cells #[] 25)) w.heap.size [] (some ⟨w.heap.size, 0, none⟩) 0) := (GroF.lit w (Nat.le_refl _)).butA (A := none) (ButA.of ((Below.refl _ _).alloc (Nat.le_refl _) _)) (fun a x h => nomatch h)
  have O2 : Hid (GroF ((w.alloc (.cells #[] 25)).alloc (.cells #[] 25)) w.heap.size [] (some ⟨w.heap.size + 1, 0, none⟩) 0) := by
    have := GroF.lit (w.alloc (.cells #[] 25)) (G := w.heap.size) (by simp)
    have e : (w.alloc (.cells #[] 25)).heap.size = w.heap.size + 1 := by simp
    rw [e] at this
    exact this
  have B0 : Hid (Below w.heap.size w ((w.alloc (.cells #[] 25)).alloc (.cells #[] 25))) := ((Below.refl _ _).alloc (Nat.le_refl _) _).alloc (by simp) _
  have F0 : Hid (∀ a b, (some (⟨w.heap.size, 0, none⟩ : Addr)) = some a → (some (⟨w.heap.size + 1, 0, none⟩ : Addr)) = some b → a.block ≠ b.block) := fun a b ha hb => by
    injection ha with ha
    injection hb with hb
    subst ha hb
    show w.heap.size ≠ w.heap.size + 1
    omega
  clear hr h hk
  go_enter Try.func57, Try.ntmps57
  go_wp2_with (go_at_call 141; refine HS.out.mono ?_; rintro e w' ⟨s, rfl, rfl⟩)
  clear HS
  generalize (w.alloc (.cells #[] 25)).alloc (.cells #[] 25) = W0 at *
  generalize hG : w.heap.size = G at *
  have HG := Lib.hid hG
  clear hG
  go_loopw [6, 7, 8] (fun a b i wr => ∃ (k : Nat) (A1 : Option Addr) (c1 : Nat) (L : List Nat) (A2 : Option Addr) (c2 : Nat) (Q : List Nat), i = .int .i64 k ∧ k ≤ z.length ∧ a = .slice A1 L.length c1 ∧ b = .slice A2 Q.length c2 ∧ Hid (Tl (gwT z) k L) ∧ Hid (Tl (sqT (gwT z)) k Q) ∧ Hid (GroF wr G L A1 c1) ∧ Hid (GroF wr G Q A2 c2) ∧ Hid (∀ a b, A1 = some a → A2 = some b → a.block ≠ b.block) ∧ Hid (Below G w wr)) (fun _ _ i _ => z.length - (intOf i).toNat)
  case atStart => exact ⟨0, _, 0, [], _, 0, [], rfl, Nat.zero_le _, rfl, rfl, Tl.nil _, Tl.nil _, O1, O2, F0, B0⟩
  case round =>
    clear O1 O2 F0 B0
    obtain ⟨k, A1, c1, L, A2, c2, Q, rfl, hk, rfl, rfl, hL, hQ, hO1, hO2, hF, hB⟩ := hrel
    have hGw : G ≤ wr.heap.size := by rw [← HG.out]; exact hB.out.size
    have hLn := hL.out.len
    have hQn := hQ.out.len
    by_cases hlt : k < z.length
    · obtain ⟨b, off, rfl, hb, hcell⟩ := (HR.out.below hB.out) (by omega)
      have hc := hcell k hlt
      unfold iv at hc
      have HW := Lib.hid (gw_is HK.out hlt)
      have hL1 : L.length ≤ 1048576 := by omega
      have hQ1 : Q.length ≤ 1048576 := by omega
      clear hcell hLn hQn
      generalize atI z k = a at *
      go_wp2_with (first | ((with_reducible refine upon_bin rfl ?_); intro r2 n2 wf2 er2) | (at_builtin; refine isAppF _ _ rfl ?_; refine wpGroX rfl _ _ rfl (w0 := w3.drewN n2) (y := r2) (HQ3.out n2) rfl rfl (by first | rfl | simp [Act.eval]) hQ1 hGw3 ?_; intro g4 c4 w4 O4 b4 f4; have HO4 := Lib.hid O4; have HB4 := Lib.hid b4; have HF4 := Lib.hid f4; clear O4 b4 f4) | (at_builtin; go_loud (refine isAppF _ _ rfl ?_; refine wpGroX rfl _ _ rfl (w0 := wr) (y := floatOfInt .f32 a) hO1.out rfl rfl (by first | rfl | simp [Act.eval]) hL1 hGw ?_; intro g3 c3 w3 O3 b3 f3; have HO3 := Lib.hid O3; have HB3 := Lib.hid b3; have HF3 := Lib.hid f3; have HQ3 : Hid (∀ n, GroF (w3.drewN n) G Q A2 c2) := fun n => GroF.dn (n := n) (hO2.out.butA b3 hF.out); have hGw3 : G ≤ w3.heap.size := Nat.le_trans hGw b3.size; clear O3 b3 f3)))
      have T1 : Hid (Tl (gwT z) (k + 1) (L ++ [floatOfInt .f32 a])) := hL.out.snoc HW.out.symm
      have T2 : Hid (Tl (sqT (gwT z)) (k + 1) (Q ++ [r2])) := hQ.out.snoc (by rw [er2.out]; unfold sqT; rw [HW.out])
      have hA1 : Hid (∀ b, A1 = some b → b.block < wr.heap.size) := fun b hb => (hO1.out.lt b hb).2
      have hA2 : Hid (∀ b, A2 = some b → b.block < wr.heap.size) := fun b hb => (hO2.out.lt b hb).2
      have hg3 : g3 < w3.heap.size := (HO3.out.lt _ rfl).2
      have hw3 : wr.heap.size ≤ w3.heap.size := HB3.out.size
      have hd3 : ∀ b, A2 = some b → b.block ≠ g3 := fun b hb => by
        rcases HF3.out with ⟨c, e1, e2⟩ | h3
        · have := hF.out c b e1 hb
          omega
        · have := hA2.out b hb
          omega
      have O5 : Hid (GroF w4 G (L ++ [floatOfInt .f32 a]) (some ⟨g3, 0, none⟩) c3) := GroF.butA (w := w3.drewN n2) HO3.out HB4.out (fun b x hb hx => by
        injection hx with hx
        subst hx
        exact hd3 b hb)
      have F5 : Hid (∀ a b, (some (⟨g3, 0, none⟩ : Addr)) = some a → (some (⟨g4, 0, none⟩ : Addr)) = some b → a.block ≠ b.block) := fun a b ha hb => by
        injection ha with ha
        injection hb with hb
        subst ha hb
        show g3 ≠ g4
        rcases HF4.out with ⟨c, e1, e2⟩ | h4
        · have := hd3 c e1
          omega
        · have h4 : w3.heap.size ≤ g4 := h4
          omega
      have B3 := HB3.out.below hB.out hGw (fun b hb => (hO1.out.lt b hb).1)
      have B5 : Hid (Below G w w4) := HB4.out.below (belowN (n := n2) B3) hGw3 (fun b hb => (hO2.out.lt b hb).1)
      go_roundw
      case rel => exact ⟨k + 1, _, c3, L ++ [floatOfInt .f32 a], _, c4, Q ++ [r2], by go_num, by omega, by rw [List.length_append]; rfl, by rw [List.length_append]; rfl, T1, T2, O5, HO4, F5, B5⟩
      case measure => simp [intOf]; omega
    · have ek : k = z.length := by omega
      subst ek
      have HM := Lib.hid (specMean A1 c1 L wr _ hO1.out.row (by omega))
      have HMQ := Lib.hid (fun m => specMean A2 c2 Q (wr.drewN m) _ (hO2.out.row.below (belowN (Below.refl _ _))) (by omega))
      have hm1 : Hid (meanF L = fop .quo .f32 (sumT (gwT z) z.length) (lenF z.length)) := by show _ = _; unfold meanF; rw [sumF_tl hL.out, hLn]
      have hm2 : Hid (meanF Q = fop .quo .f32 (sumT (sqT (gwT z)) z.length) (lenF z.length)) := by show _ = _; unfold meanF; rw [sumF_tl hQ.out, hQn]
      have HFI := HF
      clear hLn hQn
      go_wp2_with (first | (go_at_call 142; (with_reducible refine HM.out.mono ?_); rintro e w' ⟨gm, nm, rfl, rfl, hgm, hwm⟩) | (go_at_call 142; (with_reducible refine (HMQ.out _).mono ?_); rintro e w' ⟨gq, nq, rfl, rfl, hgq, hwq⟩) | (go_at_call 143; refine (specNum1 _ (gap_fin2 HF.out (by assumption) (by assumption) (by assumption) (by assumption) hm1.out hm2.out) _).mono ?_; rintro e w' ⟨rfl, n5, rfl⟩) | ((with_reducible refine upon_bin rfl ?_); intro r1 n1 wf1 er1) )
      go_ret2
      exact ⟨r1, rfl, wf1, gap_eq2 (by assumption) (by assumption) (by assumption) (by assumption) hm1.out hm2.out, by rw [HG.out]; exact belowN hB.out⟩

theorem gapBoth (z : List Int) (hn : z.length ≤ 1048576) : ∃ (gv : Option Nat) (b : Bool),
    (∀ (W : World) (A : Option Addr) (c : Nat), RowV W W.heap.size A z.length (iv (atI z)) → Calls Try.prog 57 #[.slice A z.length c] W (GpPost gv b W)) ∧
    (∀ (W : World) (A : Option Addr) (c : Nat), RowV W W.heap.size A z.length (iv (atI z)) → Calls Try.prog 59 #[.slice A z.length c] W (GpPost gv b W)) := by
  cases h : msB z with
  | false => exact ⟨_, _, fun W A c hr => specGapNo A c z W hr hn h, fun W A c hr => implGapNo A c z W hr hn h⟩
  | true => exact ⟨_, _, fun W A c hr => specGap A c z W hr hn h, fun W A c hr => implGap A c z W hr hn h⟩

end Go.Proofs.Ytgiblioilpedfaa
