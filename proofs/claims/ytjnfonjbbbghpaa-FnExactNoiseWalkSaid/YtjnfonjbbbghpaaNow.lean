/-
  What is proved here: NoiseWalk, of both packages, as walks. Conditions: none but those that each theorem names.
-/
import Derived.Test.YtjnfonjbbbghpaaApp
namespace Go.Proofs.Ytjnfonjbbbghpaa
open Flt Go.RowKit
attribute [local go_sem] run_store_float
set_option linter.unusedVariables false

/-- what is kept, and the walk -/
def vF (kp : Nat) (s : Int) : Nat → Option Nat
  | 0 => can .f32 0
  | k + 1 => fop .add .f32 (fop .mul .f32 (can .f32 kp) (vF kp s k)) (drawF (itS s (k + 1)))
def nF (kp : Nat) (s : Int) : Nat → Option Nat
  | 0 => can .f32 0
  | k + 1 => fop .add .f32 (nF kp s k) (vF kp s (k + 1))
def nowF (kp : Nat) (s : Int) (j : Nat) : Option Nat := nF kp s (j + 1)

def LPS (f : Nat → Option Nat) (n : Nat) (s : Int) (b : Bool) (w : World) (e : Ending) (w' : World) : Prop :=
  ∃ A c ys, e = .returned (.tuple #[.slice A n c, .int .i64 s, .bool b]) ∧ Hid (Tl f n ys) ∧ Hid (RowIn w' w.heap.size w'.heap.size A ys) ∧ Hid (Below w.heap.size w w')

theorem OwnA.dn {w : World} {G g c n : Nat} {L : List Nat} (h : OwnA w G L g c) : OwnA (w.drewN n) G L g c := h

theorem specSeed4 (s : Int) (w : World) : Calls Try.prog 58 #[.int .i64 s] w fun e w' => e = .returned (.bool (seedB s)) ∧ w = w' := by
  go_enter Try.func58, Try.ntmps58
  go_wp2_with (go_at_call 51; refine (inS_any _ _ _ _).mono ?_; rintro e w' ⟨rfl, rfl⟩)
  go_ret
  exact ⟨rfl, rfl⟩

def nowB (ct : Int) (kp : Nat) (s : Int) : Bool := inB ct 0 256 && (fromB kp 3212836864 1065353216 && seedB s)

set_option maxHeartbeats 4000000 in
theorem specNow (ct kp : Nat) (s : Int) (h2 : ct ≤ 256) (hk : fromB kp 3212836864 1065353216 = true) (h0 : 0 ≤ s) (h1 : s ≤ 2147483647) (w : World) :
    Calls Try.prog 26 #[.int .i64 ct, .float .f32 kp, .int .i64 s] w (LPS (nowF kp s) ct (itS s ct) true w) := by
  have HD := Lib.hid (fun W => inS_any (ct : Int) 0 256 W)
  rw [show inB (ct : Int) 0 256 = true by simp [inB]; omega] at HD
  have HS := Lib.hid (fun W => specSeed4 s W)
  rw [show seedB s = true by simp [seedB, inB]; omega] at HS
  have K1 : Hid (FloatKind.f32.format.order kp 3212836864 = some .gt ∨ FloatKind.f32.format.order kp 3212836864 = some .eq) := by
    show _ ∨ _
    unfold fromB at hk
    rw [Bool.and_eq_true] at hk
    rcases ord4 (FloatKind.f32.format.order kp 3212836864) with h | h | h | h <;> rw [h] at hk ⊢ <;> simp [geO] at hk ⊢
  have K2 : Hid (FloatKind.f32.format.order kp 1065353216 = some .lt ∨ FloatKind.f32.format.order kp 1065353216 = some .eq) := by
    show _ ∨ _
    unfold fromB at hk
    rw [Bool.and_eq_true] at hk
    rcases ord4 (FloatKind.f32.format.order kp 1065353216) with h | h | h | h <;> rw [h] at hk ⊢ <;> simp [leO] at hk ⊢
  clear hk
  rcases K1.out with k1 | k1 <;> rcases K2.out with k2 | k2
  all_goals
    clear K1 K2
    go_enter Try.func26, Try.ntmps26
    go_wp2_with (first | (go_at_call 51; refine (HD.out _).mono ?_; rintro e w' ⟨rfl, rfl⟩) | (go_at_call 58; refine (HS.out _).mono ?_; rintro e w' ⟨rfl, rfl⟩))
    clear HD HS k1 k2
    go_loopw [2, 9, 10, 11, 12] (fun sd o x v i wr => ∃ (k g c : Nat) (L : List Nat) (xw vw : Nat), sd = .int .i64 (itS s k) ∧ o = .slice (some ⟨g, 0, none⟩) L.length c ∧ x = .float .f32 xw ∧ v = .float .f32 vw ∧ i = .int .i64 k ∧ k ≤ ct ∧ Hid (can .f32 xw = nF kp s k) ∧ Hid (can .f32 vw = vF kp s k) ∧ Hid (Tl (nowF kp s) k L) ∧ Hid (OwnA wr w.heap.size L g c) ∧ Hid (Below w.heap.size w wr)) (fun _ _ _ _ i _ => ct - (intOf i).toNat)
    case atStart => exact ⟨0, _, 0, [], 0, 0, rfl, rfl, rfl, rfl, rfl, Nat.zero_le _, rfl, rfl, Tl.nil _, OwnA.lit0 _, (Below.refl _ _).alloc (Nat.le_refl _) _⟩
    case round =>
      obtain ⟨k, g, c, L, xw, vw, rfl, rfl, rfl, rfl, rfl, hk, hx, hv, hT, hO, hB⟩ := hrel
      have hl : L.length ≤ 256 := by rw [hT.out.len]; omega
      have hsz : Hid (w.heap.size ≤ wr.heap.size) := hB.out.size
      have hlo := hO.out.lo.1
      by_cases hlt : k < ct
      · obtain ⟨b0, b1⟩ := itS_bd s h0 h1 k
        have HQ : Hid ((1103515245 * itS s k + 12345) % 2147483648 = itS s (k + 1)) := rfl
        have HF : Hid (fop .quo .f32 (can .f32 (floatOfInt .f32 ((1103515245 * itS s k + 12345) % 2147483648 / 65536 - 16384))) (can .f32 1182793728) = drawF (itS s (k + 1))) := rfl
        generalize itS s k = q at *
        go_wp2_with (first | ((with_reducible refine upon_bin rfl ?_); intro _ _ _ _) | (at_builtin; refine wpApp rfl _ _ rfl hO.out.dn rfl rfl rfl (by omega) hsz.out ?_; intro g2 c2 w4 O4 B4; have HO4 := Lib.hid O4; have HB4 := Lib.hid (below_app (belowN hB.out) (Nat.le_refl _) hlo B4); clear O4 B4))
        rename_i r1 n1 w1 e1 r2 n2 w2 e2 r3 n3 w3 e3 r4 n4 w4 e4
        have a3 : Hid (can .f32 r3 = vF kp s (k + 1)) := by show _ = _; rw [e3.out, e1.out, e2.out, hv.out, HF.out]; rfl
        have a4 : Hid (can .f32 r4 = nF kp s (k + 1)) := by show _ = _; rw [e4.out, a3.out, hx.out]; rfl
        have hT2 : Hid (Tl (nowF kp s) (k + 1) (L ++ [r4])) := hT.out.snoc a4.out
        go_roundw
        case rel => exact ⟨k + 1, g2, c2, L ++ [r4], r4, r3, by rw [HQ.out], by rw [snoc_len], rfl, rfl, by go_num, by omega, a4, a3, hT2, HO4, HB4⟩
        case measure => simp [intOf]; omega
      · obtain rfl : k = ct := by omega
        have hE := hT.out.len
        go_wp2_with fail
        go_ret3
        rw [hE]
        exact ⟨_, _, L, rfl, hT, hO.out.rowIn, hB⟩

set_option maxHeartbeats 4000000 in
theorem implNow (ct kp : Nat) (s : Int) (h2 : ct ≤ 256) (hk : fromB kp 3212836864 1065353216 = true) (h0 : 0 ≤ s) (h1 : s ≤ 2147483647) (w : World) :
    Calls Try.prog 27 #[.int .i64 ct, .float .f32 kp, .int .i64 s] w (LPS (nowF kp s) ct (itS s ct) true w) := by
  have HD := Lib.hid (fun W => within_any (ct : Int) 0 256 W)
  rw [show inB (ct : Int) 0 256 = true by simp [inB]; omega] at HD
  have HS := Lib.hid (fun W => implSeed s W)
  rw [show seedB s = true by simp [seedB, inB]; omega] at HS
  have HK := Lib.hid (fun W => from_any kp 3212836864 1065353216 W)
  rw [hk] at HK
  have hmk := run_mk ct (by omega)
  clear hk
  go_enter Try.func27, Try.ntmps27
  go_wp2_with (first | (go_at_call 53; refine (HD.out _).mono ?_; rintro e w' ⟨rfl, rfl⟩) | (go_at_call 59; refine (HS.out _).mono ?_; rintro e w' ⟨rfl, rfl⟩) | (go_at_call 52; refine (HK.out _).mono ?_; rintro e w' ⟨rfl, rfl⟩))
  clear HD HS HK hmk
  go_loopw [2, 10, 11, 30] (fun sd x v i wr => ∃ (k xw vw : Nat) (ws : List Nat), sd = .int .i64 (itS s k) ∧ x = .float .f32 xw ∧ v = .float .f32 vw ∧ i = .int .i64 k ∧ k ≤ ct ∧ Hid (can .f32 xw = nF kp s k) ∧ Hid (can .f32 vw = vF kp s k) ∧ Hid (Part (nowF kp s) ct k ws) ∧ Hid (RowH wr w.heap.size ws) ∧ Hid (Below w.heap.size w wr)) (fun _ _ _ i _ => ct - (intOf i).toNat)
  case atStart => exact ⟨0, 0, 0, List.replicate ct 0, rfl, rfl, rfl, rfl, Nat.zero_le _, rfl, rfl, by have := Part.start (nowF kp s) (List.replicate ct 0); rwa [List.length_replicate] at this, rowH_new _ ct, (Below.refl _ _).alloc (Nat.le_refl _) _⟩
  case round =>
    obtain ⟨k, xw, vw, ws, rfl, rfl, rfl, rfl, hk, hx, hv, hP, hR, hB⟩ := hrel
    by_cases hlt : k < ct
    · obtain ⟨b0, b1⟩ := itS_bd s h0 h1 k
      have HQ : Hid (nextS (itS s k) = itS s (k + 1)) := rfl
      generalize itS s k = q at *
      obtain ⟨d0, d1⟩ := nextS_bd q
      have hc := hR.out.cell k (by rw [hP.out.len]; exact hlt)
      have hf := hR.out.free k (by rw [hP.out.len]; exact hlt)
      go_wp2_with (first | ((with_reducible refine upon_bin rfl ?_); intro _ _ _ _) | (go_at_call 60; refine (implNext _ (by assumption) (by assumption) _).mono ?_; rintro e w' ⟨rfl, rfl⟩) | (go_at_call 61; refine (implDrawn _ (by assumption) (by assumption) _).mono ?_; rintro e w' ⟨gd, nd, rfl, rfl, hgd, hwd⟩))
      rename_i r1 n1 w1 e1 r2 n2 w2 e2 r3 n3 w3 e3
      have a2 : Hid (can .f32 r2 = vF kp s (k + 1)) := by show _ = _; rw [e2.out, e1.out, hgd.out, hv.out, HQ.out]; rfl
      have a3 : Hid (can .f32 r3 = nF kp s (k + 1)) := by show _ = _; rw [e3.out, a2.out, hx.out]; rfl
      have hP2 : Hid (Part (nowF kp s) ct (k + 1) (ws.set k r3)) := hP.out.step hlt a3.out
      go_roundw
      case rel => exact ⟨k + 1, r3, r2, ws.set k r3, by rw [HQ.out], rfl, rfl, by go_num, by omega, a3, a2, hP2, hR.out.dn.set (by rw [hP.out.len]; exact hlt), (belowN hB.out).setCell (Nat.le_refl _) _⟩
      case measure => simp [intOf]; omega
    · obtain rfl : k = ct := by omega
      go_wp2_with fail
      go_ret3
      exact ⟨_, _, ws, rfl, hP.out.all, hR.out.rowIn (Nat.le_refl _), hB⟩

theorem keepS_any (kp : Nat) (W : World) : True := trivial
theorem lps_no {f : Nat → Option Nat} {w w' : World} (h : Below w.heap.size w w') : LPS f 0 0 false w (.returned (.tuple #[.slice none 0 0, .int .i64 0, .bool false])) w' := ⟨none, 0, [], rfl, Tl.nil f, RowIn.empty (Nat.le_refl _), h⟩

theorem implNowNo (ct : Int) (kp : Nat) (s : Int) (hb : nowB ct kp s = false) (w : World) :
    Calls Try.prog 27 #[.int .i64 ct, .float .f32 kp, .int .i64 s] w (LPS (nowF kp s) 0 0 false w) := by
  have HD := Lib.hid (fun W => within_any ct 0 256 W)
  have HS := Lib.hid (fun W => implSeed s W)
  have HK := Lib.hid (fun W => from_any kp 3212836864 1065353216 W)
  unfold nowB at hb
  cases h1 : inB ct 0 256
  · rw [h1] at HD
    clear h1 hb
    go_enter Try.func27, Try.ntmps27
    go_wp2_with (go_at_call 53; refine (HD.out _).mono ?_; rintro e w' ⟨rfl, rfl⟩)
    go_ret3
    exact lps_no (Below.refl _ _)
  cases h2 : fromB kp 3212836864 1065353216
  · rw [h1] at HD
    rw [h2] at HK
    clear h1 h2 hb
    go_enter Try.func27, Try.ntmps27
    go_wp2_with (first | (go_at_call 53; refine (HD.out _).mono ?_; rintro e w' ⟨rfl, rfl⟩) | (go_at_call 52; refine (HK.out _).mono ?_; rintro e w' ⟨rfl, rfl⟩))
    go_ret3
    exact lps_no (Below.refl _ _)
  · have h3 : seedB s = false := by rw [h1, h2] at hb; exact hb
    rw [h1] at HD
    rw [h2] at HK
    rw [h3] at HS
    clear h1 h2 h3 hb
    go_enter Try.func27, Try.ntmps27
    go_wp2_with (first | (go_at_call 53; refine (HD.out _).mono ?_; rintro e w' ⟨rfl, rfl⟩) | (go_at_call 52; refine (HK.out _).mono ?_; rintro e w' ⟨rfl, rfl⟩) | (go_at_call 59; refine (HS.out _).mono ?_; rintro e w' ⟨rfl, rfl⟩))
    go_ret3
    exact lps_no (Below.refl _ _)

set_option maxHeartbeats 2000000 in
theorem specNowNo (ct : Int) (kp : Nat) (s : Int) (hb : nowB ct kp s = false) (w : World) :
    Calls Try.prog 26 #[.int .i64 ct, .float .f32 kp, .int .i64 s] w (LPS (nowF kp s) 0 0 false w) := by
  have HD := Lib.hid (fun W => inS_any ct 0 256 W)
  have HS := Lib.hid (fun W => specSeed4 s W)
  unfold nowB at hb
  cases h1 : inB ct 0 256
  · rw [h1] at HD
    clear h1 hb
    go_enter Try.func26, Try.ntmps26
    go_wp2_with (go_at_call 51; refine (HD.out _).mono ?_; rintro e w' ⟨rfl, rfl⟩)
    go_ret3
    exact lps_no (Below.refl _ _)
  rw [h1] at HD hb
  clear h1
  rcases ord4 (FloatKind.f32.format.order kp 3212836864) with h | h | h | h <;> rcases ord4 (FloatKind.f32.format.order kp 1065353216) with g | g | g | g
  all_goals
    first
      | (have h3 : seedB s = false := by
           have : fromB kp 3212836864 1065353216 = true := by unfold fromB; rw [h, g]; rfl
           rw [this] at hb; exact hb
         rw [h3] at HS
         clear h3 hb
         go_enter Try.func26, Try.ntmps26
         go_wp2_with (first | (go_at_call 51; refine (HD.out _).mono ?_; rintro e w' ⟨rfl, rfl⟩) | (go_at_call 58; refine (HS.out _).mono ?_; rintro e w' ⟨rfl, rfl⟩))
         go_ret3
         exact lps_no (Below.refl _ _))
      | (clear hb
         go_enter Try.func26, Try.ntmps26
         go_wp2_with (first | (go_at_call 51; refine (HD.out _).mono ?_; rintro e w' ⟨rfl, rfl⟩))
         go_ret3
         exact lps_no (Below.refl _ _))

theorem nowBoth (ct : Int) (kp : Nat) (s : Int) : ∃ f n sq b, n ≤ 1048576 ∧ (∀ W, Calls Try.prog 26 #[.int .i64 ct, .float .f32 kp, .int .i64 s] W (LPS f n sq b W)) ∧ (∀ W, Calls Try.prog 27 #[.int .i64 ct, .float .f32 kp, .int .i64 s] W (LPS f n sq b W)) := by
  cases hb : nowB ct kp s with
  | false => exact ⟨_, 0, _, _, by omega, specNowNo ct kp s hb, implNowNo ct kp s hb⟩
  | true =>
    unfold nowB at hb
    rw [Bool.and_eq_true, Bool.and_eq_true] at hb
    obtain ⟨h1, h2, h3⟩ := hb
    obtain ⟨a, d⟩ := inB_yes h1
    obtain ⟨p, q⟩ := inB_yes h3
    obtain ⟨n, rfl⟩ := Int.eq_ofNat_of_zero_le a
    exact ⟨_, n, _, _, by omega, specNow n kp s (by omega) h2 p q, implNow n kp s (by omega) h2 p q⟩

end Go.Proofs.Ytjnfonjbbbghpaa
