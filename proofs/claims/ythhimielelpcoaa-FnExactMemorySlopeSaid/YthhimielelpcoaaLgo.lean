/-
  What is proved here: LogsOf, of both packages, as walks. Conditions: at most 1048576 numbers.
-/
import Derived.Test.YthhimielelpcoaaLgd
namespace Go.Proofs.Ythhimielelpcoaa
open Flt Go.RowKit
attribute [local go_sem] run_store_float
set_option linter.unusedVariables false

/-- all are greater than nothing -/
def posAll (zs : List Nat) : Bool := zs.all posB
theorem posAll_no {zs : List Nat} {k : Nat} (hk : k < zs.length) (h : posB (at0 zs k) = false) : posAll zs = false := by
  unfold posAll
  rw [List.all_eq_false]
  refine ⟨at0 zs k, by rw [at0_lt hk]; exact List.getElem_mem hk, ?_⟩
  rw [h]; decide
theorem posAll_yes {zs : List Nat} (h : ∀ j, j < zs.length → posB (at0 zs j) = true) : posAll zs = true := by
  unfold posAll
  refine List.all_eq_true.2 fun x hx => ?_
  obtain ⟨j, hj, rfl⟩ := List.mem_iff_getElem.1 hx
  have := h j hj
  rwa [at0_lt hj] at this
theorem posAll_at {zs : List Nat} (h : posAll zs = true) {j : Nat} (hj : j < zs.length) : posB (at0 zs j) = true := by
  cases e : posB (at0 zs j) with
  | true => rfl
  | false => rw [posAll_no hj e] at h; cases h

/-- the logarithms of a list, where there are any -/
structure Lgs (zs : List Nat) (F : Nat → Option Nat) : Prop where
  fin : finAll zs = true
  sp : ∀ j, j < zs.length → posB (at0 zs j) = true → ∀ w, Calls Try.prog 70 #[.float .f32 (at0 zs j)] w (FPost .f32 (F j) w)
  im : ∀ j, j < zs.length → posB (at0 zs j) = true → ∀ w, Calls Try.prog 185 #[.float .f32 (at0 zs j)] w (FPost .f32 (F j) w)
theorem lgs_of {zs : List Nat} (h : finAll zs = true) : ∃ F, Lgs zs F := by
  have H : ∀ j, j < zs.length → ∃ c, posB (at0 zs j) = true → (∀ w, Calls Try.prog 70 #[.float .f32 (at0 zs j)] w (FPost .f32 c w)) ∧ (∀ w, Calls Try.prog 185 #[.float .f32 (at0 zs j)] w (FPost .f32 c w)) := by
    intro j hj
    cases hp : posB (at0 zs j) with
    | false => exact ⟨none, fun h => by cases h⟩
    | true =>
      obtain ⟨c, h1, h2⟩ := lg_both (at0 zs j) (by unfold abvB; rw [finAll_at h hj]; exact hp)
      exact ⟨c, fun _ => ⟨h1, h2⟩⟩
  obtain ⟨F, hF⟩ := Go.Deep.choose_lt (α := Option Nat) H
  exact ⟨F, h, fun j hj hp => (hF j hj hp).1, fun j hj hp => (hF j hj hp).2⟩

def cntB (b : Bool) (n : Nat) : Nat := if b = true then n else 0


theorem implLogOf (x : Nat) (c : Option Nat) (hc : ∀ w, Calls Try.prog 185 #[.float .f32 x] w (FPost .f32 c w)) (w : World) : Calls Try.prog 159 #[.float .f32 x] w (VPost c (posB x) w) := by
  have H := Lib.hid hc
  clear hc
  have N : Hid (posB x = (FloatKind.f32.format.order x 0 == some .gt)) := rfl
  go_enter Try.func159, Try.ntmps159
  go_wp2_with (go_at_call 185; refine (H.out _).mono ?_; rintro e w' ⟨g, n, rfl, rfl, hg, hw⟩)
  go_ret2
  exact vpost hg.out hw
set_option maxHeartbeats 4000000 in
theorem implEach (A : Option Addr) (c : Nat) (zs : List Nat) (F : Nat → Option Nat) (w : World) (hr : RowF w w.heap.size A zs) (hn : zs.length ≤ 256) (hF : Lgs zs F) :
    Calls Try.prog 158 #[.slice A zs.length c, .func (.func 159) #[] #[]] w (LP F (cntB (posAll zs) zs.length) (posAll zs) w) := by
  have HR := Lib.hid hr
  have hmk := run_mk zs.length (by omega)
  clear hr
  go_enter Try.func158, Try.ntmps158
  go_wp2
  clear hmk
  go_loopw [16] (fun i wr => ∃ (k : Nat) (ws : List Nat), i = .int .i64 k ∧ k ≤ zs.length ∧ Hid (∀ j, j < k → posB (at0 zs j) = true) ∧ Hid (Part F zs.length k ws) ∧ Hid (RowH wr w.heap.size ws) ∧ Hid (Below w.heap.size w wr)) (fun i _ => zs.length - (intOf i).toNat)
  case atStart => exact ⟨0, List.replicate zs.length 0, rfl, Nat.zero_le _, fun j hj => absurd hj (Nat.not_lt_zero _), by have := Part.start F (List.replicate zs.length 0); rwa [List.length_replicate] at this, rowH_new _ zs.length, (Below.refl _ _).alloc (Nat.le_refl _) _⟩
  case round =>
    obtain ⟨k, ws, rfl, hk, hJ, hP, hR, hB⟩ := hrel
    by_cases hlt : k < zs.length
    · obtain ⟨b, off, rfl, hb, hcell⟩ := (HR.out.below hB.out) (by omega)
      have hc := hcell k hlt
      have hc3 := hR.out.cell k (by rw [hP.out.len]; exact hlt)
      have hf3 := hR.out.free k (by rw [hP.out.len]; exact hlt)
      clear hcell hb
      cases hp : posB (at0 zs k)
      · obtain ⟨cc, hcc⟩ := lg_any (at0 zs k) (finAll_at hF.fin hlt)
        have HV := Lib.hid (implLogOf (at0 zs k) cc hcc)
        rw [hp] at HV
        have N := Lib.hid (posAll_no hlt hp)
        clear hp hcc
        go_wp2_with (go_at_call 159; refine (HV.out _).mono ?_; rintro e w' ⟨g2, n2, rfl, rfl, e2, w2⟩)
        go_ret2
        exact lp_no2 (by unfold cntB; rw [N.out]; rfl) N.out (belowN hB.out)
      · have HV := Lib.hid (implLogOf (at0 zs k) (F k) (hF.im k hlt hp))
        rw [hp] at HV
        have HJ : Hid (∀ j, j < k + 1 → posB (at0 zs j) = true) := fun j hj => by
          by_cases e : j = k
          · rw [e]; exact hp
          · exact hJ.out j (by omega)
        clear hp hJ
        go_wp2_with (go_at_call 159; refine (HV.out _).mono ?_; rintro e w' ⟨g2, n2, rfl, rfl, e2, w2⟩)
        have hP2 : Hid (Part F zs.length (k + 1) (ws.set k g2)) := hP.out.step hlt e2.out
        go_roundw
        case rel => exact ⟨k + 1, ws.set k g2, by go_num, by omega, HJ, hP2, hR.out.dn.set (by rw [hP.out.len]; exact hlt), (belowN hB.out).setCell (Nat.le_refl _) _⟩
        case measure => simp [intOf]; omega
    · have HK : Hid (k = zs.length) := by show _ = _; omega
      have N : Hid (posAll zs = true) := posAll_yes fun j hj => hJ.out j (by omega)
      have hP2 : Hid (Part F zs.length zs.length ws) := by have := hP.out; rw [HK.out] at this; exact this
      go_wp2_with fail
      go_ret2
      exact lp_yes (by unfold cntB; rw [N.out]; rfl) N.out hP2.out.all (hR.out.rowIn (Nat.le_refl _)) hB.out

theorem implLgo (A : Option Addr) (c : Nat) (zs : List Nat) (F : Nat → Option Nat) (w : World) (hr : RowF w w.heap.size A zs) (hb : lisB zs = true) (hF : Lgs zs F) :
    Calls Try.prog 122 #[.slice A zs.length c] w (LP F (cntB (posAll zs) zs.length) (posAll zs) w) := by
  obtain ⟨h3, hfa⟩ := lisB_yes hb
  have HL := Lib.hid (implList A c zs w _ hr (by omega))
  rw [hb] at HL
  have HE := Lib.hid (fun n => implEach A c zs F (w.drewN n) hr h3 hF)
  clear hr hb hfa
  go_enter Try.func122, Try.ntmps122
  go_wp2_with (first | (go_at_call 73; refine HL.out.mono ?_; rintro e w' ⟨rfl, n, rfl⟩) | (go_at_call 158; refine (HE.out _).mono ?_; rintro e w2 ⟨A2, c2, ys, rfl, hT, hR, hB⟩))
  go_ret2
  exact ⟨A2, c2, ys, rfl, hT, hR, (belowN (Below.refl _ _)).trans hB.out⟩


theorem implLgoNo (A : Option Addr) (c : Nat) (zs : List Nat) (F : Nat → Option Nat) (w : World) (hr : RowF w w.heap.size A zs) (hn : zs.length ≤ 1048576) (hb : lisB zs = false) :
    Calls Try.prog 122 #[.slice A zs.length c] w (LP F 0 false w) := by
  have HL := Lib.hid (implList A c zs w _ hr hn)
  rw [hb] at HL
  clear hr hb
  go_enter Try.func122, Try.ntmps122
  go_wp2_with (go_at_call 73; refine HL.out.mono ?_; rintro e w' ⟨rfl, n, rfl⟩)
  go_ret2
  exact lp_no (belowN (Below.refl _ _))


end Go.Proofs.Ythhimielelpcoaa
