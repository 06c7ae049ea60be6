/-
  What is proved here: LogsOf, of both packages, as walks. Conditions: at most 1048576 numbers.
-/
import Derived.Test.YtjnfonjbbbghpaaLgd
namespace Go.Proofs.Ytjnfonjbbbghpaa
open Flt Go.RowKit
attribute [local go_sem] run_store_float
set_option linter.unusedVariables false

/-- all are greater than nothing -/
def posAll (zs : List Nat) : Bool := zs.all posB
theorem posAll_no {zs : List Nat} {k : Nat} (hk : k < zs.length) (h : posB (at0 zs k) = false) : posAll zs = false := by
  unfold posAll
  rw [List.all_eq_false]
  refine ⟨at0 zs k, by rw [at0_lt hk]; exact List.getElem_mem hk, ?_⟩
  rw [h]; decide
theorem posAll_yes {zs : List Nat} (h : ∀ j, j < zs.length → posB (at0 zs j) = true) : posAll zs = true := by
  unfold posAll
  refine List.all_eq_true.2 fun x hx => ?_
  obtain ⟨j, hj, rfl⟩ := List.mem_iff_getElem.1 hx
  have := h j hj
  rwa [at0_lt hj] at this
theorem posAll_at {zs : List Nat} (h : posAll zs = true) {j : Nat} (hj : j < zs.length) : posB (at0 zs j) = true := by
  cases e : posB (at0 zs j) with
  | true => rfl
  | false => rw [posAll_no hj e] at h; cases h

/-- the logarithms of a list, where there are any -/
structure Lgs (zs : List Nat) (F : Nat → Option Nat) : Prop where
  fin : finAll zs = true
  sp : ∀ j, j < zs.length → posB (at0 zs j) = true → ∀ w, Calls Try.prog 65 #[.float .f32 (at0 zs j)] w (FPost .f32 (F j) w)
  im : ∀ j, j < zs.length → posB (at0 zs j) = true → ∀ w, Calls Try.prog 86 #[.float .f32 (at0 zs j)] w (FPost .f32 (F j) w)
theorem lgs_of {zs : List Nat} (h : finAll zs = true) : ∃ F, Lgs zs F := by
  have H : ∀ j, j < zs.length → ∃ c, posB (at0 zs j) = true → (∀ w, Calls Try.prog 65 #[.float .f32 (at0 zs j)] w (FPost .f32 c w)) ∧ (∀ w, Calls Try.prog 86 #[.float .f32 (at0 zs j)] w (FPost .f32 c w)) := by
    intro j hj
    cases hp : posB (at0 zs j) with
    | false => exact ⟨none, fun h => by cases h⟩
    | true =>
      obtain ⟨c, h1, h2⟩ := lg_both (at0 zs j) (by unfold abvB; rw [finAll_at h hj]; exact hp)
      exact ⟨c, fun _ => ⟨h1, h2⟩⟩
  obtain ⟨F, hF⟩ := Go.Deep.choose_lt (α := Option Nat) H
  exact ⟨F, h, fun j hj hp => (hF j hj hp).1, fun j hj hp => (hF j hj hp).2⟩

def cntB (b : Bool) (n : Nat) : Nat := if b = true then n else 0

set_option maxHeartbeats 4000000 in
theorem specLgo (A : Option Addr) (c : Nat) (zs : List Nat) (F : Nat → Option Nat) (w : World) (hr : RowF w w.heap.size A zs) (hb : lisB zs = true) (hF : Lgs zs F) :
    Calls Try.prog 32 #[.slice A zs.length c] w (LP F (cntB (posAll zs) zs.length) (posAll zs) w) := by
  obtain ⟨h3, hfa⟩ := lisB_yes hb
  have HL := Lib.hid (specList A c zs w _ hr (by omega))
  rw [hb] at HL
  have HR := Lib.hid hr
  clear hr hb hfa
  go_enter Try.func32, Try.ntmps32
  go_wp2_with (go_at_call 44; refine HL.out.mono ?_; rintro e w' ⟨rfl, n, rfl⟩)
  clear HL
  go_loopw [4, 5] (fun o i wr => ∃ (k g c : Nat) (L : List Nat), o = .slice (some ⟨g, 0, none⟩) L.length c ∧ i = .int .i64 k ∧ k ≤ zs.length ∧ Hid (∀ j, j < k → posB (at0 zs j) = true) ∧ Hid (Tl F k L) ∧ Hid (OwnA wr w.heap.size L g c) ∧ Hid (Below w.heap.size w wr)) (fun _ i _ => zs.length - (intOf i).toNat)
  case atStart => exact ⟨0, _, 0, [], rfl, rfl, Nat.zero_le _, fun j hj => absurd hj (Nat.not_lt_zero _), Tl.nil _, OwnA.lit0 (w.drewN _), (belowN (Below.refl _ _)).alloc (Nat.le_refl _) _⟩
  case round =>
    obtain ⟨k, g, c, L, rfl, rfl, hk, hJ, hT, hO, hB⟩ := hrel
    have hsz : Hid (w.heap.size ≤ wr.heap.size) := hB.out.size
    have hl : L.length ≤ 256 := by rw [hT.out.len]; omega
    have hlo := hO.out.lo.1
    by_cases hlt : k < zs.length
    · obtain ⟨b, off, rfl, hb, hcell⟩ := (HR.out.below hB.out) (by omega)
      have hc := hcell k hlt
      clear hcell hb
      cases hp : posB (at0 zs k)
      · have hp2 : (FloatKind.f32.format.order (at0 zs k) 0 == some .gt) = false := hp
        have N := Lib.hid (posAll_no hlt hp)
        clear hp
        go_wp2_with fail
        go_ret2
        exact lp_no2 (by unfold cntB; rw [N.out]; rfl) N.out (by exact hB.out)
      · have hp2 : (FloatKind.f32.format.order (at0 zs k) 0 == some .gt) = true := hp
        have HS := Lib.hid (hF.sp k hlt hp)
        have HJ : Hid (∀ j, j < k + 1 → posB (at0 zs j) = true) := fun j hj => by
          by_cases e : j = k
          · rw [e]; exact hp
          · exact hJ.out j (by omega)
        clear hp hJ
        go_wp2_with (first | (go_at_call 65; refine (HS.out _).mono ?_; rintro e w' ⟨r2, n2, rfl, rfl, e2, w2⟩) | (at_builtin; refine wpApp rfl _ _ rfl (show OwnA (wr.drewN _) _ _ _ _ from hO.out) rfl rfl rfl (by omega) hsz.out ?_; intro g2 c2 w4 O4 B4; have HO4 := Lib.hid O4; have HB4 := Lib.hid (below_app (belowN hB.out) (Nat.le_refl _) hlo B4); clear O4 B4))
        have HT2 : Hid (Tl F (k + 1) (L ++ [r2])) := hT.out.snoc e2.out
        go_roundw
        case rel => exact ⟨k + 1, g2, c2, L ++ [r2], by rw [snoc_len], by go_num, by omega, HJ, HT2, HO4, HB4⟩
        case measure => simp [intOf]; omega
    · have HK : Hid (k = zs.length) := by show _ = _; omega
      have N : Hid (posAll zs = true) := posAll_yes fun j hj => hJ.out j (by omega)
      have hE := hT.out.len
      have hT2 : Hid (Tl F zs.length L) := by have := hT.out; rw [HK.out] at this; exact this
      go_wp2_with fail
      go_ret2
      rw [hE, HK.out]
      exact lp_yes (by unfold cntB; rw [N.out]; rfl) N.out hT2.out hO.out.rowIn hB.out

theorem implLogOf (x : Nat) (c : Option Nat) (hc : ∀ w, Calls Try.prog 86 #[.float .f32 x] w (FPost .f32 c w)) (w : World) : Calls Try.prog 67 #[.float .f32 x] w (VPost c (posB x) w) := by
  have H := Lib.hid hc
  clear hc
  have N : Hid (posB x = (FloatKind.f32.format.order x 0 == some .gt)) := rfl
  go_enter Try.func67, Try.ntmps67
  go_wp2_with (go_at_call 86; refine (H.out _).mono ?_; rintro e w' ⟨g, n, rfl, rfl, hg, hw⟩)
  go_ret2
  exact vpost hg.out hw
set_option maxHeartbeats 4000000 in
theorem implEach (A : Option Addr) (c : Nat) (zs : List Nat) (F : Nat → Option Nat) (w : World) (hr : RowF w w.heap.size A zs) (hn : zs.length ≤ 256) (hF : Lgs zs F) :
    Calls Try.prog 66 #[.slice A zs.length c, .func (.func 67) #[] #[]] w (LP F (cntB (posAll zs) zs.length) (posAll zs) w) := by
  have HR := Lib.hid hr
  have hmk := run_mk zs.length (by omega)
  clear hr
  go_enter Try.func66, Try.ntmps66
  go_wp2
  clear hmk
  go_loopw [16] (fun i wr => ∃ (k : Nat) (ws : List Nat), i = .int .i64 k ∧ k ≤ zs.length ∧ Hid (∀ j, j < k → posB (at0 zs j) = true) ∧ Hid (Part F zs.length k ws) ∧ Hid (RowH wr w.heap.size ws) ∧ Hid (Below w.heap.size w wr)) (fun i _ => zs.length - (intOf i).toNat)
  case atStart => exact ⟨0, List.replicate zs.length 0, rfl, Nat.zero_le _, fun j hj => absurd hj (Nat.not_lt_zero _), by have := Part.start F (List.replicate zs.length 0); rwa [List.length_replicate] at this, rowH_new _ zs.length, (Below.refl _ _).alloc (Nat.le_refl _) _⟩
  case round =>
    obtain ⟨k, ws, rfl, hk, hJ, hP, hR, hB⟩ := hrel
    by_cases hlt : k < zs.length
    · obtain ⟨b, off, rfl, hb, hcell⟩ := (HR.out.below hB.out) (by omega)
      have hc := hcell k hlt
      have hc3 := hR.out.cell k (by rw [hP.out.len]; exact hlt)
      have hf3 := hR.out.free k (by rw [hP.out.len]; exact hlt)
      clear hcell hb
      cases hp : posB (at0 zs k)
      · obtain ⟨cc, hcc⟩ := lg_any (at0 zs k) (finAll_at hF.fin hlt)
        have HV := Lib.hid (implLogOf (at0 zs k) cc hcc)
        rw [hp] at HV
        have N := Lib.hid (posAll_no hlt hp)
        clear hp hcc
        go_wp2_with (go_at_call 67; refine (HV.out _).mono ?_; rintro e w' ⟨g2, n2, rfl, rfl, e2, w2⟩)
        go_ret2
        exact lp_no2 (by unfold cntB; rw [N.out]; rfl) N.out (belowN hB.out)
      · have HV := Lib.hid (implLogOf (at0 zs k) (F k) (hF.im k hlt hp))
        rw [hp] at HV
        have HJ : Hid (∀ j, j < k + 1 → posB (at0 zs j) = true) := fun j hj => by
          by_cases e : j = k
          · rw [e]; exact hp
          · exact hJ.out j (by omega)
        clear hp hJ
        go_wp2_with (go_at_call 67; refine (HV.out _).mono ?_; rintro e w' ⟨g2, n2, rfl, rfl, e2, w2⟩)
        have hP2 : Hid (Part F zs.length (k + 1) (ws.set k g2)) := hP.out.step hlt e2.out
        go_roundw
        case rel => exact ⟨k + 1, ws.set k g2, by go_num, by omega, HJ, hP2, hR.out.dn.set (by rw [hP.out.len]; exact hlt), (belowN hB.out).setCell (Nat.le_refl _) _⟩
        case measure => simp [intOf]; omega
    · have HK : Hid (k = zs.length) := by show _ = _; omega
      have N : Hid (posAll zs = true) := posAll_yes fun j hj => hJ.out j (by omega)
      have hP2 : Hid (Part F zs.length zs.length ws) := by have := hP.out; rw [HK.out] at this; exact this
      go_wp2_with fail
      go_ret2
      exact lp_yes (by unfold cntB; rw [N.out]; rfl) N.out hP2.out.all (hR.out.rowIn (Nat.le_refl _)) hB.out

theorem implLgo (A : Option Addr) (c : Nat) (zs : List Nat) (F : Nat → Option Nat) (w : World) (hr : RowF w w.heap.size A zs) (hb : lisB zs = true) (hF : Lgs zs F) :
    Calls Try.prog 33 #[.slice A zs.length c] w (LP F (cntB (posAll zs) zs.length) (posAll zs) w) := by
  obtain ⟨h3, hfa⟩ := lisB_yes hb
  have HL := Lib.hid (implList A c zs w _ hr (by omega))
  rw [hb] at HL
  have HE := Lib.hid (fun n => implEach A c zs F (w.drewN n) hr h3 hF)
  clear hr hb hfa
  go_enter Try.func33, Try.ntmps33
  go_wp2_with (first | (go_at_call 17; refine HL.out.mono ?_; rintro e w' ⟨rfl, n, rfl⟩) | (go_at_call 66; refine (HE.out _).mono ?_; rintro e w2 ⟨A2, c2, ys, rfl, hT, hR, hB⟩))
  go_ret2
  exact ⟨A2, c2, ys, rfl, hT, hR, (belowN (Below.refl _ _)).trans hB.out⟩

theorem specLgoNo (A : Option Addr) (c : Nat) (zs : List Nat) (F : Nat → Option Nat) (w : World) (hr : RowF w w.heap.size A zs) (hn : zs.length ≤ 1048576) (hb : lisB zs = false) :
    Calls Try.prog 32 #[.slice A zs.length c] w (LP F 0 false w) := by
  have HL := Lib.hid (specList A c zs w _ hr hn)
  rw [hb] at HL
  clear hr hb
  go_enter Try.func32, Try.ntmps32
  go_wp2_with (go_at_call 44; refine HL.out.mono ?_; rintro e w' ⟨rfl, n, rfl⟩)
  go_ret2
  exact lp_no (belowN (Below.refl _ _))
theorem implLgoNo (A : Option Addr) (c : Nat) (zs : List Nat) (F : Nat → Option Nat) (w : World) (hr : RowF w w.heap.size A zs) (hn : zs.length ≤ 1048576) (hb : lisB zs = false) :
    Calls Try.prog 33 #[.slice A zs.length c] w (LP F 0 false w) := by
  have HL := Lib.hid (implList A c zs w _ hr hn)
  rw [hb] at HL
  clear hr hb
  go_enter Try.func33, Try.ntmps33
  go_wp2_with (go_at_call 17; refine HL.out.mono ?_; rintro e w' ⟨rfl, n, rfl⟩)
  go_ret2
  exact lp_no (belowN (Below.refl _ _))

theorem lgoBoth (zs : List Nat) (hn : zs.length ≤ 1048576) : ∃ f n b, n ≤ 1048576 ∧
    (∀ W A c, RowF W W.heap.size A zs → Calls Try.prog 32 #[.slice A zs.length c] W (LP f n b W)) ∧
    (∀ W A c, RowF W W.heap.size A zs → Calls Try.prog 33 #[.slice A zs.length c] W (LP f n b W)) := by
  cases hb : lisB zs with
  | false => exact ⟨fun _ => none, 0, false, by omega, fun W A c h => specLgoNo A c zs _ W h hn hb, fun W A c h => implLgoNo A c zs _ W h hn hb⟩
  | true =>
    obtain ⟨F, hF⟩ := lgs_of (lisB_yes hb).2
    exact ⟨F, _, _, by unfold cntB; split <;> omega, fun W A c h => specLgo A c zs F W h hb hF, fun W A c h => implLgo A c zs F W h hb hF⟩

end Go.Proofs.Ytjnfonjbbbghpaa
