/-
  What is proved here: MemorySlope of the program, as a walk; what both packages give. Conditions: at most 1048576 numbers.
-/
import Derived.Test.YthhimielelpcoaaMsm
namespace Go.Proofs.Ythhimielelpcoaa
open Flt Go.RowKit
attribute [local go_sem] run_store_float
set_option linter.unusedVariables false
set_option linter.unusedSimpArgs false

/-- logarithms of sizes, where they are ones -/
def LgZ (ss : List Int) (F : Nat → Option Nat) : Prop := ∀ j, j < ss.length → 2 ≤ atI ss j → atI ss j ≤ 256 → (∀ w, Calls Try.prog 70 #[.float .f32 (floatOfInt .f32 (atI ss j))] w (FPost .f32 (F j) w)) ∧ (∀ w, Calls Try.prog 185 #[.float .f32 (floatOfInt .f32 (atI ss j))] w (FPost .f32 (F j) w))
theorem lgZ_any (ss : List Int) : ∃ F, LgZ ss F := by
  have H : ∀ j, j < ss.length → ∃ c, 2 ≤ atI ss j → atI ss j ≤ 256 → (∀ w, Calls Try.prog 70 #[.float .f32 (floatOfInt .f32 (atI ss j))] w (FPost .f32 c w)) ∧ (∀ w, Calls Try.prog 185 #[.float .f32 (floatOfInt .f32 (atI ss j))] w (FPost .f32 c w)) := by
    intro j hj
    by_cases h : 2 ≤ atI ss j ∧ atI ss j ≤ 256
    · obtain ⟨c, h1, h2⟩ := lg_both _ (siz_at h.1 h.2)
      exact ⟨c, fun _ _ => ⟨h1, h2⟩⟩
    · exact ⟨none, fun h1 h2 => absurd ⟨h1, h2⟩ h⟩
  obtain ⟨F, hF⟩ := Go.Deep.choose_lt (α := Option Nat) H
  exact ⟨F, fun j hj => hF j hj⟩
theorem LgZ.lgs {ss : List Int} {F : Nat → Option Nat} (h : LgZ ss F) (hs : ∀ j, j < ss.length → 2 ≤ atI ss j ∧ atI ss j ≤ 256) (hn : ss.length ≤ 256) : Lgs (numW ss) F := by
  refine ⟨(lisB_yes (numW_all hn hs).1).2, fun j hj _ => ?_, fun j hj _ => ?_⟩
  · rw [numW_len] at hj
    rw [numW_at hj]
    exact (h j hj (hs j hj).1 (hs j hj).2).1
  · rw [numW_len] at hj
    rw [numW_at hj]
    exact (h j hj (hs j hj).1 (hs j hj).2).2
def abvT (f : Nat → Option Nat) (n : Nat) : Bool := (List.range n).all fun j => abvO (f j)
theorem abvT_tl {f : Nat → Option Nat} {n : Nat} {ys : List Nat} (h : Tl f n ys) : abvAll ys = abvT f n := by
  cases e : abvT f n with
  | true =>
    refine List.all_eq_true.2 fun x hx => ?_
    obtain ⟨j, hj, rfl⟩ := List.mem_iff_getElem.1 hx
    have hj2 : j < n := by rw [← h.len]; exact hj
    have := List.all_eq_true.1 e j (List.mem_range.2 hj2)
    rwa [← h.at' j hj2, abvO_can, at0_lt hj] at this
  | false =>
    unfold abvT at e
    rw [List.all_eq_false] at e
    obtain ⟨j, hj, hf⟩ := e
    rw [List.mem_range] at hj
    have hj2 : j < ys.length := by rw [h.len]; exact hj
    unfold abvAll
    rw [List.all_eq_false]
    refine ⟨ys[j], List.getElem_mem _, ?_⟩
    rwa [← h.at' j hj, abvO_can, at0_lt hj2] at hf
/-- whether there is a slope, and which -/
def meB (F G : Nat → Option Nat) (zs : List Nat) (ss : List Int) : Bool := lisB zs && inB (ss.length : Int) 2 16 && (allS zs ss && (abvT (sCs zs ss) ss.length && sloAT F G ss.length))
def meC (F G : Nat → Option Nat) (zs : List Nat) (ss : List Int) : Option Nat := orNo (meB F G zs ss) (sloT F G ss.length)
theorem vq_no {b : Bool} {c : Option Nat} {w w' : World} (hb : b = false) (h : Below w.heap.size w w') : VQ (orNo b c) b w (.returned (.tuple #[.float .f32 0, .bool false])) w' := by
  subst hb
  exact ⟨0, rfl, (by decide : can .f32 0 = some 0), h⟩
theorem allS_in {zs : List Nat} {ss : List Int} (hb : lisB zs = true) (h : allS zs ss = true) : ∀ j, j < ss.length → 2 ≤ atI ss j ∧ atI ss j ≤ 256 := fun j hj => by
  have h1 : sOk zs (atI ss j) = true := by
    cases e : sOk zs (atI ss j) with
    | true => rfl
    | false => rw [allS_no hj e] at h; cases h
  unfold sOk at h1
  rw [Bool.and_eq_true] at h1
  have h2 := inB_yes h1.1
  have h3 := (lisB_yes hb).1
  omega
set_option maxHeartbeats 8000000 in
theorem implMes (A B : Option Addr) (c d : Nat) (zs : List Nat) (ss : List Int) (F G : Nat → Option Nat) (w : World) (hr : RowF w w.heap.size A zs) (hq : RowI w w.heap.size B ss) (hc : zs.length ≤ c) (hn : zs.length ≤ 1048576) (hm : ss.length ≤ 1048576) (hF : LgZ ss F) (hG : ∀ j, LgM (sCs zs ss j) (G j)) :
    Calls Try.prog 26 #[.slice A zs.length c, .slice B ss.length d] w (VQ (meC F G zs ss) (meB F G zs ss) w) := by
  have HL := implList A c zs w _ hr hn
  have HW := Lib.hid (fun W => within_any (ss.length : Int) 2 16 W)
  unfold meC
  cases hb : lisB zs with
  | false =>
    have N : Hid (meB F G zs ss = false) := by show _ = _; unfold meB; rw [hb]; rfl
    rw [hb] at HL
    have HLH := Lib.hid HL
    clear HL hr hq hF hG hb
    go_enter Try.func26, Try.ntmps26
    go_wp2_with (go_at_call 73; refine HLH.out.mono ?_; rintro e w' ⟨rfl, n, rfl⟩)
    go_ret2
    exact vq_no N.out (belowN (Below.refl _ _))
  | true =>
    rw [hb] at HL
    have HLH := Lib.hid HL
    cases hi : inB (ss.length : Int) 2 16 with
    | false =>
      have N : Hid (meB F G zs ss = false) := by show _ = _; unfold meB; rw [hi, Bool.and_false]; rfl
      rw [hi] at HW
      clear HL hr hq hF hG hb hi
      go_enter Try.func26, Try.ntmps26
      go_wp2_with (first | (go_at_call 73; refine HLH.out.mono ?_; rintro e w' ⟨rfl, n, rfl⟩) | (go_at_call 53; refine (HW.out _).mono ?_; rintro e w' ⟨rfl, rfl⟩))
      go_ret2
      exact vq_no N.out (belowN (Below.refl _ _))
    | true =>
      obtain ⟨i1, i2⟩ := inB_yes hi
      rw [hi] at HW
      have HEM := Lib.hid (fun n => implEachM B A d c ss zs (w.drewN n) hq (by omega) hr hb hc)
      have HQ := Lib.hid hq
      cases ha : allS zs ss with
      | false =>
        have N : Hid (meB F G zs ss = false) := by show _ = _; unfold meB; rw [ha, Bool.false_and, Bool.and_false]
        rw [ha] at HEM
        clear HL hr hq hF hG hb hi ha
        go_enter Try.func26, Try.ntmps26
        go_wp2_with (first | (go_at_call 73; refine HLH.out.mono ?_; rintro e w' ⟨rfl, n, rfl⟩) | (go_at_call 53; refine (HW.out _).mono ?_; rintro e w' ⟨rfl, rfl⟩) | (go_at_call 74; refine (HEM.out _).mono ?_; rintro e w2 ⟨A2, c2, ys, rfl, t2, r2, b2⟩))
        go_ret2
        exact vq_no N.out ((belowN (Below.refl _ _)).trans b2.out)
      | true =>
        have hs := allS_in hb ha
        have hLZ := hF.lgs hs (by omega)
        have hNW := numW_all (by omega : ss.length ≤ 256) hs
        have HNW := Lib.hid (fun W hW => implNumW B d ss W hW (by omega))
        have HSL := Lib.hid (fun (A1 A2 : Option Addr) (c1 c2 : Nat) (ys : List Nat) W h1 h2 h3 h4 => implLgSl A1 A2 c1 c2 (numW ss) ys F G W h1 h2 (by rw [numW_len]; exact h3) (by rw [numW_len]; omega) (by rw [numW_len]; omega) hNW hLZ h4)
        have HGG := Lib.hid hG
        have HB : Hid (meB F G zs ss = (abvT (sCs zs ss) ss.length && sloAT F G ss.length)) := by show _ = _; unfold meB; rw [hb, hi, ha]; rfl
        rw [ha] at HEM
        have hi1 : 2 ≤ ss.length := by omega
        clear HL hr hq hF hG hb hi ha hs hLZ hNW
        go_enter Try.func26, Try.ntmps26
        go_wp2_with (first | (go_at_call 73; refine HLH.out.mono ?_; rintro e w' ⟨rfl, n, rfl⟩) | (go_at_call 53; refine (HW.out _).mono ?_; rintro e w' ⟨rfl, rfl⟩) | (go_at_call 74; refine (HEM.out _).mono ?_; rintro e w2 ⟨A2, c2, ys, rfl, t2, r2, b2⟩) | (go_at_call 77; fail))
        have T2 : Hid (Tl (sCs zs ss) ss.length ys) := t2.out
        have hyl : ys.length = cntB true ss.length := t2.out.len
        have B2 : Hid (Below w.heap.size w w2) := (belowN (Below.refl _ _)).trans b2.out
        have Q2 := Lib.hid (HQ.out.carry B2.out)
        have R2 := Lib.hid r2.out
        clear t2 r2 b2 HEM HQ
        refine (HNW.out w2 Q2.out).mono ?_
        rintro e w3 ⟨A3, c3, rfl, r3, b3⟩
        have B3 := Lib.hid (B2.out.trans (b3.out.mono B2.out.size))
        have R2' := Lib.hid (R2.out.but (ButIn.of b3.out) (.inr (Nat.zero_le _))).toRow
        have hG4 : abvAll ys = true → Lgs ys G := fun hab => by
          rw [abvAll_is, Bool.and_eq_true] at hab
          have hp : ∀ j, j < ys.length → abvB (at0 ys j) = true := fun j hj => by
            unfold abvB
            rw [finAll_at hab.1 hj]
            exact posAll_at hab.2 hj
          have hM : ∀ j, j < ys.length → can .f32 (at0 ys j) = sCs zs ss j := fun j hj => T2.out.at' j (by rw [← T2.out.len]; exact hj)
          exact ⟨hab.1, fun j hj _ => ((HGG.out j).2.2 _ (hM j hj) (hp j hj)).1, fun j hj _ => ((HGG.out j).2.2 _ (hM j hj) (hp j hj)).2⟩
        have HFI := HSL.out A3 A2 c3 c2 ys w3 r3.out.toRow R2'.out (by rw [hyl]; rfl) hG4
        rw [numW_len, abvT_tl T2.out, ← HB.out, hyl] at HFI
        have HFIN := Lib.hid HFI
        clear HFI hG4 hyl
        generalize cntB true ss.length = kk at *
        go_wp2_with fail
        refine HFIN.out.mono ?_
        rintro e w4 ⟨g4, rfl, e4, b4⟩
        go_wp2_with fail
        go_ret2
        exact ⟨g4, rfl, e4, B3.out.trans (b4.out.mono B3.out.size)⟩
end Go.Proofs.Ythhimielelpcoaa
