/-
  What is proved here: the law FnNumbers as a walk. Conditions: the lists are ones that a machine can hold; the library's table and its longest length hold what it lays.
-/
import Derived.Test.YtckhdbnoihieeaaDoorNua
namespace Go.Proofs.YtckhdbnoihieeaaDoor
open Flt Go.RowKit

theorem below_drew {B n : Nat} {w w' : World} (h : Below B w w') : Below B w (w'.drewN n) := ⟨h.os, h.tape, h.output, h.size, h.block⟩
theorem RowF.drew {w : World} {B n : Nat} {A : Option Addr} {zs : List Nat} (h : RowF w B A zs) : RowF (w.drewN n) B A zs := h

theorem same_yes (a b : Nat) (ha : WF .f32 a) (hb : WF .f32 b) (h : bitsV a = bitsV b) (w : World) :
    Calls Tryd.prog 21 #[.float .f32 a, .float .f32 b] w fun e w' => e = .returned (.bool true) ∧ ∃ n, w' = w.drewN n := by
  have := specSame a b ha hb w
  rwa [show (bitsV a == bitsV b) = true by rw [h]; simp] at this
theorem same_is (a b : Nat) (c : Bool) (ha : WF .f32 a) (hb : WF .f32 b) (h : (bitsV a == bitsV b) = c) (w : World) :
    Calls Tryd.prog 21 #[.float .f32 a, .float .f32 b] w fun e w' => e = .returned (.bool c) ∧ ∃ n, w' = w.drewN n := by
  have := specSame a b ha hb w
  rwa [h] at this
theorem sub_is (x : Nat) (c : Bool) (h : subB x = c) (w : World) :
    Calls Tryd.prog 22 #[.float .f32 x] w fun e w' => e = .returned (.bool c) ∧ ∃ n, w' = w.drewN n := by
  have := implSub x w
  rwa [h] at this

theorem read_back (zs : List Nat) (h : zs.length ≤ 256) (hz : AllW zs) (w : World) (hm : Most w) :
    Calls Tryd.prog 20 #[.string ⟨(ntT zs).toArray⟩] w fun e w' => ∃ A c, e = .returned (.tuple #[.slice A zs.length c, .bool true]) ∧ Hid (OwnF w' w.heap.size A (zs.map bitsN)) ∧ Hid (Below w.heap.size w w') := by
  obtain ⟨h1, h2, h3⟩ := nl_back h hz
  refine (implNl _ h3 w hm).mono ?_
  rintro e w' ⟨A, c, rfl, hO, hB⟩
  rw [h1, h2] at *
  rw [List.length_map]
  exact ⟨A, c, rfl, hO, hB⟩

theorem one_one : FloatKind.f32.format.order 1065353216 1065353216 = some .eq := by decide +kernel

set_option maxRecDepth 100000 in
set_option maxHeartbeats 8000000 in
theorem lawNum (A : Option Addr) (lenA capA : Nat) (zsA : List Int) (B : Option Addr) (lenB capB : Nat) (zsB : List Int) {w : World} (ha : ListB w A lenA zsA) (hb : ListB w B lenB zsB) (ht : Tz w) (hm : Most w) :
    Calls Tryd.prog 4 #[.slice A lenA capA, .slice B lenB capB] w fun e w' => e = .returned (.bool true) ∧ Below w.heap.size w w' := by
  obtain ⟨hsA, hrA, hallA, hmA⟩ := ha
  obtain ⟨hsB, hrB, hallB, hmB⟩ := hb
  subst hsA hsB
  unfold maxLen at hmA hmB
  have HL := Lib.hid (long_any A B zsA.length capA zsB.length capB (by omega) (by omega) w)
  cases hlong : (decide (1048576 < zsA.length) || decide (1048576 < zsB.length))
  rotate_left 1
  · rw [hlong] at HL
    clear hrA hrB hallA hallB hlong ht hm
    go_enter Tryd.func4, Tryd.ntmps4
    go_wp2_with (go_at_call 11; refine HL.out.mono ?_; rintro e w' ⟨rfl, rfl⟩)
    go_ret
    exact ⟨rfl, Below.refl _ _⟩
  rw [hlong] at HL
  rw [Bool.or_eq_false_iff] at hlong
  have hA := of_decide_eq_false hlong.1
  have hB := of_decide_eq_false hlong.2
  have HLA : Hid (zsA.length ≤ 1048576) := by show zsA.length ≤ 1048576; omega
  have HLB : Hid (zsB.length ≤ 1048576) := by show zsB.length ≤ 1048576; omega
  have RA := Lib.hid hrA
  have RB := Lib.hid hrB
  have AA := Lib.hid hallA
  have AB := Lib.hid hallB
  have HT := Lib.hid ht
  have HM := Lib.hid hm
  clear hrA hrB hallA hallB hlong hA hB ht hm
  go_enter Tryd.func4, Tryd.ntmps4
  go_wp2_with (go_at_call 11; refine HL.out.mono ?_; rintro e w' ⟨rfl, rfl⟩)
  clear HL
  -- two numbers
  refine (number_any A capA zsA w RA.out AA.out HLA.out).mono ?_
  rintro e w1 ⟨x, rfl, hx, B1⟩
  have HX := Lib.hid hx
  go_wp2_with fail
  refine (number_any B capB zsB w1 ((RB.out.below B1.out).mono B1.out.size) AB.out HLB.out).mono ?_
  rintro e w2 ⟨y, rfl, hy, hb2⟩
  have B2 : Hid (Below w.heap.size w w2) := B1.out.trans (hb2.out.mono B1.out.size)
  have hx2 : (x : Int) ≤ 4294967295 := by have := hx.lt32; omega
  have hx3 : (bitsN x : Int) ≤ 4294967295 := by have := bitsN_lt hx; omega
  have HFN := Lib.hid (fun W => fromN (bitsN x) hx3 W)
  have HBN := Lib.hid (fun W => bitsN_call x hx2 W)
  clear B1 hb2 hx2 hx3
  go_wp2_with (first | (go_at_call 14; refine (HBN.out _).mono ?_; rintro e w' ⟨rfl, n, rfl⟩) | (go_at_call 13; refine (HFN.out _).mono ?_; rintro e w' ⟨rfl, rfl⟩) | (go_at_call 15; refine (implFlush _ HX.out _).mono ?_; rintro e w' ⟨z, n, rfl, rfl, hz, wz⟩))
  obtain ⟨f1, f2⟩ := flush_facts hx hz.out
  have HF1 := Lib.hid f1
  have HZW := Lib.hid wz
  have HSB : Hid (WF .f32 (bitsN x) ∧ bitsV (bitsN x) = bitsV x) := ⟨bitsN_wf hx, bitsV_twice x⟩
  clear HFN HBN hz wz f1
  -- a list
  have RA2 : ∀ n, Hid (RowB (w2.drewN n) w.heap.size A zsA) := fun n => RA.out.below (below_drew B2.out)
  have RB2 : ∀ n, Hid (RowB (w2.drewN n) (w2.drewN n).heap.size B zsB) := fun n => (RB.out.below (below_drew B2.out)).mono B2.out.size
  refine (b10At_any A capA zsA 0 12 _ w.heap.size (RA2 _).out AA.out HLA.out (by omega) (by omega) (by omega)).mono ?_
  rintro e w' ⟨i, hi, rfl, rfl⟩
  go_wp2_with fail
  refine (numbers_any i (by omega) B capB zsB _ (RB2 _).out AB.out HLB.out).mono ?_
  rintro e w3 ⟨g, c, L, rfl, hL, HAL, HO, hb3⟩
  have B3 : Hid (Below w.heap.size w w3) := (below_drew B2.out).trans (hb3.out.mono B2.out.size)
  have hl : L.length ≤ 256 := by have := hL.out; omega
  have RL : Hid (RowF w3 w3.heap.size (some ⟨g, 0, none⟩) L) := HO.out.row
  clear RA RB RA2 RB2 hL HO hb3 B2 AA AB HLA HLB
  go_wp2_with fail
  -- their sum
  go_loopw [11, 12, 41] (fun s _ i wr => ∃ k : Nat, k ≤ L.length ∧ i = .int .i64 k ∧ ∃ n sw, wr = w3.drewN n ∧ s = .float .f32 sw ∧ WF .f32 sw ∧ Hid (can .f32 sw = sumF (L.take k))) (fun _ _ i _ => L.length - (intOf i).toNat)
  case atStart => exact ⟨0, Nat.zero_le _, rfl, 0, _, rfl, rfl, ⟨by decide⟩, by show can .f32 0 = _; simp [sumF]⟩
  case round =>
    obtain ⟨k, hk, rfl, n, sw, rfl, rfl, hw, hs⟩ := hrel
    by_cases hlt : k < L.length
    · obtain ⟨b, off, e1, hb, hcell⟩ := RL.out (by omega)
      injection e1 with e1
      injection e1 with e1 e3 _
      subst e1 e3
      have hc := hcell k hlt
      rw [Nat.zero_add] at hc
      have S := Lib.hid (sum_step L k hlt)
      clear hcell
      go_wp2_with ((with_reducible refine upon_bin rfl ?_); intro _ _ _ _)
      rename_i r n2 wr er
      go_roundw
      case rel => exact ⟨k + 1, by omega, by go_num, _, _, rfl, rfl, wr, by show can .f32 r = _; rw [er.out, hs.out, S.out]⟩
      case measure => simp [intOf]; omega
    · have e : Hid (L.take k = L) := List.take_of_length_le (by omega)
      have HSW := Lib.hid hw
      have HSC : Hid (can .f32 sw = sumF L) := by show can .f32 sw = sumF L; rw [hs.out, e.out]
      clear hs e hw
      go_wp2_with fail
      clear hk hlt
      refine (implSumW _ _ L _ _ RL.out.drew hl).mono ?_
      rintro e w' ⟨gs, n2, rfl, rfl, hgs, hgc⟩
      have HGW := Lib.hid hgs
      have HGS : Hid (bitsV gs = bitsV sw) := bitsV_of (hgc.out.trans HSC.out.symm)
      clear hgs hgc HSC
      go_wp2_with fail
      -- their text, and back
      refine (implNTx _ _ L _ RL.out.drew HAL.out (by omega) (HT.out.below (below_drew B3.out))).mono ?_
      rintro e w4 ⟨rfl, hb4⟩
      have B4 : Hid (Below w.heap.size w w4) := (below_drew B3.out).trans (hb4.mono B3.out.size)
      have RL4 : Hid (RowF w4 w4.heap.size (some ⟨g, 0, none⟩) L) := (RowF.below (RL.out.drew) hb4).mono hb4.size
      rw [show ntB L = true from decide_eq_true hl]
      clear B3 hb4 RL
      go_wp2_with fail
      refine (read_back L hl HAL.out w4 (HM.out.below B4.out)).mono ?_
      rintro e w5 ⟨A5, c5, rfl, hO5, hb5⟩
      have B5 : Hid (Below w.heap.size w w5) := B4.out.trans (hb5.out.mono B4.out.size)
      have RL5 : Hid (RowF w5 w5.heap.size (some ⟨g, 0, none⟩) L) := (RL4.out.below hb5.out).mono hb5.out.size
      have RQ5 : Hid (RowF w5 w5.heap.size A5 (L.map bitsN)) := hO5.out.row
      clear B4 RL4 hb5 hO5
      obtain ⟨bS, hbS, hbX⟩ : ∃ b, subB x = b ∧ (bitsV x == bitsV z) = !b := ⟨subB x, rfl, by revert f2; cases subB x <;> cases (bitsV x == bitsV z) <;> simp⟩
      have HBS := Lib.hid hbS
      have HBX := Lib.hid hbX
      clear f2 hbS hbX
      cases bS
      all_goals
        go_wp2_with (first | (go_at_call 21; ((with_reducible refine (same_yes (bitsN x) x HSB.out.1 HX.out HSB.out.2 _).mono ?_); rintro e w' ⟨rfl, n6, rfl⟩)) | (go_at_call 21; ((with_reducible refine (same_is x z _ HX.out HZW.out HBX.out _).mono ?_); rintro e w' ⟨rfl, n6, rfl⟩)) | (go_at_call 21; ((with_reducible refine (same_yes gs sw HGW.out HSW.out HGS.out _).mono ?_); rintro e w' ⟨rfl, n6, rfl⟩)) | (go_at_call 22; ((with_reducible refine (sub_is z _ HF1.out _).mono ?_); rintro e w' ⟨rfl, n6, rfl⟩)) | (go_at_call 22; ((with_reducible refine (sub_is x _ HBS.out _).mono ?_); rintro e w' ⟨rfl, n6, rfl⟩)))
        go_loopw [19, 113] (fun _ i wr => ∃ k : Nat, k ≤ L.length ∧ i = .int .i64 k ∧ ∃ n, wr = w5.drewN n) (fun _ i _ => L.length - (intOf i).toNat)
        case atStart => exact ⟨0, Nat.zero_le _, rfl, _, rfl⟩
        case round =>
          obtain ⟨k, hk, rfl, n, rfl⟩ := hrel
          by_cases hlt : k < L.length
          · obtain ⟨b, off, e1, hb, hcell⟩ := RL5.out (by omega)
            obtain ⟨b2, off2, e2, hb2, hcell2⟩ := RQ5.out (by rw [List.length_map]; omega)
            injection e1 with e1
            injection e1 with e1 e3 _
            subst e1 e3 e2
            have hc := hcell k hlt
            rw [Nat.zero_add] at hc
            have hd := hcell2 k (by rw [List.length_map]; exact hlt)
            rw [at0_map hlt] at hd
            have HW6 := Lib.hid (HAL.out _ (at0_mem hlt))
            clear hcell hcell2
            go_wp2_with fail
            go_region_with (go_at_call 21; refine (same_yes _ _ (bitsN_wf HW6.out) HW6.out (bitsV_twice _) _).mono ?_; rintro e w' ⟨rfl, n7, rfl⟩)
            all_goals
              go_wp2
              go_roundw
              case rel => exact ⟨k + 1, by omega, by go_num, _, rfl⟩
              case measure => simp [intOf]; omega
          · clear RL5 RQ5
            obtain ⟨ca, hca⟩ := angle_one y x
            have HCA := Lib.hid hca
            have h11 := one_one
            clear hca
            go_wp2_with (first | (go_at_call 23; refine (HCA.out _).mono ?_; rintro e w' ⟨g1, n1, rfl, rfl, hc1, hg1⟩) | (go_at_call 24; refine (angleOf_any y x ca HCA.out _).mono ?_; rintro e w' ⟨g2, n2, rfl, rfl, hc2, hg2⟩) | (go_at_call 21; ((with_reducible refine (same_yes _ _ hg1 hg2 (bitsV_of (hc1.out.trans hc2.out.symm)) _).mono ?_); rintro e w' ⟨rfl, n6, rfl⟩)) | (go_at_call 21; ((with_reducible refine (same_yes _ _ hg3 HX.out (bitsV_of hc3.out) _).mono ?_); rintro e w' ⟨rfl, n6, rfl⟩)) | ((with_reducible refine upon_wid ?_ ?_ ?_); rotate_left 2; intro r3 nr3 wr3 hr3; rotate_left 1; kernel_rfl; kernel_rfl) | (go_at_call 25; refine (narrowNumber_any _ _ (nar_back HX.out (Hid.out hr3)).1 (nar_back HX.out (Hid.out hr3)).2 _).mono ?_; rintro e w' ⟨g3, n3, rfl, rfl, hc3, hg3⟩) | (go_at_call 26; refine (sine_quarter _).mono ?_; rintro e w' ⟨rfl, n8, rfl⟩))
            go_ret
            exact ⟨rfl, below_drew B5.out⟩

end Go.Proofs.YtckhdbnoihieeaaDoor
