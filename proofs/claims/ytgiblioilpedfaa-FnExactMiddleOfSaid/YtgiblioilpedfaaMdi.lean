/-
  What is proved here: the places of full cells, their mean, the sum of their powers, of the program, as walks. Conditions: as each theorem names.
-/
import Derived.Test.YtgiblioilpedfaaMds
import Derived.Deep.RegionWith
namespace Go.Proofs.Ytgiblioilpedfaa
open Flt Go.RowKit
set_option linter.unusedVariables false

def plL (x : Int) (L : List Int) : List (Nat × Nat) := L.map fun c => (plX x c, plY x c)
theorem plL_len (x : Int) (L : List Int) : (plL x L).length = L.length := by unfold plL; rw [List.length_map]
theorem plL_snoc (x : Int) (L : List Int) (c : Int) : plL x (L ++ [c]) = plL x L ++ [(plX x c, plY x c)] := by unfold plL; rw [List.map_append]; rfl
theorem plL_at {x : Int} {L : List Int} {j : Nat} (h : j < L.length) : (plL x L).getD j (0, 0) = (plX x (atI L j), plY x (atI L j)) := by
  unfold plL atI
  rw [List.getD_eq_getElem?_getD, List.getElem?_map, List.getD_eq_getElem?_getD, List.getElem?_eq_getElem h]; rfl
theorem GroIm.at {w : World} {G c j : Nat} {L : List Int} {A : Option Addr} (h : GroI w G L A c) (hj : j < L.length) : ∃ g, A = some ⟨g, 0, none⟩ ∧ g < w.heap.size ∧ w.cell? ⟨g, j, none⟩ = some (.int .i64 (atI L j)) := by
  rcases h.cases with ⟨_, _, rfl⟩ | ⟨g, rfl⟩
  · exact absurd hj (by simp)
  · refine ⟨g, rfl, (h.lt _ rfl).2, ?_⟩
    rw [World.ownsRow.cellAt h j (by omega), List.getElem?_map]
    simp [atI, List.getD, hj]

set_option maxHeartbeats 4000000 in
theorem implFpl (x y : Int) (A : Option Addr) (n c : Nat) (p : Nat → Bool) (w : World) (hr : RowV w w.heap.size A n (bo p)) (hn : n ≤ 256) (hx : 1 ≤ x) (hx2 : x ≤ 16) :
    Calls Try.prog 92 #[.agg #[.int .i64 x, .int .i64 y, .slice A n c]] w fun e w' => ∃ A' c' G, e = .returned (.slice A' (fulN p n) c') ∧ Hid (GroC w' G (plL x (fulL p n)) A' c') ∧ Hid (Below w.heap.size w w') := by
  have B0 := below_var w x y A n c 40
  have V0 := varT_new w x y A n c 40
  have HB0 := Lib.hid B0
  have HV := Lib.hid V0
  have HC := Lib.hid (implFull x y A n c p _ (hr.carry B0) (by omega))
  have c0 := V0.c0
  have c1 := V0.c1
  have c2 := V0.c2
  have hl := V0.lt
  have hle := fulN_le p n
  have HIN : Hid (∀ j, j < fulN p n → 0 ≤ atI (fulL p n) j ∧ atI (fulL p n) j < 4096) := fun j hj => by
    rw [← fulL_len] at hj
    have hm : atI (fulL p n) j ∈ fulL p n := by unfold atI; rw [List.getD_eq_getElem?_getD, List.getElem?_eq_getElem hj]; exact List.getElem_mem _
    obtain ⟨i, hi, e⟩ := mem_fulL hm
    omega
  have hLL := fulL_len p n
  have HLL := Lib.hid hLL
  clear hr B0 V0
  rw [hLL] at HC
  clear hLL
  generalize fulL p n = L at *
  generalize fulN p n = cn at *
  have hz : x ≠ 0 := by omega
  go_enter Try.func92, Try.ntmps92
  go_wp2_with fail
  generalize w.alloc (.cells #[.int .i64 x, .int .i64 y, .slice A n c] 40) = wa at *
  refine HC.out.mono ?_
  rintro e w1 ⟨A1, c1', rfl, HO1, hb1⟩
  have HE := Lib.hid (HB0.out.trans (hb1.out.mono HB0.out.size))
  have HV1 := Lib.hid (HV.out.below hb1.out)
  clear HC hb1 c0 c1 c2 hl HV
  go_wp2_with fail
  have hG0 : Hid (∀ wr, Below w1.heap.size w1 wr → w1.heap.size ≤ wr.heap.size) := fun wr h => h.size
  have N0 : Hid (GroC w1 w1.heap.size (plL x (L.take 0)) none 0) := GroC.nil _ _
  go_loopw [3, 9] (fun o i wr => ∃ (k : Nat) (A' : Option Addr) (c' : Nat), k ≤ cn ∧ i = .int .i64 k ∧ o = .slice A' k c' ∧ Hid (GroC wr w1.heap.size (plL x (L.take k)) A' c') ∧ Hid (Below w1.heap.size w1 wr)) (fun _ i _ => cn - (intOf i).toNat)
  case atStart => exact ⟨0, none, 0, Nat.zero_le _, rfl, rfl, N0, Below.refl _ _⟩
  case round =>
    clear N0
    obtain ⟨k, A', c', hk, rfl, rfl, hO, hB⟩ := hrel
    by_cases hlt : k < cn
    · have hkL : k < L.length := by rw [HLL.out]; exact hlt
      obtain ⟨g1, rfl, hg1, hcell⟩ := GroIm.at (HO1.out.below hB.out) hkL
      have V := HV1.out.below hB.out
      have v0 := V.c0
      have hvl := V.lt
      obtain ⟨h0, h1⟩ := HIN.out k hlt
      have E : Hid (plL x (L.take (k + 1)) = plL x (L.take k) ++ [(plX x (atI L k), plY x (atI L k))]) := by show _ = _; rw [takeL_snoc hkL, plL_snoc]
      have hlen : (plL x (L.take k)).length = k := by rw [plL_len, List.length_take]; omega
      have HLN := Lib.hid hlen
      have hLl : (plL x (L.take k)).length ≤ 1048576 := by omega
      have hGw : w1.heap.size ≤ wr.heap.size := hG0.out _ hB.out
      clear V hkL hlen
      generalize atI L k = cell at *
      have t1 : cell.tmod x = cell % x := Int.tmod_eq_emod_of_nonneg h0
      have t2 : IntKind.i64.wrap (cell.tdiv x) = cell / x := by
        rw [Int.tdiv_eq_ediv_of_nonneg h0]
        have u1 := Int.ediv_nonneg h0 (show 0 ≤ x by omega)
        have u2 := Int.ediv_le_self x h0
        exact IntWalk.i64_in _ (by omega)
      generalize plL x (L.take k) = Lk at *
      go_wp2_with fail
      go_region_law (refine stepGroC rfl _ _ rfl (w0 := wr.drew) (y := (plX x cell, plY x cell)) hO.out.dr rfl (by simp [Act.eval, HLN.out]) (by simp [Act.eval]) hLl hGw ?_; rw [HLN.out]; intro g2 c2 w4 O4 B4; have HO4 := Lib.hid O4; have HB4 := Lib.hid ((hB.out.drew).trans B4); clear O4 B4)
      all_goals
        go_wp2_with fail
        go_roundw
        case rel => exact ⟨k + 1, _, c2, by omega, by go_num, rfl, by rw [E.out]; exact HO4, HB4⟩
        case measure => simp [intOf]; omega
    · have ek : k = cn := by omega
      subst ek
      have hT : Hid (L.take k = L) := List.take_of_length_le (by rw [HLL.out]; exact Nat.le_refl _)
      go_wp2_with fail
      go_ret
      exact ⟨A', c', w1.heap.size, rfl, by rw [← hT.out]; exact hO, HE.out.trans (hB.out.mono HE.out.size)⟩

theorem implMean (x : Int) (n : Nat) (p : Nat → Bool) (G : Nat) (A : Option Addr) (c : Nat) (w : World) (hO : GroC w G (plL x (fulL p n)) A c) (hn : n ≤ 256) {SA SB TA TB : Nat → Nat} {mx my : Nat} {dx dy q : Int → Nat} (M : MidF x n p SA SB TA TB mx my dx dy q) :
    Calls Try.prog 93 #[.slice A (fulN p n) c] w fun e w' => e = .returned (.complex .f32 mx my) ∧ w = w' := by
  have HO := Lib.hid hO
  have HM := Lib.hid M
  have q1 := M.quo.1
  have q2 := M.quo.2
  have hE := M.eq
  rw [fulL_len] at hE
  rw [← hE.1] at q1
  rw [← hE.2] at q2
  have q1 := run_f32 q1
  have q2 := run_f32 q2
  have hle := fulN_le p n
  have HLL := Lib.hid (fulL_len p n)
  clear hO M hE
  go_enter Try.func93, Try.ntmps93
  go_wp2_with fail
  go_loopw [3, 9] (fun o i wr => ∃ (k : Nat), k ≤ fulN p n ∧ i = .int .i64 k ∧ o = .complex .f32 (TA k) (TB k) ∧ wr = w) (fun _ i _ => fulN p n - (intOf i).toNat)
  case atStart => exact ⟨0, Nat.zero_le _, rfl, by rw [HM.out.a0.2.2.1, HM.out.a0.2.2.2], rfl⟩
  case round =>
    obtain ⟨k, hk, rfl, rfl, rfl⟩ := hrel
    by_cases hlt : k < fulN p n
    · have hkL : k < (fulL p n).length := by rw [HLL.out]; exact hlt
      obtain ⟨g1, rfl, hg1, hcell⟩ := HO.out.at (j := k) (by rw [plL_len]; exact hkL)
      rw [plL_at hkL] at hcell
      dsimp only at hcell
      have E := HM.out.at' k hkL
      have HA := Lib.hid (fun W => implAdd E.1 E.2 W)
      clear E q1 q2 hkL
      go_wp2_with (go_at_call 165; refine (HA.out _).mono ?_; rintro e w' ⟨rfl, rfl⟩)
      go_roundw
      case rel => exact ⟨k + 1, by omega, by go_num, rfl, by trivial⟩
      case measure => simp [intOf]; omega
    · have ek : Hid (k = fulN p n) := by show _ = _; omega
      rw [ek.out]
      go_wp2_with fail
      go_ret
      exact ⟨rfl, rfl⟩

theorem cloMid (x : Int) (n : Nat) (p : Nat → Bool) (mb : Nat) (w : World) (hmb : mb < w.heap.size) {SA SB TA TB : Nat → Nat} {mx my : Nat} {dx dy q : Int → Nat} (M : MidF x n p SA SB TA TB mx my dx dy q)
    (hc : w.cell? ⟨mb, 0, none⟩ = some (.complex .f32 mx my)) (k : Nat) (hk : k < n) :
    Calls Try.prog 95 #[.complex .f32 (plX x k) (plY x k), .pointer (some ⟨mb, 0, none⟩)] w fun e w' => e = .returned (.float .f32 (q k)) ∧ w = w' := by
  have P := M.pw k hk
  have HL := Lib.hid (fun W => implLess P.sx P.sy W)
  have HP := Lib.hid (fun W => implPow P W)
  clear P M
  generalize plX x k = a at *
  generalize plY x k = b at *
  generalize q k = qk at *
  go_enter Try.func95, Try.ntmps95
  go_wp2_with (first | (go_at_call 97; refine (HL.out _).mono ?_; rintro e w' ⟨rfl, rfl⟩) | (go_at_call 96; refine (HP.out _).mono ?_; rintro e w' ⟨rfl, rfl⟩))
  go_ret
  exact ⟨rfl, rfl⟩

theorem implSumM (x : Int) (n : Nat) (p : Nat → Bool) (G : Nat) (A : Option Addr) (c : Nat) (mb : Nat) (w : World) (hO : GroC w G (plL x (fulL p n)) A c) (hn : n ≤ 256) (hmb : mb < w.heap.size) {SA SB TA TB : Nat → Nat} {mx my : Nat} {dx dy q : Int → Nat} (M : MidF x n p SA SB TA TB mx my dx dy q)
    (hc : w.cell? ⟨mb, 0, none⟩ = some (.complex .f32 mx my)) :
    Calls Try.prog 94 #[.slice A (fulN p n) c, .func (.func 95) #[] #[.pointer (some ⟨mb, 0, none⟩)]] w (FPost .f32 (smO q (fulL p n)) w) := by
  have HO := Lib.hid hO
  have hle := fulN_le p n
  have HLL := Lib.hid (fulL_len p n)
  have HIN : Hid (∀ j, j < (fulL p n).length → ∃ i : Nat, i < n ∧ atI (fulL p n) j = (i : Int)) := fun j hj => by
    have hm : atI (fulL p n) j ∈ fulL p n := by unfold atI; rw [List.getD_eq_getElem?_getD, List.getElem?_eq_getElem hj]; exact List.getElem_mem _
    exact mem_fulL hm
  have HCL := Lib.hid (fun (m k : Nat) (hk : k < n) => cloMid x n p mb (w.drewN m) hmb M hc k hk)
  clear hO M hc
  go_enter Try.func94, Try.ntmps94
  go_wp2_with fail
  go_loopw [5, 10] (fun s i wr => ∃ k : Nat, k ≤ fulN p n ∧ i = .int .i64 k ∧ ∃ m sw, wr = w.drewN m ∧ s = .float .f32 sw ∧ WF .f32 sw ∧ Hid (can .f32 sw = smO q ((fulL p n).take k))) (fun _ i _ => fulN p n - (intOf i).toNat)
  case atStart => exact ⟨0, Nat.zero_le _, rfl, 0, _, rfl, rfl, ⟨by decide⟩, by show can .f32 0 = _; rfl⟩
  case round =>
    obtain ⟨k, hk, rfl, m, sw, rfl, rfl, hw, hs⟩ := hrel
    by_cases hlt : k < fulN p n
    · have hkL : k < (fulL p n).length := by rw [HLL.out]; exact hlt
      obtain ⟨g1, rfl, hg1, hcell⟩ := HO.out.at (j := k) (by rw [plL_len]; exact hkL)
      rw [plL_at hkL] at hcell
      dsimp only at hcell
      obtain ⟨i, hi, e⟩ := HIN.out k hkL
      have S : Hid (smO q ((fulL p n).take (k + 1)) = fop .add .f32 (smO q ((fulL p n).take k)) (can .f32 (q i))) := by show _ = _; rw [takeL_snoc hkL, smO_snoc, e]
      rw [e] at hcell
      have HK := Lib.hid (HCL.out m i hi)
      clear e hkL
      generalize plX x i = a at *
      generalize plY x i = b at *
      go_wp2_with (first | (go_at_call 95; refine HK.out.mono ?_; rintro e w' ⟨rfl, rfl⟩) | ((with_reducible refine upon_bin rfl ?_); intro _ _ _ _))
      rename_i r n2 wr er
      go_roundw
      case rel => exact ⟨k + 1, by omega, by go_num, _, _, rfl, rfl, wr, by show can .f32 r = _; rw [er.out, hs.out, S.out]⟩
      case measure => simp [intOf]; omega
    · have e : Hid ((fulL p n).take k = fulL p n) := List.take_of_length_le (by rw [HLL.out]; omega)
      go_wp2_with fail
      go_ret
      exact fpost (by rw [hs.out, e.out]) hw

end Go.Proofs.Ytgiblioilpedfaa
