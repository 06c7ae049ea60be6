/-
  What is proved here: the group of a cell, as the program finds it (groupFrom), as a walk. Conditions: sides of a field, a cell of it; the test of cells is as told.
-/
import Derived.Test.YtnhcmloaanamnaaGpc
namespace Go.Proofs.Ytnhcmloaanamnaa
open Go.RowKit
set_option linter.unusedVariables false

/-- what a test of cells answers, from a world on -/
def CloP (w : World) (v u n : Nat) (q : Int → Bool) : Prop := ∀ (W : World) (s : Nat), Below w.heap.size w W → s < n → Calls Try.prog 128 #[.int .i64 (s : Int), .pointer (some ⟨v, 0, none⟩), .pointer (some ⟨u, 0, none⟩)] W fun e w' => e = .returned (.bool (q s)) ∧ Hid (Below W.heap.size W w')
theorem CloP.up {w w1 : World} {v u n : Nat} {q : Int → Bool} (h : CloP w v u n q) (hb : Below w.heap.size w w1) : CloP w1 v u n q := fun W s hW hs => h W s (hb.trans (hW.mono hb.size)) hs

theorem GroI.adr {w : World} {G c j : Nat} {L : List Int} {A : Option Addr} (h : GroI w G L A c) (hj : j < L.length) : ∃ g, A = some ⟨g, 0, none⟩ := by
  rcases h.cases with ⟨_, _, rfl⟩ | h
  · exact absurd hj (by simp)
  · exact h
theorem GroI.at {w : World} {G c j g : Nat} {L : List Int} (h : GroI w G L (some ⟨g, 0, none⟩) c) (hj : j < L.length) : w.cell? ⟨g, j, none⟩ = some (.int .i64 (atI L j)) := by
  rw [World.ownsRow.cellAt h j (by omega), List.getElem?_map]
  simp [atI, List.getD, hj]

set_option maxHeartbeats 8000000 in
set_option maxRecDepth 100000 in
theorem implGrf (x y : Int) (v u n a : Nat) (q : Int → Bool) (w : World) (hv : sidB x y = true) (hn : (n : Int) = x * y) (ha : a < n) (h : CloP w v u n q) :
    Calls Try.prog 133 #[.int .i64 x, .int .i64 y, .int .i64 (a : Nat), .func (.func 128) #[] #[.pointer (some ⟨v, 0, none⟩), .pointer (some ⟨u, 0, none⟩)]] w fun e w' => ∃ A c, e = .returned (.slice A (grpG q (sidL x y) n a).length c) ∧ Hid (GroI w' w.heap.size (grpG q (sidL x y) n a) A c) ∧ Hid (Below w.heap.size w w') := by
  have hx := (sidB_yes hv).1.1
  have hm := (sid_bd hv).2
  have HOK := Lib.hid (nb_ok hx hn)
  have hn256 : n ≤ 256 := by omega
  have HH := Lib.hid h
  have HLE : Hid (∀ k, (seqG q (sidL x y) a k).length ≤ n) := fun k => seq_le HOK.out (by omega) (by omega) k
  have HIN : Hid (∀ k, ∀ z ∈ seqG q (sidL x y) a k, 0 ≤ z ∧ z < n) := fun k => seq_in HOK.out (by omega) (by omega) k
  have HSD : Hid (∀ (i : Int), 0 ≤ i → i < n → ∀ W, Calls Try.prog 135 #[.int .i64 x, .int .i64 y, .int .i64 i] W fun e w' => ∃ A c, e = .returned (.slice A (sidL x y i).length c) ∧ Hid (GroI w' (W.heap.size + 1) (sidL x y i) A c) ∧ Hid (Below W.heap.size W w')) := fun i h0 h1 W => implSid x y i hv h0 (by omega) W
  have HNB : Hid (∀ i, 0 ≤ i → i < (n : Int) → ∀ j, j < (sidL x y i).length → 0 ≤ atI (sidL x y i) j ∧ atI (sidL x y i) j < n) := fun i h0 h1 j hj => HOK.out.inn i h0 h1 _ (getD_mem hj)
  have HL4 : Hid (∀ i, (sidL x y i).length ≤ 4) := fun i => sidL_len x y i
  have O0 : Hid (GroI (w.alloc (.cells #[.int .i64 (a : Nat)] 2)) w.heap.size [(a : Int)] (some ⟨w.heap.size, 0, none⟩) 1) := GroI.lit1 w (Nat.le_refl _) _
  have B0 : Hid (Below w.heap.size w (w.alloc (.cells #[.int .i64 (a : Nat)] 2))) := (Below.refl _ _).alloc (Nat.le_refl _) _
  have HGR : Hid (∀ k, k ≤ n → ¬ k < (seqG q (sidL x y) a k).length → grpG q (sidL x y) n a = seqG q (sidL x y) a k) := fun k hk h => grp_is hk h
  clear hv hn hm h
  generalize hnb : sidL x y = nb at *
  clear hnb
  go_enter Try.func133, Try.ntmps133
  go_wp2_with fail
  generalize hG : w.heap.size = G at *
  have HG := Lib.hid hG
  clear hG
  go_loopw [9, 10] (fun o i wr => ∃ (k : Nat) (A : Option Addr) (c : Nat), i = .int .i64 k ∧ k ≤ n ∧ o = .slice A (seqG q nb a k).length c ∧ Hid (GroI wr G (seqG q nb a k) A c) ∧ Hid (Below G w wr)) (fun _ i _ => n - (intOf i).toNat)
  case atStart => exact ⟨0, _, _, rfl, Nat.zero_le _, rfl, O0, B0⟩
  case round =>
    clear O0 B0
    obtain ⟨k, A, c, rfl, hk, rfl, hO, hB⟩ := hrel
    have hLn := HLE.out k
    have HGk := HGR.out k hk
    have HS := Lib.hid (seqG_yes (q := q) (nb := nb) (a := a) (k := k))
    have hi := fun (h : k < (seqG q nb a k).length) => HIN.out k _ (getD_mem h)
    generalize hLL : seqG q nb a k = L at *
    clear hLL
    by_cases hlt : k < L.length
    · obtain ⟨i0, i1⟩ := hi hlt
      obtain ⟨g, rfl⟩ := hO.out.adr hlt
      have hc := hO.out.at hlt
      have HV := HS.out hlt
      have hgl := hO.out.lt _ rfl
      rw [atI_getD] at hc
      generalize L.getD k 0 = i at *
      have HC := Lib.hid (HSD.out i i0 i1 wr)
      have HSI := Lib.hid (HNB.out i i0 i1)
      have hl4 := HL4.out i
      have HVL : Hid (∀ j, (visG q L ((nb i).take j)).length ≤ 1048576) := fun j => by
        have h1 := vis_len_le q L (nb i) j
        have h2 := HLE.out (k + 1)
        rw [HV] at h2
        omega
      have HVV := Lib.hid HV
      clear HV HS HGk hi HGR
      generalize nb i = bs at *
      go_wp2_with (go_at_call 135; refine HC.out.mono ?_; rintro e w2 ⟨X, d, rfl, hX, hb2⟩)
      have B2 : Hid (Below G w w2) := hB.out.trans (hb2.out.mono (by rw [← HG.out]; exact hB.out.size))
      have O2 := Lib.hid (hO.out.below hb2.out)
      have hfar : Hid (∀ a x, (some (⟨g, 0, none⟩ : Addr)) = some a → X = some x → a.block ≠ x.block) := fun a x ha hx => by
        injection ha with ha
        subst ha
        have := (hX.out.lt _ hx).1
        show g ≠ x.block
        have := hgl.2
        have h3 : g < wr.heap.size := hgl.2
        omega
      generalize wr.heap.size + 1 = M0 at *
      clear hb2 HC hc hO hB hgl
      go_loopw [9, 29] (fun o j wr => ∃ (m : Nat) (A : Option Addr) (c : Nat), j = .int .i64 m ∧ m ≤ bs.length ∧ o = .slice A (visG q L (bs.take m)).length c ∧ Hid (GroI wr G (visG q L (bs.take m)) A c) ∧ Hid (GroI wr M0 bs X d) ∧ Hid (∀ a x, A = some a → X = some x → a.block ≠ x.block) ∧ Hid (Below G w wr)) (fun _ j _ => bs.length - (intOf j).toNat)
      case atStart => exact ⟨0, _, _, rfl, Nat.zero_le _, rfl, O2, hX, hfar, B2⟩
      case round =>
        clear O2 hX hfar B2
        obtain ⟨m, A, c, rfl, hm, rfl, hO, hX, hfar, hB⟩ := hrel
        by_cases hmt : m < bs.length
        · obtain ⟨xg, rfl⟩ := hX.out.adr hmt
          have hcx := hX.out.at hmt
          obtain ⟨s0, s1⟩ := HSI.out m hmt
          obtain ⟨s, hs⟩ : ∃ s : Nat, atI bs m = (s : Int) := ⟨(atI bs m).toNat, by omega⟩
          rw [hs] at hcx s1
          have HST := Lib.hid (visG_take (q := q) (L := L) hmt)
          have hbm : bs[m] = (s : Int) := by rw [← hs, atI_getD, List.getD_eq_getElem?_getD, List.getElem?_eq_getElem hmt]; rfl
          rw [hbm] at HST
          have hsn : s < n := by omega
          have HQ := Lib.hid (HH.out wr s (by rw [HG.out]; exact hB.out) hsn)
          have hLb := HVL.out m
          have hGw : G ≤ wr.heap.size := by rw [← HG.out]; exact hB.out.size
          clear hs hbm s0 s1
          generalize visG q L (bs.take m) = L1 at *
          cases hq : q (s : Int)
          · rw [hq] at HQ
            have S := Lib.hid (HST.out.trans (stepG_no (by rw [hq]; rfl)))
            clear HST hq
            go_wp2_with (go_at_call 128; refine HQ.out.mono ?_; rintro e w2 ⟨rfl, hb2⟩)
            have O2 := Lib.hid (hO.out.below hb2.out)
            have X2 := Lib.hid (hX.out.below hb2.out)
            have B2 : Hid (Below G w w2) := hB.out.trans (hb2.out.mono hGw)
            clear hb2 hcx
            go_roundw
            case rel => exact ⟨m + 1, A, c, by go_num, by omega, by rw [S.out], by rw [S.out]; exact O2, X2, hfar, B2⟩
            case measure => simp [intOf]; omega
          · rw [hq] at HQ
            cases hcn : L1.contains (s : Int)
            · have S := Lib.hid (HST.out.trans (stepG_yes (by rw [hq, hcn]; rfl)))
              have HI : Hid (∀ W, Below wr.heap.size wr W → Calls Try.prog 132 #[.slice A L1.length c, .int .i64 (s : Int)] W fun e w' => e = .returned (.bool false) ∧ W = w') := fun W hW => by
                have := idxI A c W.heap.size (s : Int) L1 W (hO.out.below hW).rowW.toRow hLb
                rwa [hcn] at this
              clear HST hq hcn
              go_wp2_with (first | (go_at_call 128; refine HQ.out.mono ?_; rintro e w2 ⟨rfl, hb2⟩; have O2 := Lib.hid (hO.out.below hb2.out); have X2 := Lib.hid (hX.out.below hb2.out); have B2 : Hid (Below G w w2) := hB.out.trans (hb2.out.mono hGw); have hG2 : G ≤ w2.heap.size := Nat.le_trans hGw hb2.out.size) | (go_at_call 132; refine (HI.out _ hb2.out).mono ?_; rintro e w3 ⟨rfl, rfl⟩; clear hb2) | (at_builtin; refine isAppI _ _ rfl ?_; refine wpGroY rfl _ _ rfl (w0 := w2) (y := (s : Int)) O2.out rfl rfl (by first | rfl | simp [Act.eval]) hLb hG2 ?_; intro g5 c5 w5 O5 b5 f5; have HO5 := Lib.hid O5; have HB5 := Lib.hid b5; have HF5 := Lib.hid f5; clear O5 b5 f5))
              have B5 := Lib.hid (HB5.out.below B2.out hG2 (fun a ha => (O2.out.lt a ha).1))
              have X5 := Lib.hid (X2.out.butA HB5.out hfar.out)
              have F5 : Hid (∀ a x, (some (⟨g5, 0, none⟩ : Addr)) = some a → (some (⟨xg, 0, none⟩ : Addr)) = some x → a.block ≠ x.block) := fun a x ha hx => by
                injection ha with ha
                subst ha
                rcases HF5.out with ⟨b, e1, e2⟩ | h
                · have := hfar.out b x e1 hx
                  show g5 ≠ x.block
                  omega
                · have := (X2.out.lt _ hx).2
                  show g5 ≠ x.block
                  omega
              clear hcx HB5 HF5
              go_roundw
              case rel => exact ⟨m + 1, _, c5, by go_num, by omega, by rw [S.out, List.length_append]; rfl, by rw [S.out]; exact HO5, X5, F5, B5⟩
              case measure => simp [intOf]; omega
            · have S := Lib.hid (HST.out.trans (stepG_no (by rw [hq, hcn]; rfl)))
              have HI : Hid (∀ W, Below wr.heap.size wr W → Calls Try.prog 132 #[.slice A L1.length c, .int .i64 (s : Int)] W fun e w' => e = .returned (.bool true) ∧ W = w') := fun W hW => by
                have := idxI A c W.heap.size (s : Int) L1 W (hO.out.below hW).rowW.toRow hLb
                rwa [hcn] at this
              clear HST hq hcn
              go_wp2_with (first | (go_at_call 128; refine HQ.out.mono ?_; rintro e w2 ⟨rfl, hb2⟩; have O2 := Lib.hid (hO.out.below hb2.out); have X2 := Lib.hid (hX.out.below hb2.out); have B2 : Hid (Below G w w2) := hB.out.trans (hb2.out.mono hGw)) | (go_at_call 132; refine (HI.out _ hb2.out).mono ?_; rintro e w3 ⟨rfl, rfl⟩; clear hb2))
              clear hcx
              go_roundw
              case rel => exact ⟨m + 1, A, c, by go_num, by omega, by rw [S.out], by rw [S.out]; exact O2, X2, hfar, B2⟩
              case measure => simp [intOf]; omega
        · have em : m = bs.length := by omega
          have S : Hid (visG q L (bs.take m) = seqG q nb a (k + 1)) := by show _ = _; rw [em, List.take_length, HVV.out]
          clear em
          go_wp2
          go_roundw
          case rel => exact ⟨k + 1, A, c, by go_num, by omega, by rw [S.out], by rw [← S.out]; exact hO, hB⟩
          case measure => simp [intOf]; omega
    · have N := Lib.hid (HGk hlt)
      go_wp2
      go_ret
      exact ⟨A, c, by rw [N.out]; rfl, by rw [N.out, HG.out]; exact hO, by rw [HG.out]; exact hB⟩

end Go.Proofs.Ytnhcmloaanamnaa
