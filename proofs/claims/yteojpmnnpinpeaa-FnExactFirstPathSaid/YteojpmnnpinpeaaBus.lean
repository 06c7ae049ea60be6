/-
  What is proved here: when the cells of a field burn, as the reference finds it (l07Burn), as a walk. Conditions: a valid field.
-/
import Derived.Test.YteojpmnnpinpeaaBup
import Derived.Test.YteojpmnnpinpeaaGpw
import Derived.Test.YteojpmnnpinpeaaGpf0
import Derived.Test.YteojpmnnpinpeaaGpv
import Derived.Deep.RegionHeld3
namespace Go.Proofs.Yteojpmnnpinpeaa
open Go.RowKit
set_option linter.unusedVariables false

theorem GroI.lowerB {w : World} {G G' c : Nat} {L : List Int} {A : Option Addr} (h : GroI w G L A c) (hG : G' ≤ G) : GroI w G' L A c :=
  ⟨h.1, h.2.elim .inl fun ⟨g, cap, cur, h1, h2, h3⟩ => .inr ⟨g, cap, cur, h1, Nat.le_trans hG h2, h3⟩⟩
theorem keep3B {wr W w8 : World} {v cg m : Nat} {a b c : Value} (hb : Below W.heap.size W w8) (hW : Below wr.heap.size wr W) (hv : v < wr.heap.size) (hc : cg < wr.heap.size) (h1 : W.cell? ⟨v, 0, none⟩ = some a) (h2 : W.cell? ⟨v, 1, none⟩ = some b) (h3 : W.cell? ⟨cg, m, none⟩ = some c) : w8.cell? ⟨v, 0, none⟩ = some a ∧ w8.cell? ⟨v, 1, none⟩ = some b ∧ w8.cell? ⟨cg, m, none⟩ = some c := by
  have hv2 := Nat.lt_of_lt_of_le hv hW.size
  have hc2 := Nat.lt_of_lt_of_le hc hW.size
  rw [hb.cell (p := ⟨v, 0, none⟩) hv2, hb.cell (p := ⟨v, 1, none⟩) hv2, hb.cell (p := ⟨cg, m, none⟩) hc2]
  exact ⟨h1, h2, h3⟩

/-- the first times, and the first list, while they are made -/
def firB (p : Nat → Bool) (x : Int) (k : Nat) : List Int := (List.range k).map fun i : Nat => if (decide ((i : Int) < x) && p i) = true then (0 : Int) else -1
def topB (p : Nat → Bool) (x : Int) (k : Nat) : List Int := fulL (fun i => decide ((i : Int) < x) && p i) k
theorem firB_len (p : Nat → Bool) (x : Int) (k : Nat) : (firB p x k).length = k := by simp [firB]
theorem firB_yes {p : Nat → Bool} {x : Int} {k : Nat} (h : (decide ((k : Int) < x) && p k) = true) : firB p x (k + 1) = firB p x k ++ [0] := by
  unfold firB
  rw [List.range_succ, List.map_append, List.map_singleton, if_pos h]
theorem firB_no {p : Nat → Bool} {x : Int} {k : Nat} (h : (decide ((k : Int) < x) && p k) = false) : firB p x (k + 1) = firB p x k ++ [-1] := by
  unfold firB
  rw [List.range_succ, List.map_append, List.map_singleton, if_neg (by rw [h]; decide)]
theorem topB_yes {p : Nat → Bool} {x : Int} {k : Nat} (h : (decide ((k : Int) < x) && p k) = true) : topB p x (k + 1) = topB p x k ++ [(k : Int)] := fulL_yes h
theorem topB_no {p : Nat → Bool} {x : Int} {k : Nat} (h : (decide ((k : Int) < x) && p k) = false) : topB p x (k + 1) = topB p x k := fulL_no h
theorem topB_len (p : Nat → Bool) (x : Int) (k : Nat) : (topB p x k).length ≤ k := by
  show (fulL _ k).length ≤ k
  rw [fulL_len]; exact fulN_le _ _
theorem fulL_ext {p q : Nat → Bool} : ∀ {k : Nat}, (∀ i, i < k → p i = q i) → fulL p k = fulL q k
  | 0, _ => rfl
  | k + 1, h => by
    have ih := fulL_ext (k := k) fun i hi => h i (by omega)
    have hk := h k (Nat.lt_succ_self k)
    cases e : p k with
    | true => rw [fulL_yes e, fulL_yes (hk ▸ e), ih]
    | false => rw [fulL_no e, fulL_no (hk ▸ e), ih]
theorem topB_is (p : Nat → Bool) (x : Int) (n : Nat) : topB p x n = topL (pB p n) x n := fulL_ext fun i hi => by rw [pB_in hi]
theorem firB_is {p : Nat → Bool} {x y : Int} {n : Nat} {D : Nat → Int} (hD : Dist (pB p n) x y n D) : ∀ j, j < n → atI (firB p x n) j = oM D (topL (pB p n) x n) j := fun j hj => by
  have e : atI (firB p x n) j = if (decide ((j : Int) < x) && p j) = true then 0 else -1 := by simp [atI, List.getD, firB, hj, -Bool.and_eq_true]
  rw [e]
  cases h : (decide ((j : Int) < x) && p j) with
  | true =>
    rw [if_pos rfl, oM_in (by rw [← topB_is]; exact fulL_mem.2 ⟨j, rfl, hj, h⟩)]
    rw [Bool.and_eq_true, decide_eq_true_eq] at h
    exact ((hD.top j).2 ⟨by rw [pB_in hj]; exact h.2, h.1⟩).symm
  | false =>
    rw [if_neg (by decide), oM_out]
    intro g
    rw [← topB_is] at g
    obtain ⟨i, e1, _, e3⟩ := fulL_mem.1 g
    obtain rfl : i = j := by omega
    rw [h] at e3; cases e3

set_option maxHeartbeats 16000000 in
set_option maxRecDepth 1000000 in
theorem specBurn (v : Nat) (x y : Int) (F : Option Addr) (n f : Nat) (p : Nat → Bool) (w : World) (hv : fvB x y n = true) (V : VarT w v x y F n f) (hr : RowV w w.heap.size F n (bo p)) :
    Calls Try.prog 77 #[.pointer (some ⟨v, 0, none⟩)] w fun e w' => ∃ A c, e = .returned (.tuple #[.slice A n c, .int .i64 (maxD (burnT p x y n) n)]) ∧ Hid (RowW w' w.heap.size w'.heap.size A n (iv (burnT p x y n))) ∧ Hid (Below w.heap.size w w') := by
  obtain ⟨⟨⟨hx1, hx2⟩, hy⟩, hn, hn1, hn2⟩ := fvB_yes hv
  have hsd : sidB x y = true := by
    cases e : sidB x y with
    | true => rfl
    | false => rw [fvB_1 e] at hv; cases hv
  have hD : Dist (pB p n) x y n (burnT p x y n) := dT_dist (pB_lt p n)
  have HOK := Lib.hid (nb_ok hx1 hn)
  have HBE : Hid (∀ i, 0 ≤ i → i < (n : Int) → ∀ W : World, Calls Try.prog 87 #[.int .i64 x, .int .i64 y, .int .i64 i] W fun e w' => ∃ A c, e = .returned (.slice A (sidL x y i).length c) ∧ Hid (GroI w' W.heap.size (sidL x y i) A c) ∧ Hid (Below W.heap.size W w')) := fun i h0 h1 W => specBes x y i hsd h0 (by omega) W
  obtain ⟨fb, fo, rfl, hfb, hcell⟩ := hr (by omega)
  have HVV : Hid (∀ wr, Below w.heap.size w wr → v < wr.heap.size ∧ wr.cell? ⟨v, 0, none⟩ = some (.int .i64 x) ∧ wr.cell? ⟨v, 1, none⟩ = some (.int .i64 y) ∧ wr.cell? ⟨v, 2, none⟩ = some (.slice (some ⟨fb, fo, none⟩) n f)) := fun wr h => by
    rw [h.cell (p := ⟨v, 0, none⟩) V.lt, h.cell (p := ⟨v, 1, none⟩) V.lt, h.cell (p := ⟨v, 2, none⟩) V.lt]; exact ⟨Nat.lt_of_lt_of_le V.lt h.size, V.c0, V.c1, V.c2⟩
  have HFC : Hid (∀ wr, Below w.heap.size w wr → ∀ j, j < n → wr.cell? ⟨fb, fo + j, none⟩ = some (.bool (p j))) := fun wr h j hj => by rw [h.cell (p := ⟨fb, fo + j, none⟩) hfb]; exact hcell j hj
  have HNB : Hid (∀ i, 0 ≤ i → i < (n : Int) → ∀ j, j < (sidL x y i).length → 0 ≤ atI (sidL x y i) j ∧ atI (sidL x y i) j < n) := fun i h0 h1 j hj => HOK.out.inn i h0 h1 _ (getD_mem hj)
  have HL4 : Hid (∀ i, (sidL x y i).length ≤ 4) := fun i => sidL_len x y i
  -- the model's list, and what is known of it
  have HIV : Hid (∀ m, m ≤ (seqM (fun b => pB p n b.toNat) (sidL x y) (topL (pB p n) x n) m).length → InvM (pB p n) x y n (burnT p x y n) m (seqM (fun b => pB p n b.toNat) (sidL x y) (topL (pB p n) x n) m)) := seqM_inv hD hx1 hn (pB_lt p n)
  have HLN : Hid (∀ m L, InvM (pB p n) x y n (burnT p x y n) m L → L.length ≤ n) := fun m L H => nodup_le n L H.nodup fun b hb => ⟨(H.inn b hb).1, (H.inn b hb).2.1⟩
  have HNX : Hid (∀ m L, InvM (pB p n) x y n (burnT p x y n) m L → m < L.length → InvM (pB p n) x y n (burnT p x y n) (m + 1) (visG (fun b => pB p n b.toNat) L (sidL x y (L.getD m 0)))) := fun m L H h => H.next hD hx1 hn (pB_lt p n) h
  have HSD : Hid (∀ m L, InvM (pB p n) x y n (burnT p x y n) m L → m < L.length → ∀ b, b ∈ sidL x y (L.getD m 0) → pB p n b.toNat = true → b ∉ L → burnT p x y n b.toNat = burnT p x y n (L.getD m 0).toNat + 1) := fun m L H h b h1 h2 h3 => H.side hD hx1 hn (pB_lt p n) h h1 h2 h3
  have HEN : Hid (∀ m L, InvM (pB p n) x y n (burnT p x y n) m L → ¬ m < L.length → ∀ i, oM (burnT p x y n) L i = burnT p x y n i) := fun m L H h i => oM_end H hD hx1 hn (pB_lt p n) h i
  have HMX : Hid (∀ m L, InvM (pB p n) x y n (burnT p x y n) m L → m = L.length → lastM (burnT p x y n) L m = maxD (burnT p x y n) n) := fun m L H h => lastM_max H hD hx1 hn (pB_lt p n) h
  have HVS : Hid (∀ m, m < (seqM (fun b => pB p n b.toNat) (sidL x y) (topL (pB p n) x n) m).length → seqM (fun b => pB p n b.toNat) (sidL x y) (topL (pB p n) x n) (m + 1) = visG (fun b => pB p n b.toNat) (seqM (fun b => pB p n b.toNat) (sidL x y) (topL (pB p n) x n) m) (sidL x y ((seqM (fun b => pB p n b.toNat) (sidL x y) (topL (pB p n) x n) m).getD m 0))) := fun m h => seqM_yes h
  have HFI : Hid (∀ j, j < n → atI (firB p x n) j = oM (burnT p x y n) (topL (pB p n) x n) j) := firB_is hD
  have HTI : Hid (topB p x n = topL (pB p n) x n) := topB_is p x n
  have HHI : Hid (∀ i, burnT p x y n i ≤ n) := hD.high
  have HPB : Hid (∀ s : Nat, s < n → pB p n s = p s) := fun s hs => pB_in hs
  have B0 : Hid (Below w.heap.size w ((w.alloc (.cells #[] 2)).alloc (.cells #[] 2))) := ((Below.refl _ _).alloc (Nat.le_refl _) _).alloc (by simp) _
  have O0 : Hid (GroI ((w.alloc (.cells #[] 2)).alloc (.cells #[] 2)) w.heap.size [] (some ⟨w.heap.size, 0, none⟩) 0) := (GroI.lit w (Nat.le_refl _)).below (below_oneB _ _ (Nat.le_refl _))
  have T0 : Hid (GroI ((w.alloc (.cells #[] 2)).alloc (.cells #[] 2)) w.heap.size [] (some ⟨w.heap.size + 1, 0, none⟩) 0) := by
    have := GroI.lit (w.alloc (.cells #[] 2)) (G := w.heap.size) (by simp)
    rw [show (w.alloc (.cells #[] 2)).heap.size = w.heap.size + 1 by simp] at this
    exact this
  obtain ⟨_, v0, v1, v2⟩ := HVV.out _ B0.out
  clear hcell hr V hv hsd hx1 hx2 hy hn HOK hfb hD
  generalize burnT p x y n = D at *
  generalize hnb : sidL x y = nb at *
  clear hnb
  go_enter Try.func77, Try.ntmps77
  go_wp2_with fail
  generalize (w.alloc (.cells #[] 2)).alloc (.cells #[] 2) = w00 at *
  generalize hG : w.heap.size = G at *
  have HG := Lib.hid hG
  clear hG v0 v1 v2
  -- the first times
  go_loopw [4, 5, 19] (fun o l i wr => ∃ (k : Nat) (A C : Option Addr) (c e : Nat), i = .int .i64 k ∧ k ≤ n ∧ o = .slice A (firB p x k).length c ∧ l = .slice C (topB p x k).length e ∧ Hid (GroI wr G (firB p x k) A c) ∧ Hid (GroI wr G (topB p x k) C e) ∧ Hid (∀ a b, A = some a → C = some b → a.block ≠ b.block) ∧ Hid (Below G w wr)) (fun _ _ i _ => n - (intOf i).toNat)
  case atStart => exact ⟨0, _, _, _, _, rfl, Nat.zero_le _, rfl, rfl, O0, T0, fun a b ha hb => by injection ha with ha; injection hb with hb; subst ha hb; show G ≠ G + 1; omega, B0⟩
  case round =>
    clear O0 T0 B0
    obtain ⟨k, A, C, c, e, rfl, hk, rfl, rfl, hO, hT, hF, hB⟩ := hrel
    have hGw : G ≤ wr.heap.size := by rw [← HG.out]; exact hB.out.size
    have hRL : (firB p x k).length ≤ 1048576 := by rw [firB_len]; omega
    have hTL : (topB p x k).length ≤ 1048576 := by have := topB_len p x k; omega
    obtain ⟨_, v0, v1, v2⟩ := HVV.out _ hB.out
    by_cases hlt : k < n
    · have hpc := HFC.out wr hB.out k hlt
      have SY := fun h => firB_yes (p := p) (x := x) (k := k) h
      have SN := fun h => firB_no (p := p) (x := x) (k := k) h
      have TY := fun h => topB_yes (p := p) (x := x) (k := k) h
      have TN := fun h => topB_no (p := p) (x := x) (k := k) h
      generalize firB p x k = L at *
      generalize topB p x k = M at *
      by_cases hkx : (k : Int) < x
      · cases hp : p k
        · rw [hp] at hpc
          have S1 := Lib.hid (SN (by rw [hp, Bool.and_false]))
          have S2 := Lib.hid (TN (by rw [hp, Bool.and_false]))
          clear SY SN TY TN hp
          go_wp2_with (at_builtin; refine isAppI _ _ rfl ?_; refine wpGroY rfl _ _ rfl (w0 := wr) (y := -1) hO.out rfl rfl (by first | rfl | simp [Act.eval]) hRL hGw ?_; intro g5 c5 w5 O5 b5 f5; have HO5 := Lib.hid O5; have HB5 := Lib.hid b5; have HF5 := Lib.hid f5; clear O5 b5 f5)
          have B5 := Lib.hid (HB5.out.below hB.out hGw (fun a ha => (hO.out.lt a ha).1))
          have T5 := Lib.hid (hT.out.butA HB5.out hF.out)
          have F5 : Hid (∀ a b, (some (⟨g5, 0, none⟩ : Addr)) = some a → C = some b → a.block ≠ b.block) := fun a b ha hb => by
            injection ha with ha
            subst ha
            rcases HF5.out with ⟨z, e1, e2⟩ | h
            · have := hF.out z b e1 hb
              show g5 ≠ b.block
              omega
            · have := (hT.out.lt _ hb).2
              show g5 ≠ b.block
              omega
          go_roundw
          case rel => exact ⟨k + 1, _, C, c5, e, by go_num, by omega, by rw [S1.out, List.length_append]; rfl, by rw [S2.out], by rw [S1.out]; exact HO5, by rw [S2.out]; exact T5, F5, B5⟩
          case measure => simp [intOf]; omega
        · rw [hp] at hpc
          have S1 := Lib.hid (SY (by rw [hp, decide_eq_true hkx]; rfl))
          have S2 := Lib.hid (TY (by rw [hp, decide_eq_true hkx]; rfl))
          clear SY SN TY TN hp
          go_wp2_with (first
            | (at_builtin; refine isAppI _ _ rfl ?_; refine wpGroY rfl _ _ rfl (w0 := wr) (y := (k : Int)) hT.out rfl rfl (by first | rfl | simp [Act.eval]) hTL hGw ?_; intro g4 c4 w4 O4 b4 f4; have HO4 := Lib.hid O4; have HB4 := Lib.hid b4; have HF4 := Lib.hid f4; have B4 := Lib.hid (HB4.out.below hB.out hGw (fun a ha => (hT.out.lt a ha).1)); have A4 := Lib.hid (hO.out.butA HB4.out fun a b ha hb => (hF.out b a hb ha).symm); have hG4 : G ≤ w4.heap.size := Nat.le_trans hGw HB4.out.size; clear O4 b4 f4)
            | (at_builtin; refine isAppI _ _ rfl ?_; refine wpGroY rfl _ _ rfl (w0 := w4) (y := 0) A4.out rfl rfl (by first | rfl | simp [Act.eval]) hRL hG4 ?_; intro g5 c5 w5 O5 b5 f5; have HO5 := Lib.hid O5; have HB5 := Lib.hid b5; have HF5 := Lib.hid f5; clear O5 b5 f5))
          have F4 : Hid (∀ a b, A = some a → (some (⟨g4, 0, none⟩ : Addr)) = some b → a.block ≠ b.block) := fun a b ha hb => by
            injection hb with hb
            subst hb
            rcases HF4.out with ⟨z, e1, e2⟩ | h
            · have := hF.out a z ha e1
              show a.block ≠ g4
              omega
            · have := (hO.out.lt _ ha).2
              show a.block ≠ g4
              omega
          have B5 := Lib.hid (HB5.out.below B4.out hG4 (fun a ha => (A4.out.lt a ha).1))
          have T5 := Lib.hid (HO4.out.butA HB5.out F4.out)
          have F5 : Hid (∀ a b, (some (⟨g5, 0, none⟩ : Addr)) = some a → (some (⟨g4, 0, none⟩ : Addr)) = some b → a.block ≠ b.block) := fun a b ha hb => by
            injection ha with ha
            subst ha
            rcases HF5.out with ⟨z, e1, e2⟩ | h
            · have := F4.out z b e1 hb
              show g5 ≠ b.block
              omega
            · have := (HO4.out.lt _ hb).2
              show g5 ≠ b.block
              omega
          go_roundw
          case rel => exact ⟨k + 1, _, _, c5, c4, by go_num, by omega, by rw [S1.out, List.length_append]; rfl, by rw [S2.out, List.length_append]; rfl, by rw [S1.out]; exact HO5, by rw [S2.out]; exact T5, F5, B5⟩
          case measure => simp [intOf]; omega
      · have S1 := Lib.hid (SN (by rw [decide_eq_false hkx]; rfl))
        have S2 := Lib.hid (TN (by rw [decide_eq_false hkx]; rfl))
        clear SY SN TY TN hpc
        go_wp2_with (at_builtin; refine isAppI _ _ rfl ?_; refine wpGroY rfl _ _ rfl (w0 := wr) (y := -1) hO.out rfl rfl (by first | rfl | simp [Act.eval]) hRL hGw ?_; intro g5 c5 w5 O5 b5 f5; have HO5 := Lib.hid O5; have HB5 := Lib.hid b5; have HF5 := Lib.hid f5; clear O5 b5 f5)
        have B5 := Lib.hid (HB5.out.below hB.out hGw (fun a ha => (hO.out.lt a ha).1))
        have T5 := Lib.hid (hT.out.butA HB5.out hF.out)
        have F5 : Hid (∀ a b, (some (⟨g5, 0, none⟩ : Addr)) = some a → C = some b → a.block ≠ b.block) := fun a b ha hb => by
          injection ha with ha
          subst ha
          rcases HF5.out with ⟨z, e1, e2⟩ | h
          · have := hF.out z b e1 hb
            show g5 ≠ b.block
            omega
          · have := (hT.out.lt _ hb).2
            show g5 ≠ b.block
            omega
        go_roundw
        case rel => exact ⟨k + 1, _, C, c5, e, by go_num, by omega, by rw [S1.out, List.length_append]; rfl, by rw [S2.out], by rw [S1.out]; exact HO5, by rw [S2.out]; exact T5, F5, B5⟩
        case measure => simp [intOf]; omega
    · have ek : k = n := by omega
      subst ek
      have RW := hO.out.rowW
      rw [firB_len] at RW ⊢
      rw [HTI.out] at hT ⊢
      obtain ⟨ob, oo, rfl, hob1, hob2, _, _⟩ := RW.row (by omega)
      have R1 : Hid (RowW wr G wr.heap.size (some ⟨ob, oo, none⟩) k (iv (oM D (seqM (fun b => pB p k b.toNat) nb (topL (pB p k) x k) 0)))) := RW.ext fun j hj => by
        show Value.int .i64 (atI (firB p x k) j) = _
        rw [HFI.out j hj]; rfl
      have T1 : Hid (GroI wr G (seqM (fun b => pB p k b.toNat) nb (topL (pB p k) x k) 0) C e) := hT
      have hL0 : (topL (pB p k) x k).length = (seqM (fun b => pB p k b.toNat) nb (topL (pB p k) x k) 0).length := rfl
      have F1 : Hid (∀ a b, (some (⟨ob, oo, none⟩ : Addr)) = some a → C = some b → a.block ≠ b.block) := hF
      have HSQ : Hid (∀ m, ∃ L, L = seqM (fun b => pB p k b.toNat) nb (topL (pB p k) x k) m) := fun m => ⟨_, rfl⟩
      clear RW hO hT hF hTL hRL hlt hk HFI HTI v0 v1 v2
      rw [hL0]
      clear hL0
      generalize topL (pB p k) x k = L0 at *
      generalize hPQ : (fun b : Int => pB p k b.toNat) = q at *
      have HPQ : Hid (∀ s : Nat, s < k → q (s : Int) = p s) := fun s hs => by rw [← hPQ]; show pB p k ((s : Int)).toNat = _; rw [Int.toNat_natCast]; exact HPB.out s hs
      have HQP : Hid (∀ b : Int, q b = pB p k b.toNat) := fun b => by rw [← hPQ]
      clear hPQ HPB
      generalize seqM q nb L0 = SM at *
      go_wp2_with fail
      generalize hS0 : wr.heap.size = S0 at *
      have HGS := Lib.hid hGw
      clear hS0 hGw
      go_loopw [5, 8, 9] (fun l u i wr => ∃ (m : Nat) (C : Option Addr) (e : Nat), i = .int .i64 m ∧ m ≤ (SM m).length ∧ l = .slice C (SM m).length e ∧ u = .int .i64 (lastM D (SM m) m) ∧ Hid (RowW wr G S0 (some ⟨ob, oo, none⟩) k (iv (oM D (SM m)))) ∧ Hid (GroI wr G (SM m) C e) ∧ Hid (∀ a b, (some (⟨ob, oo, none⟩ : Addr)) = some a → C = some b → a.block ≠ b.block) ∧ Hid (Below G w wr)) (fun _ _ i _ => k - (intOf i).toNat)
      case atStart => exact ⟨0, _, _, rfl, Nat.zero_le _, rfl, rfl, R1, T1, F1, hB⟩
      case round =>
        clear R1 T1 F1 hB
        obtain ⟨m, C, e, rfl, hm, rfl, rfl, hR, hO, hF, hB⟩ := hrel
        obtain ⟨hvl, v0, v1, v2⟩ := HVV.out _ hB.out
        have hGw : G ≤ wr.heap.size := by rw [← HG.out]; exact hB.out.size
        have IV := Lib.hid (HIV.out m hm)
        have hLn := HLN.out m _ IV.out
        have HSN := Lib.hid (HVS.out m)
        have NXT := Lib.hid (HNX.out m _ IV.out)
        have SDE := Lib.hid (HSD.out m _ IV.out)
        have ENDS := Lib.hid (HEN.out m _ IV.out)
        have MX := Lib.hid (HMX.out m _ IV.out)
        have NLN := Lib.hid (HLN.out (m + 1))
        generalize hLL : SM m = L at *
        have HLL := Lib.hid hLL
        clear hLL
        by_cases hml : m < L.length
        · obtain ⟨z0, z1, z2⟩ := IV.out.inn _ (getD_mem hml)
          obtain ⟨cg, rfl⟩ := hO.out.adr hml
          have hcm := hO.out.at hml
          have hcl := (hO.out.lt _ rfl).2
          have HV := HSN.out hml
          have hlM : Hid (lastM D L (m + 1) = D (L.getD m 0).toNat) := rfl
          have NX := Lib.hid (NXT.out hml)
          have SD := Lib.hid (SDE.out hml)
          have hdz := HHI.out (L.getD m 0).toNat
          have hoz := oM_in (D := D) (L := L) (i := (L.getD m 0).toNat) (by rw [Int.toNat_of_nonneg z0]; exact getD_mem hml)
          rw [atI_getD] at hcm
          obtain ⟨zn, hzn⟩ : ∃ zn : Nat, L.getD m 0 = (zn : Int) := ⟨(L.getD m 0).toNat, by omega⟩
          have HGD := Lib.hid hzn
          rw [hzn] at z0 z1 z2 hcm HV hlM NX SD hdz hoz
          rw [Int.toNat_natCast] at z2 hlM hdz hoz
          have HSDN : Hid (∀ b, b ∈ nb (zn : Int) → q b = true → b ∉ L → D b.toNat = D zn + 1) := fun b h1 h2 h3 => by
            have := SD.out b h1 (by rw [← HQP.out b]; exact h2) h3
            rw [Int.toNat_natCast] at this
            exact this
          have HC := Lib.hid (HBE.out (zn : Int) z0 z1)
          have HSI := Lib.hid (HNB.out (zn : Int) z0 z1)
          have hl4 := HL4.out (zn : Int)
          have HVL : Hid (∀ j, (visG q L ((nb (zn : Int)).take j)).length ≤ 1048576) := fun j => by
            have h1 := vis_len_le q L (nb (zn : Int)) j
            have h2 := NLN.out _ NX.out
            omega
          obtain ⟨ob', oo', e2, ho1, ho2, hoc, hof⟩ := hR.out.row (by omega)
          injection e2 with e2
          injection e2 with e3 e4 _
          subst e3 e4
          have hco := hoc zn (by omega)
          unfold iv at hco
          rw [hoz] at hco
          clear HSN NXT SDE SD ENDS MX NLN hoc hof hoz IV
          generalize nb (zn : Int) = bs at *
          generalize hdd : D zn = dz at *
          have hzk : zn < k := by omega
          have K0 : Hid (Below wr.heap.size wr wr.drew) := (Below.refl _ _).drew
          go_wp2_with fail
          go_region_held3 (fun w' => w'.cell? ⟨v, 0, none⟩ = some (.int .i64 x) ∧ w'.cell? ⟨v, 1, none⟩ = some (.int .i64 y) ∧ w'.cell? ⟨cg, m, none⟩ = some (.int .i64 (zn : Int)) ∧ Hid (Below wr.heap.size wr w')) (first | (exact ⟨by assumption, by assumption, by assumption, by assumption⟩) | go_keep)
            (((go_at_call 87; refine (HC.out _).mono ?_; rintro e w8 ⟨X, cx, rfl, HO0, hb8⟩; have HO8 := Lib.hid (GroI.lowerB HO0.out (‹Hid (Below wr.heap.size wr _)›).out.size); obtain ⟨g0, g1, g2⟩ := keep3B hb8.out (‹Hid (Below wr.heap.size wr _)›).out hvl hcl (by assumption) (by assumption) (by assumption); have K8 := Lib.hid ((‹Hid (Below wr.heap.size wr _)›).out.trans (hb8.out.mono (‹Hid (Below wr.heap.size wr _)›).out.size)))))
          have hSw8 : S0 ≤ wr.heap.size := hR.out.le
          have HB8 : Hid (Below wr.heap.size wr w8) := (‹Hid (Below wr.heap.size wr w8)›).out
          have R8 := Lib.hid (hR.out.below HB8.out)
          have O8 := Lib.hid (hO.out.below HB8.out)
          have B8 := Lib.hid (hB.out.trans (HB8.out.mono hGw))
          have F8 : Hid (∀ a b, (some (⟨cg, 0, none⟩ : Addr)) = some a → X = some b → a.block ≠ b.block) := fun a b ha hb => by
            injection ha with ha
            subst ha
            have := (HO8.out.lt b hb).1
            show cg ≠ b.block
            have h2 : cg < wr.heap.size := hcl
            omega
          clear K0 K8 hb8 HO0 HC g0 g1 g2 v0 v1 v2 hcm hR hO hB HB8 hcl hvl hco
          have hSM1 : S0 ≤ wr.heap.size := hSw8
          generalize wr.heap.size = M1 at *
          go_wp2_with fail
          go_loopw [5, 74] (fun o u wr => ∃ (t : Nat) (C : Option Addr) (e : Nat), u = .int .i64 t ∧ t ≤ bs.length ∧ o = .slice C (visG q L (bs.take t)).length e ∧ Hid (RowW wr G S0 (some ⟨ob, oo, none⟩) k (iv (oM D (visG q L (bs.take t))))) ∧ Hid (GroI wr G (visG q L (bs.take t)) C e) ∧ Hid (GroI wr M1 bs X cx) ∧ Hid (∀ a b, C = some a → X = some b → a.block ≠ b.block) ∧ Hid (∀ a b, (some (⟨ob, oo, none⟩ : Addr)) = some a → C = some b → a.block ≠ b.block) ∧ Hid (Below G w wr)) (fun _ u _ => bs.length - (intOf u).toNat)
          case atStart => exact ⟨0, _, _, rfl, Nat.zero_le _, rfl, R8, O8, HO8, F8, hF, B8⟩
          case round =>
            clear R8 O8 HO8 F8 B8 hF
            obtain ⟨t, C, e, rfl, ht, rfl, hR, hO, hX, hF2, hF, hB⟩ := hrel
            by_cases htl : t < bs.length
            · obtain ⟨hvl, v0, v1, v2⟩ := HVV.out _ hB.out
              have hGw3 : G ≤ wr.heap.size := by rw [← HG.out]; exact hB.out.size
              obtain ⟨xg, rfl⟩ := hX.out.adr htl
              have hcx := hX.out.at htl
              obtain ⟨s0, s1⟩ := HSI.out t htl
              obtain ⟨s, hs⟩ : ∃ s : Nat, atI bs t = (s : Int) := ⟨(atI bs t).toNat, by omega⟩
              have HSH := Lib.hid hs
              rw [hs] at hcx s1
              have HST := Lib.hid (visG_take (q := q) (L := L) htl)
              have hbm : bs[t] = (s : Int) := by rw [← hs, atI_getD, List.getD_eq_getElem?_getD, List.getElem?_eq_getElem htl]; rfl
              have hsb : (s : Int) ∈ bs := by rw [← hbm]; exact List.getElem_mem htl
              rw [hbm] at HST
              have hsn : s < k := by omega
              have hps := HFC.out wr hB.out s hsn
              have hqs := HPQ.out s hsn
              have hLb := HVL.out t
              have HMM : Hid (∀ b : Int, b ∉ visG q L (bs.take t) → b ∉ L) := fun b h g => h (vis_mem.2 (.inl g))
              have HGE : Hid (∀ b : Int, b ∈ visG q L (bs.take t) → 0 ≤ D b.toNat) := fun b h => by
                refine (NX.out.inn b ?_).2.2
                rcases vis_mem.1 h with h1 | ⟨h1, h2⟩
                · exact vis_mem.2 (.inl h1)
                · exact vis_mem.2 (.inr ⟨List.mem_of_mem_take h1, h2⟩)
              have HDS := HSDN.out (s : Int) hsb
              rw [Int.toNat_natCast] at HDS
              obtain ⟨ob', oo', e2, ho1', ho2', hoc, hof⟩ := hR.out.row (by omega)
              injection e2 with e2
              injection e2 with e3 e4 _
              subst e3 e4
              have hc3 := hoc s hsn
              have hf3 := hof s hsn
              unfold iv at hc3
              clear hoc hof hbm hsb
              generalize visG q L (bs.take t) = L1 at *
              clear hs
              cases hp : p s
              · rw [hp] at hps hqs
                have S := Lib.hid (HST.out.trans (stepG_no (by rw [hqs]; rfl)))
                generalize oM D L1 s = num at *
                clear hqs HST HDS HMM HGE hf3 hp
                go_wp2_with fail
                go_quiet (fail)
                go_wp2_with fail
                go_roundw
                case rel => exact ⟨t + 1, C, e, by go_num, by omega, by rw [S.out], by rw [S.out]; exact hR.out.drewN, by rw [S.out]; exact hO.out.dn, hX.out.dn, hF2, hF, belowN hB.out⟩
                case measure => simp [intOf]; omega
              · rw [hp] at hps hqs
                by_cases hin : (s : Int) ∈ L1
                · have S := Lib.hid (HST.out.trans (stepG_no (by rw [List.contains_iff_mem.2 hin, Bool.not_true, Bool.and_false])))
                  have hge := HGE.out _ hin
                  rw [Int.toNat_natCast] at hge
                  rw [oM_in hin] at hc3
                  generalize D s = num at *
                  clear hqs HST HDS HMM HGE hf3 hp hin
                  go_wp2_with fail
                  go_quiet (fail)
                  go_wp2_with fail
                  go_roundw
                  case rel => exact ⟨t + 1, C, e, by go_num, by omega, by rw [S.out], by rw [S.out]; exact hR.out.drewN, by rw [S.out]; exact hO.out.dn, hX.out.dn, hF2, hF, belowN hB.out⟩
                  case measure => simp [intOf]; omega
                · have hcf : L1.contains (s : Int) = false := by
                    cases h : L1.contains (s : Int) with
                    | false => rfl
                    | true => exact absurd (List.contains_iff_mem.1 h) hin
                  have S := Lib.hid (HST.out.trans (stepG_yes (by rw [hqs, hcf]; rfl)))
                  have hDs := HDS hqs (HMM.out _ hin)
                  have HPT := Lib.hid (oM_put (L := L1) hDs)
                  rw [oM_out hin] at hc3
                  have hwr : IntKind.i64.wrap (dz + 1) = dz + 1 := IntWalk.i64_in _ (by omega)
                  clear hqs HST HDS HMM HGE hp hin hcf hDs
                  go_wp2_with fail
                  go_quiet (fail)
                  have R1 := Lib.hid (((hR.out.drewN (m := nq)).setW (k := s) (u := .int .i64 (dz + 1)) hsn).ext (U := iv (oM D (L1 ++ [(s : Int)]))) fun j _ => HPT.out j)
                  have hSA : ButA (some (⟨ob, oo, none⟩ : Addr)) (wr.drewN nq) ((wr.drewN nq).setCell ⟨ob, oo + s, none⟩ (.int .i64 (dz + 1))) := ButA.setCell (q := ⟨ob, oo + s, none⟩) (fun a ha => by injection ha with ha; rw [← ha]) (by simp) _
                  have O1 := Lib.hid ((GroI.dn (n := nq) hO.out).butA hSA hF.out)
                  have X1 := Lib.hid ((GroI.dn (n := nq) hX.out).butA hSA fun a z ha hz => by
                    injection ha with ha
                    subst ha
                    have := (hX.out.lt z hz).1
                    show ob ≠ z.block
                    omega)
                  have B1 := Lib.hid (Below.setCell (p := ⟨ob, oo + s, none⟩) (belowN (n := nq) hB.out) ho1 (.int .i64 (dz + 1)))
                  have hG1 : G ≤ ((wr.drewN nq).setCell ⟨ob, oo + s, none⟩ (.int .i64 (dz + 1))).heap.size := by
                    have h1 := hSA.size
                    have h2 : G ≤ (wr.drewN nq).heap.size := hGw3
                    omega
                  have hcx2 := X1.out.at htl
                  rw [HSH.out] at hcx2
                  clear hSA HPT hR hO hX hB
                  go_wp2_with (at_builtin; refine isAppI _ _ rfl ?_; refine wpGroY rfl _ _ rfl (w0 := (wr.drewN nq).setCell ⟨ob, oo + s, none⟩ (.int .i64 (dz + 1))) (y := (s : Int)) O1.out rfl rfl (by first | rfl | simp [Act.eval, World.setCell]) hLb hG1 ?_; intro g5 c5 w5 O5 b5 f5; have HO5 := Lib.hid O5; have HB5 := Lib.hid b5; have HF5 := Lib.hid f5; clear O5 b5 f5)
                  generalize (wr.drewN nq).setCell ⟨ob, oo + s, none⟩ (.int .i64 (dz + 1)) = w1 at *
                  have B5 := Lib.hid (HB5.out.below B1.out hG1 (fun a ha => (O1.out.lt a ha).1))
                  have R5 := Lib.hid (R1.out.butA HB5.out (fun a z ha hz => (hF.out z a hz ha).symm))
                  have X5 := Lib.hid (X1.out.butA HB5.out hF2.out)
                  have F5 : Hid (∀ a b, (some (⟨g5, 0, none⟩ : Addr)) = some a → (some (⟨xg, 0, none⟩ : Addr)) = some b → a.block ≠ b.block) := fun a z ha hz => by
                    injection ha with ha
                    subst ha
                    rcases HF5.out with ⟨b, e1, e2⟩ | h
                    · have := hF2.out b z e1 hz
                      show g5 ≠ z.block
                      omega
                    · have := (X1.out.lt _ hz).2
                      show g5 ≠ z.block
                      omega
                  have F6 : Hid (∀ a b, (some (⟨ob, oo, none⟩ : Addr)) = some a → (some (⟨g5, 0, none⟩ : Addr)) = some b → a.block ≠ b.block) := fun a z ha hz => by
                    injection hz with hz
                    subst hz
                    rcases HF5.out with ⟨b, e1, e2⟩ | h
                    · have := hF.out a b ha e1
                      show a.block ≠ g5
                      omega
                    · injection ha with ha
                      subst ha
                      have := R1.out.le
                      show ob ≠ g5
                      omega
                  clear HB5 HF5 R1 O1 X1 B1 hG1
                  go_roundw
                  case rel => exact ⟨t + 1, _, c5, by go_num, by omega, by rw [S.out, List.length_append]; rfl, by rw [S.out]; exact R5, by rw [S.out]; exact HO5, X5, F5, F6, B5⟩
                  case measure => simp [intOf]; omega
            · have et : t = bs.length := by omega
              subst et
              rw [List.take_length] at hR hO ⊢
              have E := Lib.hid HV
              have hml2 : m + 1 ≤ (visG q L bs).length := by
                obtain ⟨e9, h9⟩ := vis_pre q bs L
                rw [h9, List.length_append]; omega
              have hla : lastM D (visG q L bs) (m + 1) = dz := by
                obtain ⟨e9, h9⟩ := vis_pre q bs L
                show D ((visG q L bs).getD m 0).toNat = dz
                rw [h9, getD_pre hml, HGD.out, Int.toNat_natCast]; exact hdd
              go_wp2_with fail
              go_roundw
              case rel => exact ⟨m + 1, C, e, by go_num, by rw [E.out]; exact hml2, by rw [E.out], by rw [E.out, hla], by rw [E.out]; exact hR, by rw [E.out]; exact hO, hF, hB⟩
              case measure => simp [intOf]; omega
        · have hmL : Hid (m = L.length) := by show m = L.length; omega
          have R2 := Lib.hid (hR.out.ext (U := iv D) fun j _ => by unfold iv; rw [ENDS.out (by have := hmL.out; omega) j])
          have hmx := MX.out hmL.out
          go_wp2
          rw [hmx]
          go_ret2
          exact ⟨_, _, rfl, by rw [HG.out]; exact R2.out.upper R2.out.le (Nat.le_refl _), by rw [HG.out]; exact hB⟩

end Go.Proofs.Yteojpmnnpinpeaa
