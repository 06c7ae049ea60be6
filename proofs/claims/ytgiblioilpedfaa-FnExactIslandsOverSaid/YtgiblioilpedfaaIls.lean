/-
  What is proved here: IslandsOver, of the reference, as a walk; both contracts. Conditions: at most 1048576 heights.
-/
import Derived.Test.YtgiblioilpedfaaIli
import Derived.Test.YtgiblioilpedfaaBes
import Derived.Deep.RegionHeld3
namespace Go.Proofs.Ytgiblioilpedfaa
open Flt Go.RowKit
set_option linter.unusedVariables false

theorem specMax (a b : Int) (w : World) : Calls Try.prog 64 #[.int .i64 a, .int .i64 b] w fun e w' => e = .returned (.int .i64 (max a b)) ∧ w = w' := by
  by_cases h : a ≤ b
  · have N : Hid (max a b = b) := Int.max_eq_right h
    go_enter Try.func64, Try.ntmps64
    go_wp2
    go_ret
    exact ⟨by rw [N.out]; first | rfl | simp, rfl⟩
  · have N : Hid (max a b = a) := Int.max_eq_left (by omega)
    go_enter Try.func64, Try.ntmps64
    go_wp2
    go_ret
    exact ⟨by rw [N.out]; first | rfl | simp, rfl⟩
theorem Fk.RowM.butA {w w' : World} {g n : Nat} {V : Nat → Value} {A : Option Addr} (r : Fk.RowM w g n V) (hb : Fk.ButA A w w') (hd : ∀ a, A = some a → a.block ≠ g) : Fk.RowM w' g n V := by
  have e : w'.heap[g]? = w.heap[g]? := hb.block g r.lt hd
  exact ⟨Nat.lt_of_lt_of_le r.lt hb.size, fun j hj => by rw [World.cell?_of_block (w := w) e]; exact r.cell j hj, fun j hj => by rw [World.frozen?_of_block (w := w) e]; exact r.free j hj⟩
theorem cnI_yes {q pq a b : Bool} (h1 : q = (pq && !a)) (hp : pq = true) (h2 : (a || b) = false) : (q && !b) = true := by
  subst h1 hp
  cases a <;> cases b <;> simp_all
theorem cnI_no {q pq a b : Bool} (h1 : q = (pq && !a)) (h2 : (a || b) = true) : (q && !b) = false := by
  subst h1
  cases a <;> cases b <;> simp_all
theorem cnI_no2 {q pq a b : Bool} (h1 : q = (pq && !a)) (hp : pq = false) : (q && !b) = false := by
  subst h1 hp; rfl

theorem Fk.bo_put (Gs : List (List Int)) (L : List Int) (s : Nat) : ∀ j, Fk.put (Fk.bo fun j : Nat => inGs (Gs ++ [L]) j) s (.bool true) j = Fk.bo (fun j : Nat => inGs (Gs ++ [L ++ [(s : Int)]]) j) j := fun j => by
  unfold Fk.put Fk.bo
  dsimp only
  rw [inGs_put]
  by_cases e : j = s
  · rw [if_pos e, if_pos e]
  · rw [if_neg e, if_neg e]
theorem Fk.bo_start (Gs : List (List Int)) (s : Nat) : ∀ j, Fk.put (Fk.bo fun j : Nat => inGs Gs j) s (.bool true) j = Fk.bo (fun j : Nat => inGs (Gs ++ [[(s : Int)]]) j) j := fun j => by
  have := Fk.bo_put Gs [] s j
  rw [List.nil_append] at this
  rw [← this]
  unfold Fk.put Fk.bo
  simp only [inGs_none]

theorem specIslNo (x y : Int) (lv : Nat) (A : Option Addr) (c : Nat) (zs : List Nat) (w : World) (hr : RowF w w.heap.size A zs) (hn : zs.length ≤ 1048576) (hno : ilB x y zs lv = false) :
    Calls Try.prog 16 #[.agg #[.int .i64 x, .int .i64 y, .slice A zs.length c], .float .f32 lv] w (IlPost x y zs lv w) := by
  have B0 : Below w.heap.size w (w.alloc (.cells #[.int .i64 x, .int .i64 y, .slice A zs.length c] 29)) := (Below.refl _ _).alloc (Nat.le_refl _) _
  have HV := Lib.hid (varT_new w x y A zs.length c 29)
  have HC := Lib.hid (specIs w.heap.size x y A c zs _ HV.out (hr.carry B0) hn)
  have HB := Lib.hid B0
  have N := Lib.hid hno
  clear hr B0
  cases h : shB x y zs
  · rw [h] at HC
    clear h hno
    go_enter Try.func16, Try.ntmps16
    go_wp2_with fail
    refine HC.out.mono ?_
    rintro e w' ⟨rfl, n, rfl⟩
    clear HC
    go_wp2_with fail
    go_ret3
    exact ilpost_no N.out (belowN HB.out)
  · have h2 : finB .f32 lv = false := by unfold ilB at hno; rw [h] at hno; exact hno
    have H2 := Lib.hid h2
    rw [h] at HC
    clear h h2 hno
    go_enter Try.func16, Try.ntmps16
    go_wp2_with fail
    refine HC.out.mono ?_
    rintro e w' ⟨rfl, n, rfl⟩
    clear HC
    go_wp2_with (go_at_call 62; refine (specFin _ _).mono ?_; rintro e w' ⟨rfl, n2, rfl⟩; rw [H2.out])
    go_ret3
    exact ilpost_no N.out (belowN HB.out)

set_option maxHeartbeats 16000000 in
set_option maxRecDepth 1000000 in
theorem specIslYes (x y : Int) (lv : Nat) (A : Option Addr) (c : Nat) (zs : List Nat) (w : World) (hr : RowF w w.heap.size A zs) (hn : zs.length ≤ 1048576) (hyes : ilB x y zs lv = true) :
    Calls Try.prog 16 #[.agg #[.int .i64 x, .int .i64 y, .slice A zs.length c], .float .f32 lv] w (IlPost x y zs lv w) := by
  have B0 : Below w.heap.size w (w.alloc (.cells #[.int .i64 x, .int .i64 y, .slice A zs.length c] 29)) := (Below.refl _ _).alloc (Nat.le_refl _) _
  have V0 := varT_new w x y A zs.length c 29
  have HC := Lib.hid (specIs w.heap.size x y A c zs _ V0 (hr.carry B0) hn)
  have HB := Lib.hid B0
  have HV := Lib.hid V0
  have N := Lib.hid hyes
  have NY := Lib.hid (il_yes hyes)
  have hyes2 := hyes
  unfold ilB at hyes2
  rw [Bool.and_eq_true] at hyes2
  have H2 := Lib.hid hyes2.2
  obtain ⟨hsd, ⟨hx1, hx2⟩, ⟨hy1, hy2⟩, hnn, hn289, hn1⟩ := shB_xyI hyes2.1
  have HOK := Lib.hid (Fk.nb_ok hx1 hnn)
  have HSD := Lib.hid hsd
  have HNN := Lib.hid hnn
  have HR := Lib.hid (hr.carry B0)
  rw [hyes2.1] at HC
  have hwl : w.heap.size < (w.alloc (.cells #[.int .i64 x, .int .i64 y, .slice A zs.length c] 29)).heap.size := V0.lt
  clear hr B0 hyes hyes2 hsd hnn V0
  have HNB : Hid (∀ i, 0 ≤ i → i < (zs.length : Int) → ∀ j, j < (Fk.sidL x y i).length → 0 ≤ atI (Fk.sidL x y i) j ∧ atI (Fk.sidL x y i) j < zs.length) := fun i h0 h1 j hj => HOK.out.inn i h0 h1 _ (getD_mem hj)
  have HL4 : Hid (∀ i, (Fk.sidL x y i).length ≤ 4) := fun i => Fk.sidL_len x y i
  have HLE : Hid (∀ (q : Int → Bool) (a : Nat), a < zs.length → ∀ k, (seqG q (Fk.sidL x y) a k).length ≤ zs.length) := fun q a ha k => seq_le HOK.out (by omega) (by omega) k
  have HIN : Hid (∀ (q : Int → Bool) (a : Nat), a < zs.length → ∀ k, ∀ z ∈ seqG q (Fk.sidL x y) a k, 0 ≤ z ∧ z < zs.length) := fun q a ha k => seq_in HOK.out (by omega) (by omega) k
  have HNO : Hid (∀ k : Nat, (pqI zs lv k && !inGs (gsI zs lv x y k) k) = false → gsI zs lv x y (k + 1) = gsI zs lv x y k) := fun k h => grs_no h
  have HYE : Hid (∀ k : Nat, (pqI zs lv k && !inGs (gsI zs lv x y k) k) = true → gsI zs lv x y (k + 1) = gsI zs lv x y k ++ [grpG (pqI zs lv) (Fk.sidL x y) zs.length k]) := fun k h => grs_yes h
  have HSM : Hid (∀ k : Nat, k < zs.length → pqI zs lv k = true → inGs (gsI zs lv x y k) k = false → ∀ m, seqG (qsI zs lv x y k) (Fk.sidL x y) k m = seqG (pqI zs lv) (Fk.sidL x y) k m) := fun k hk h1 h2 m => (seq_same HOK.out hk h1 h2 m).1
  have HGR : Hid (∀ (k m : Nat), m ≤ zs.length → ¬ m < (seqG (pqI zs lv) (Fk.sidL x y) k m).length → grpG (pqI zs lv) (Fk.sidL x y) zs.length k = seqG (pqI zs lv) (Fk.sidL x y) k m) := fun k m hm h => grp_is hm h
  have HGL : Hid (∀ k, (gsI zs lv x y k).length ≤ k) := fun k => grs_len _ _ _ k
  have HMX : Hid (∀ k, k ≤ zs.length → mxL (gsI zs lv x y k) ≤ zs.length) := fun k hk => mxL_le _ _ rfl fun G hG => by
    obtain ⟨j, hj, e, _⟩ := grs_mem hG
    rw [e]
    exact seq_le HOK.out (Int.natCast_nonneg j) (by omega) _
  have HQS : Hid (∀ (k : Nat) (b : Int), qsI zs lv x y k b = (pqI zs lv b && !inGs (gsI zs lv x y k) b)) := fun k b => rfl
  have HGS0 : Hid (gsI zs lv x y 0 = []) := rfl
  have HBE : Hid (∀ i, 0 ≤ i → i < (zs.length : Int) → ∀ W : World, VarT W w.heap.size x y A zs.length c → Calls Try.prog 63 #[.pointer (some ⟨w.heap.size, 0, none⟩), .int .i64 i] W fun e w' => ∃ B d, e = .returned (.slice B (Fk.sidL x y i).length d) ∧ Hid (Fk.GroI w' W.heap.size (Fk.sidL x y i) B d) ∧ Hid (Below W.heap.size W w')) := fun i h0 h1 W hV => specBes w.heap.size x y i A zs.length c W hV HSD.out h0 (by have := HNN.out; omega)
  have hmk := Fk.run_mkB zs.length (by omega)
  generalize gsI zs lv x y = gs at *
  generalize qsI zs lv x y = qs at *
  generalize hnb : Fk.sidL x y = nb at *
  clear hnb HSD HNN
  go_enter Try.func16, Try.ntmps16
  go_wp2_with fail
  refine HC.out.mono ?_
  rintro e w' ⟨rfl, n, rfl⟩
  have c2 := HV.out.c2
  clear HC
  go_wp2_with (go_at_call 62; refine (specFin _ _).mono ?_; rintro e w' ⟨rfl, n2, rfl⟩; rw [H2.out])
  have WS : Hid ((w.alloc (.cells #[.int .i64 x, .int .i64 y, .slice A zs.length c] 29)).heap.size = w.heap.size + 1) := by show _ = _; simp
  obtain ⟨fb, fo, rfl, hfb, hfc⟩ := HR.out (by omega)
  have V1 := HV.out
  have R0 := Lib.hid ((Fk.rowM_new ((w.alloc (.cells #[.int .i64 x, .int .i64 y, .slice (some ⟨fb, fo, none⟩) zs.length c] 29)).drewN (n + n2)) zs.length (.bool false) 4).ext (U := Fk.bo fun j : Nat => inGs (gs 0) j) fun j _ => by rw [HGS0.out]; rfl)
  clear c2 hmk HV HR hwl
  generalize hwa : w.alloc (.cells #[.int .i64 x, .int .i64 y, .slice (some ⟨fb, fo, none⟩) zs.length c] 29) = wa at *
  have B0 : Hid (Below (w.heap.size + 1) wa ((wa.drewN (n + n2)).alloc (.cells (madeCells #[.bool false] zs.length) 4))) := (belowN (n := n + n2) (Below.refl _ _)).alloc (by show w.heap.size + 1 ≤ wa.heap.size; rw [WS.out]; exact Nat.le_refl _) _
  have HVV : Hid (∀ wr, Below (w.heap.size + 1) wa wr → VarT wr w.heap.size x y (some ⟨fb, fo, none⟩) zs.length c) := fun wr h => by
    have hl : w.heap.size < w.heap.size + 1 := Nat.lt_succ_self _
    exact ⟨Nat.lt_of_lt_of_le V1.lt h.size, by rw [h.cell (p := ⟨w.heap.size, 0, none⟩) hl]; exact V1.c0, by rw [h.cell (p := ⟨w.heap.size, 1, none⟩) hl]; exact V1.c1, by rw [h.cell (p := ⟨w.heap.size, 2, none⟩) hl]; exact V1.c2⟩
  have HFC : Hid (∀ wr, Below (w.heap.size + 1) wa wr → ∀ j, j < zs.length → wr.cell? ⟨fb, fo + j, none⟩ = some (.float .f32 (at0 zs j))) := fun wr h j hj => by
    have hl : fb < w.heap.size + 1 := by rw [← WS.out]; exact hfb
    rw [h.cell (p := ⟨fb, fo + j, none⟩) hl]; exact hfc j hj
  have R0 : Hid (Fk.RowM ((wa.drewN (n + n2)).alloc (.cells (madeCells #[.bool false] zs.length) 4)) (w.heap.size + 1) zs.length (Fk.bo fun j : Nat => inGs (gs 0) j)) := by rw [← WS.out]; exact R0
  have hwn : (wa.drewN (n + n2)).heap.size = w.heap.size + 1 := WS.out
  clear V1 hfc hfb hwa hwn
  generalize (wa.drewN (n + n2)).alloc (.cells (madeCells #[.bool false] zs.length) 4) = W0 at *
  generalize hG : w.heap.size = G at *
  have HG := Lib.hid hG
  clear hG
  generalize hk : zs.length = k at *
  have HK := Lib.hid hk
  clear hk
  go_loopw [8, 9, 29] (fun c1 c2 i wr => ∃ (m : Nat), i = .int .i64 m ∧ m ≤ k ∧ c1 = .int .i64 ((gs m).length : Nat) ∧ c2 = .int .i64 (mxL (gs m) : Nat) ∧ Hid (Fk.RowM wr (G + 1) k (Fk.bo fun j : Nat => inGs (gs m) j)) ∧ Hid (Below (G + 1) wa wr)) (fun _ _ i _ => k - (intOf i).toNat)
  case atStart => exact ⟨0, rfl, Nat.zero_le _, by rw [HGS0.out]; rfl, by rw [HGS0.out]; rfl, R0, B0⟩
  case round =>
    clear R0 B0
    obtain ⟨i, rfl, hi, rfl, rfl, hR, hB⟩ := hrel
    have V := HVV.out _ hB.out
    have v2 := V.c2
    have hvl := V.lt
    have hGL := HGL.out i
    have hMX := HMX.out i hi
    by_cases hik : i < k
    · have hc1 := hR.out.cell i hik
      have hf1 := hR.out.free i hik
      unfold Fk.bo at hc1
      dsimp only at hc1
      have hpc := HFC.out wr hB.out i hik
      have hpq := pqI_nat zs lv i
      unfold ovB at hpq
      have HN := Lib.hid (HNO.out i)
      have HY := Lib.hid (HYE.out i)
      have hGw : G + 1 < wr.heap.size := hR.out.lt
      generalize hGS : gs i = Gs at *
      have HGSi := Lib.hid hGS
      have HST := Lib.hid (Fk.bo_start Gs i)
      clear hGS V
      cases hin : inGs Gs (i : Int)
      · rw [hin] at hc1
        cases hov : (FloatKind.f32.format.order (at0 zs i) lv == some .gt)
        · rw [hov] at hpq
          have S := Lib.hid (HN.out (by rw [hpq]; rfl))
          clear HN HY HST hpq hf1 hin
          go_wp2_with fail
          go_roundw
          case rel => exact ⟨i + 1, by go_num, by omega, by rw [S.out], by rw [S.out], by rw [S.out]; exact hR, hB⟩
          case measure => simp [intOf]; omega
        · rw [hov] at hpq
          have S := Lib.hid (HY.out (by rw [hpq, hin]; rfl))
          have SM := Lib.hid (HSM.out i hik hpq (by rw [HGSi.out]; exact hin))
          have QE : Hid (∀ b : Int, qs i b = (pqI zs lv b && !inGs Gs b)) := fun b => by rw [HQS.out i b, HGSi.out]
          have LE := Lib.hid (HLE.out (qs i) i hik)
          have IN := Lib.hid (HIN.out (qs i) i hik)
          have VS := Lib.hid (fun m => seqG_yes (q := qs i) (nb := nb) (a := (i : Int)) (k := m))
          have GR := Lib.hid (HGR.out i)
          have R1 := Lib.hid ((hR.out.set (k := i) (u := .bool true) hik).ext (U := Fk.bo fun j : Nat => inGs (Gs ++ [[(i : Int)]]) j) fun j _ => HST.out j)
          have B1 := Lib.hid (Below.setCell (p := ⟨G + 1, i, none⟩) hB.out (Nat.le_refl _) (.bool true))
          have hsz1 : (wr.setCell ⟨G + 1, i, none⟩ (.bool true)).heap.size = wr.heap.size := by simp [World.setCell]
          clear HN HY HST hpq hin hR hB
          go_wp2_with fail
          have hbl := below_oneI (G := (wr.setCell ⟨G + 1, i, none⟩ (.bool true)).heap.size) (wr.setCell ⟨G + 1, i, none⟩ (.bool true)) (.cells #[.int .i64 (i : Int)] 2) (Nat.le_refl _)
          have R2 := Lib.hid (R1.out.below hbl)
          have B2 := Lib.hid (B1.out.trans (hbl.mono (by rw [hsz1]; omega)))
          have O2 := Lib.hid (Fk.GroI.lit1 (wr.setCell ⟨G + 1, i, none⟩ (.bool true)) (Nat.le_refl _) (i : Int))
          rw [hsz1] at O2
          clear hbl R1 B1 hc1 hf1 hsz1
          generalize (wr.setCell ⟨G + 1, i, none⟩ (.bool true)).alloc (.cells #[.int .i64 (i : Int)] 2) = W2 at *
          have hGM : G + 1 < wr.heap.size := hGw
          generalize wr.heap.size = M0 at *
          go_loopw [11, 12] (fun o q wr => ∃ (m : Nat) (C : Option Addr) (e : Nat), q = .int .i64 m ∧ m ≤ k ∧ o = .slice C (seqG (qs i) nb i m).length e ∧ Hid (Fk.RowM wr (G + 1) k (Fk.bo fun j : Nat => inGs (Gs ++ [seqG (qs i) nb i m]) j)) ∧ Hid (Fk.GroI wr M0 (seqG (qs i) nb i m) C e) ∧ Hid (Below (G + 1) wa wr)) (fun _ q _ => k - (intOf q).toNat)
          case atStart => exact ⟨0, _, _, rfl, Nat.zero_le _, rfl, R2, O2, B2⟩
          case round =>
            clear R2 O2 B2 v2 hvl hpc
            obtain ⟨m, C, e, rfl, hm, rfl, hR, hO, hB⟩ := hrel
            have hLn := LE.out m
            have HSN := Lib.hid (VS.out m)
            have INm := fun (h : m < (seqG (qs i) nb i m).length) => IN.out m _ (getD_mem h)
            have SMm := SM.out m
            generalize hLL : seqG (qs i) nb i m = L at *
            clear hLL
            by_cases hml : m < L.length
            · obtain ⟨z0, z1⟩ := INm hml
              obtain ⟨cg, rfl⟩ := hO.out.adr hml
              have hcm := hO.out.at hml
              have hcl := (hO.out.lt _ rfl).2
              have hM01 : M0 ≤ wr.heap.size := by have h1 := hO.out.lt _ rfl; exact Nat.le_of_lt (Nat.lt_of_le_of_lt h1.1 h1.2)
              have HV := HSN.out hml
              rw [Fk.atI_getD] at hcm
              generalize L.getD m 0 = z at *
              have VV := HVV.out _ hB.out
              have HC := Lib.hid (HBE.out z z0 z1 _ VV)
              have HSI := Lib.hid (HNB.out z z0 z1)
              have hl4 := HL4.out z
              have HVL : Hid (∀ j, (visG (qs i) L ((nb z).take j)).length ≤ 1048576) := fun j => by
                have h1 := Fk.vis_len_le (qs i) L (nb z) j
                have h2 := LE.out (m + 1)
                rw [HV] at h2
                omega
              have HVV2 := Lib.hid HV
              clear HV HSN INm SMm VV
              generalize nb z = bs at *
              go_wp2_with (go_at_call 63; refine HC.out.mono ?_; rintro e w8 ⟨X, cx, rfl, HO8, hb8⟩)
              have R8 := Lib.hid (hR.out.below hb8.out)
              have O8 := Lib.hid (hO.out.below hb8.out)
              have B8 := Lib.hid (hB.out.trans (hb8.out.mono (by omega)))
              have F8 : Hid (∀ a b, (some (⟨cg, 0, none⟩ : Addr)) = some a → X = some b → a.block ≠ b.block) := fun a b ha hb => by
                injection ha with ha
                subst ha
                have := (HO8.out.lt b hb).1
                show cg ≠ b.block
                have h2 : cg < wr.heap.size := hcl
                omega
              clear hb8 HC hcm hR hO hB hcl
              generalize wr.heap.size = M1 at *
              go_wp2_with fail
              go_loopw [11, 64] (fun o q wr => ∃ (t : Nat) (C : Option Addr) (e : Nat), q = .int .i64 t ∧ t ≤ bs.length ∧ o = .slice C (visG (qs i) L (bs.take t)).length e ∧ Hid (Fk.RowM wr (G + 1) k (Fk.bo fun j : Nat => inGs (Gs ++ [visG (qs i) L (bs.take t)]) j)) ∧ Hid (Fk.GroI wr M0 (visG (qs i) L (bs.take t)) C e) ∧ Hid (Fk.GroI wr M1 bs X cx) ∧ Hid (∀ a b, C = some a → X = some b → a.block ≠ b.block) ∧ Hid (Below (G + 1) wa wr)) (fun _ q _ => bs.length - (intOf q).toNat)
              case atStart => exact ⟨0, _, _, rfl, Nat.zero_le _, rfl, R8, O8, HO8, F8, B8⟩
              case round =>
                clear R8 O8 HO8 F8 B8
                obtain ⟨t, C, e, rfl, ht, rfl, hR, hO, hX, hF, hB⟩ := hrel
                by_cases htl : t < bs.length
                · have V := HVV.out _ hB.out
                  have v2 := V.c2
                  have hvl := V.lt
                  obtain ⟨xg, rfl⟩ := hX.out.adr htl
                  have hcx := hX.out.at htl
                  have hM0w : M0 ≤ wr.heap.size := by have h1 := hX.out.lt _ rfl; exact Nat.le_trans hM01 (Nat.le_of_lt (Nat.lt_of_le_of_lt h1.1 h1.2))
                  obtain ⟨s0, s1⟩ := HSI.out t htl
                  obtain ⟨s, hs⟩ : ∃ s : Nat, atI bs t = (s : Int) := ⟨(atI bs t).toNat, by omega⟩
                  have HSH := Lib.hid hs
                  rw [hs] at hcx s1
                  have HST := Lib.hid (visG_take (q := qs i) (L := L) htl)
                  have hbm : bs[t] = (s : Int) := by rw [← hs, Fk.atI_getD, List.getD_eq_getElem?_getD, List.getElem?_eq_getElem htl]; rfl
                  rw [hbm] at HST
                  have hsn : s < k := by omega
                  have hps := HFC.out wr hB.out s hsn
                  have hLb := HVL.out t
                  generalize visG (qs i) L (bs.take t) = L1 at *
                  have QS := QE.out (s : Int)
                  have hpq := pqI_nat zs lv s
                  unfold ovB at hpq
                  have N2 := inGs_snoc Gs L1 (s : Int)
                  have hc3 := hR.out.cell s hsn
                  have hf3 := hR.out.free s hsn
                  unfold Fk.bo at hc3
                  dsimp only at hc3
                  have HPT := Lib.hid (Fk.bo_put Gs L1 s)
                  clear hs hbm s0 V
                  cases hin : inGs (Gs ++ [L1]) (s : Int)
                  · rw [hin] at hc3 N2
                    cases hov : (FloatKind.f32.format.order (at0 zs s) lv == some .gt)
                    · rw [hov] at hpq
                      have S := Lib.hid (HST.out.trans (stepG_no (cnI_no2 QS hpq)))
                      clear QS N2 HST HPT hf3 hin hpq
                      go_wp2_with fail
                      go_quiet (fail)
                      go_wp2_with fail
                      go_roundw
                      case rel => exact ⟨t + 1, C, e, by go_num, by omega, by rw [S.out], by rw [S.out]; exact hR.out.drewN, by rw [S.out]; exact hO.out.dn, hX.out.dn, hF, belowN hB.out⟩
                      case measure => simp [intOf]; omega
                    · rw [hov] at hpq
                      have S := Lib.hid (HST.out.trans (stepG_yes (cnI_yes QS hpq N2.symm)))
                      clear QS N2 HST hin hpq
                      go_wp2_with fail
                      go_quiet (fail)
                      have R1 := Lib.hid (((hR.out.drewN (m := nq)).set (k := s) (u := .bool true) hsn).ext (U := Fk.bo fun j : Nat => inGs (Gs ++ [L1 ++ [(s : Int)]]) j) fun j _ => HPT.out j)
                      have hSA : Fk.ButA (some (⟨G + 1, 0, none⟩ : Addr)) (wr.drewN nq) ((wr.drewN nq).setCell ⟨G + 1, s, none⟩ (.bool true)) := Fk.ButA.setCell (q := ⟨G + 1, s, none⟩) (fun a ha => by injection ha with ha; rw [← ha]) (by simp) _
                      have hob : ∀ a z, (some (⟨G + 1, 0, none⟩ : Addr)) = some a → M0 ≤ z.block → a.block ≠ Addr.block z := fun a z ha hz => by
                        injection ha with ha
                        subst ha
                        show G + 1 ≠ z.block
                        omega
                      have O1 := Lib.hid ((Fk.GroI.dn (n := nq) hO.out).butA hSA fun a z ha hz => hob a z ha (hO.out.lt z hz).1)
                      have X1 := Lib.hid ((Fk.GroI.dn (n := nq) hX.out).butA hSA fun a z ha hz => hob a z ha (Nat.le_trans hM01 (hX.out.lt z hz).1))
                      have B1 := Lib.hid (Below.setCell (p := ⟨G + 1, s, none⟩) (belowN (n := nq) hB.out) (Nat.le_refl _) (.bool true))
                      have hG1 : M0 ≤ ((wr.drewN nq).setCell ⟨G + 1, s, none⟩ (.bool true)).heap.size := by
                        have h1 := hSA.size
                        have h2 : M0 ≤ (wr.drewN nq).heap.size := hM0w
                        omega
                      have hcx2 := X1.out.at htl
                      rw [HSH.out] at hcx2
                      clear hSA hob HPT hR hO hX hB
                      go_wp2_with (at_builtin; refine Fk.isAppI _ _ rfl ?_; refine Fk.wpGroY rfl _ _ rfl (w0 := (wr.drewN nq).setCell ⟨G + 1, s, none⟩ (.bool true)) (y := (s : Int)) O1.out rfl rfl (by first | rfl | simp [Act.eval, World.setCell]) hLb hG1 ?_; intro g5 c5 w5 O5 b5 f5; have HO5 := Lib.hid O5; have HB5 := Lib.hid b5; have HF5 := Lib.hid f5; clear O5 b5 f5)
                      generalize (wr.drewN nq).setCell ⟨G + 1, s, none⟩ (.bool true) = w1 at *
                      have B5 := Lib.hid (HB5.out.below B1.out (Nat.le_trans (Nat.le_of_lt hGM) hG1) (fun a ha => Nat.le_trans (Nat.le_of_lt hGM) (O1.out.lt a ha).1))
                      have R5 := Lib.hid (R1.out.butA HB5.out (fun a ha => by
                        have := (O1.out.lt a ha).1
                        omega))
                      have X5 := Lib.hid (X1.out.butA HB5.out hF.out)
                      have F5 : Hid (∀ a b, (some (⟨g5, 0, none⟩ : Addr)) = some a → (some (⟨xg, 0, none⟩ : Addr)) = some b → a.block ≠ b.block) := fun a z ha hz => by
                        injection ha with ha
                        subst ha
                        rcases HF5.out with ⟨b, e1, e2⟩ | h
                        · have := hF.out b z e1 hz
                          show g5 ≠ z.block
                          omega
                        · have := (X1.out.lt _ hz).2
                          show g5 ≠ z.block
                          omega
                      clear HB5 HF5 R1 O1 X1 B1 hG1
                      go_roundw
                      case rel => exact ⟨t + 1, _, c5, by go_num, by omega, by rw [S.out, List.length_append]; rfl, by rw [S.out]; exact R5, by rw [S.out]; exact HO5, X5, F5, B5⟩
                      case measure => simp [intOf]; omega
                  · rw [hin] at hc3 N2
                    have S := Lib.hid (HST.out.trans (stepG_no (cnI_no QS N2.symm)))
                    clear QS N2 HST HPT hf3 hin hpq
                    go_wp2_with fail
                    go_quiet (fail)
                    go_wp2_with fail
                    go_roundw
                    case rel => exact ⟨t + 1, C, e, by go_num, by omega, by rw [S.out], by rw [S.out]; exact hR.out.drewN, by rw [S.out]; exact hO.out.dn, hX.out.dn, hF, belowN hB.out⟩
                    case measure => simp [intOf]; omega
                · have et : t = bs.length := by omega
                  have S2 : Hid (visG (qs i) L (bs.take t) = seqG (qs i) nb i (m + 1)) := by show _ = _; rw [et, List.take_length, HVV2.out]
                  clear et
                  go_wp2_with fail
                  go_roundw
                  case rel => exact ⟨m + 1, C, e, by go_num, by omega, by rw [S2.out], by rw [← S2.out]; exact hR, by rw [← S2.out]; exact hO, hB⟩
                  case measure => simp [intOf]; omega
            · have E := Lib.hid ((GR.out m hm (by rw [← SMm]; exact hml)).trans SMm.symm)
              have LN : Hid ((gs (i + 1)).length = Gs.length + 1) := by show _ = _; rw [S.out, List.length_append]; rfl
              have TM : Hid (max (mxL Gs : Int) (L.length : Int) = (mxL (gs (i + 1)) : Nat)) := by
                show _ = _
                rw [S.out, E.out, mxL_snoc]
                omega
              have hgl2 : Gs.length ≤ 289 := by omega
              clear HSN INm SMm
              generalize mxL Gs = mx at *
              generalize Gs.length = nG at *
              go_wp2_with (go_at_call 64; refine (specMax _ _ _).mono ?_; rintro e w' ⟨rfl, rfl⟩)
              go_roundw
              case rel => exact ⟨i + 1, by go_num, by omega, by rw [LN.out]; go_num, by rw [TM.out], by rw [S.out, E.out]; exact hR, hB⟩
              case measure => simp [intOf]; omega
      · rw [hin] at hc1
        have S := Lib.hid (HN.out (by rw [hin, Bool.not_true, Bool.and_false]))
        clear HN HY HST hpq hf1 hin
        go_wp2_with fail
        go_roundw
        case rel => exact ⟨i + 1, by go_num, by omega, by rw [S.out], by rw [S.out], by rw [S.out]; exact hR, hB⟩
        case measure => simp [intOf]; omega
    · have ei : i = k := by omega
      subst ei
      go_wp2_with fail
      go_ret3
      unfold IlPost
      rw [N.out, NY.out.1, NY.out.2]
      exact ⟨rfl, by rw [HG.out]; exact HB.out.trans (hB.out.mono (Nat.le_succ _))⟩

theorem specIsl (x y : Int) (lv : Nat) (A : Option Addr) (c : Nat) (zs : List Nat) (w : World) (hr : RowF w w.heap.size A zs) (hn : zs.length ≤ 1048576) :
    Calls Try.prog 16 #[.agg #[.int .i64 x, .int .i64 y, .slice A zs.length c], .float .f32 lv] w (IlPost x y zs lv w) := by
  cases h : ilB x y zs lv with
  | false => exact specIslNo x y lv A c zs w hr hn h
  | true => exact specIslYes x y lv A c zs w hr hn h
theorem islBoth (x y : Int) (lv : Nat) (zs : List Nat) : ∃ (N M : Int) (b : Bool),
    (∀ (W : World) (A : Option Addr) (c : Nat), zs.length ≤ 1048576 → RowF W W.heap.size A zs → Calls Try.prog 16 #[.agg #[.int .i64 x, .int .i64 y, .slice A zs.length c], .float .f32 lv] W fun e w' => e = .returned (.tuple #[.int .i64 N, .int .i64 M, .bool b]) ∧ Hid (Below W.heap.size W w')) ∧
    (∀ (W : World) (A : Option Addr) (c : Nat), zs.length ≤ 1048576 → RowF W W.heap.size A zs → Calls Try.prog 18 #[.agg #[.int .i64 x, .int .i64 y, .slice A zs.length c], .float .f32 lv] W fun e w' => e = .returned (.tuple #[.int .i64 N, .int .i64 M, .bool b]) ∧ Hid (Below W.heap.size W w')) :=
  ⟨_, _, _, fun W A c hn hr => specIsl x y lv A c zs W hr hn, fun W A c hn hr => implIsl x y lv A c zs W hr hn⟩

end Go.Proofs.Ytgiblioilpedfaa
