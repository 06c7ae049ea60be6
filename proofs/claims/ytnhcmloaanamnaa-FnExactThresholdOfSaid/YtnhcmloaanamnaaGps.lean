/-
  What is proved here: the groups of a field, as the reference finds them (l07Groups), as walks. Conditions: a valid field.
-/
import Derived.Test.YtnhcmloaanamnaaGpf
import Derived.Test.YtnhcmloaanamnaaGpv
import Derived.Deep.RegionHeld3
namespace Go.Proofs.Ytnhcmloaanamnaa
open Go.RowKit
set_option linter.unusedVariables false

/-- how large groups are -/
def szL (Gs : List (List Int)) : List Int := Gs.map fun L => (L.length : Int)
theorem szL_len (Gs : List (List Int)) : (szL Gs).length = Gs.length := by unfold szL; rw [List.length_map]
theorem szL_snoc (Gs : List (List Int)) (L : List Int) : szL (Gs ++ [L]) = szL Gs ++ [(L.length : Int)] := by unfold szL; rw [List.map_append]; rfl
theorem num_put (Gs : List (List Int)) (L : List Int) (s : Nat) : ∀ j, put (iv fun j : Nat => numG (Gs ++ [L]) j) s (.int .i64 (Gs.length : Int)) j = iv (fun j : Nat => numG (Gs ++ [L ++ [(s : Int)]]) j) j := fun j => by
  unfold put iv
  dsimp only
  by_cases e : j = s
  · subst e
    have hc : (L ++ [(j : Int)]).contains (j : Int) = true := List.contains_iff_mem.2 (List.mem_append.2 (.inr (List.mem_singleton.2 rfl)))
    rw [if_pos rfl, numG_snoc, if_pos hc]
  · have hc : (L ++ [(s : Int)]).contains (j : Int) = L.contains (j : Int) := by
      cases h : L.contains (j : Int) with
      | true => exact List.contains_iff_mem.2 (List.mem_append.2 (.inl (List.contains_iff_mem.1 h)))
      | false =>
        cases h2 : (L ++ [(s : Int)]).contains (j : Int) with
        | false => rfl
        | true =>
          rcases List.mem_append.1 (List.contains_iff_mem.1 h2) with h3 | h3
          · rw [List.contains_iff_mem.2 h3] at h; cases h
          · rw [List.mem_singleton] at h3; omega
    rw [if_neg e, numG_snoc, numG_snoc, hc]
theorem num_none (Gs : List (List Int)) (j : Nat) : numG (Gs ++ [[]]) j = numG Gs j := by
  rw [numG_snoc, if_neg (by simp)]
theorem num_start (Gs : List (List Int)) (s : Nat) : ∀ j, put (iv fun j : Nat => numG Gs j) s (.int .i64 (Gs.length : Int)) j = iv (fun j : Nat => numG (Gs ++ [[(s : Int)]]) j) j := fun j => by
  have := num_put Gs [] s j
  rw [List.nil_append] at this
  rw [← this]
  unfold put iv
  simp only [num_none]
theorem cnd_yes {q pq a b : Bool} (h1 : q = (pq && !a)) (hp : pq = true) (h2 : true = !(a || b)) : (q && !b) = true := by
  subst h1 hp
  cases a <;> cases b <;> simp_all
theorem cnd_no {q pq a b : Bool} (h1 : q = (pq && !a)) (h2 : false = !(a || b)) : (q && !b) = false := by
  subst h1
  cases a <;> cases b <;> simp_all
theorem keep3 {wr W w8 : World} {v cg m : Nat} {a b c : Value} (hb : Below W.heap.size W w8) (hW : Below wr.heap.size wr W) (hv : v < wr.heap.size) (hc : cg < wr.heap.size) (h1 : W.cell? ⟨v, 0, none⟩ = some a) (h2 : W.cell? ⟨v, 1, none⟩ = some b) (h3 : W.cell? ⟨cg, m, none⟩ = some c) : w8.cell? ⟨v, 0, none⟩ = some a ∧ w8.cell? ⟨v, 1, none⟩ = some b ∧ w8.cell? ⟨cg, m, none⟩ = some c := by
  have hv2 := Nat.lt_of_lt_of_le hv hW.size
  have hc2 := Nat.lt_of_lt_of_le hc hW.size
  rw [hb.cell (p := ⟨v, 0, none⟩) hv2, hb.cell (p := ⟨v, 1, none⟩) hv2, hb.cell (p := ⟨cg, m, none⟩) hc2]
  exact ⟨h1, h2, h3⟩
theorem World.below_one2 {G : Nat} (w : World) (o : Obj) (h : G ≤ w.heap.size) : Below G w (w.alloc o) := (Below.refl _ _).alloc h _
theorem GroI.base {w : World} {G c : Nat} {L : List Int} {A : Option Addr} (h : GroI w G L A c) : G ≤ w.heap.size ∨ A = none := by
  rcases h.cases with ⟨rfl, _, _⟩ | ⟨g, rfl⟩
  · exact .inr rfl
  · have := h.lt _ rfl; exact .inl (by omega)
theorem GroI.lower {w : World} {G G' c : Nat} {L : List Int} {A : Option Addr} (h : GroI w G L A c) (hG : G' ≤ G) : GroI w G' L A c :=
  ⟨h.1, h.2.elim .inl fun ⟨g, cap, cur, h1, h2, h3⟩ => .inr ⟨g, cap, cur, h1, Nat.le_trans hG h2, h3⟩⟩
theorem num_neg2 (Gs : List (List Int)) (L : List Int) (b : Int) : decide (numG (Gs ++ [L]) b < 0) = !(inGs Gs b || L.contains b) := by rw [numG_neg, inGs_snoc]

set_option maxHeartbeats 16000000 in
set_option maxRecDepth 1000000 in
theorem specGrpT (v : Nat) (x y : Int) (F : Option Addr) (n f : Nat) (p : Nat → Bool) (w : World) (hv : fvB x y n = true) (V : VarT w v x y F n f) (hr : RowV w w.heap.size F n (bo p)) :
    Calls Try.prog 91 #[.pointer (some ⟨v, 0, none⟩), .bool true] w fun e w' => ∃ A c B d m, e = .returned (.tuple #[.slice A n c, .slice B (szL (gsF p true x y n n)).length d]) ∧ Hid (w.heap.size ≤ m) ∧ Hid (RowW w' w.heap.size m A n (iv fun j => numG (gsF p true x y n n) j)) ∧ Hid (GroI w' m (szL (gsF p true x y n n)) B d) ∧ Hid (Below w.heap.size w w') := by
  obtain ⟨⟨⟨hx1, hx2⟩, hy⟩, hn, hn1, hn2⟩ := fvB_yes hv
  have hsd : sidB x y = true := by
    cases e : sidB x y with
    | true => rfl
    | false => rw [fvB_1 e] at hv; cases hv
  have HOK := Lib.hid (nb_ok hx1 hn)
  have HBE : Hid (∀ i, 0 ≤ i → i < (n : Int) → ∀ W : World, Calls Try.prog 114 #[.int .i64 x, .int .i64 y, .int .i64 i] W fun e w' => ∃ A c, e = .returned (.slice A (sidL x y i).length c) ∧ Hid (GroI w' W.heap.size (sidL x y i) A c) ∧ Hid (Below W.heap.size W w')) := fun i h0 h1 W => specBes x y i hsd h0 (by omega) W
  obtain ⟨fb, fo, rfl, hfb, hcell⟩ := hr (by omega)
  have HVV : Hid (∀ wr, Below w.heap.size w wr → v < wr.heap.size ∧ wr.cell? ⟨v, 0, none⟩ = some (.int .i64 x) ∧ wr.cell? ⟨v, 1, none⟩ = some (.int .i64 y) ∧ wr.cell? ⟨v, 2, none⟩ = some (.slice (some ⟨fb, fo, none⟩) n f)) := fun wr h => by
    rw [h.cell (p := ⟨v, 0, none⟩) V.lt, h.cell (p := ⟨v, 1, none⟩) V.lt, h.cell (p := ⟨v, 2, none⟩) V.lt]; exact ⟨Nat.lt_of_lt_of_le V.lt h.size, V.c0, V.c1, V.c2⟩
  have HFC : Hid (∀ wr, Below w.heap.size w wr → ∀ j, j < n → wr.cell? ⟨fb, fo + j, none⟩ = some (.bool (p j))) := fun wr h j hj => by rw [h.cell (p := ⟨fb, fo + j, none⟩) hfb]; exact hcell j hj
  have HNB : Hid (∀ i, 0 ≤ i → i < (n : Int) → ∀ j, j < (sidL x y i).length → 0 ≤ atI (sidL x y i) j ∧ atI (sidL x y i) j < n) := fun i h0 h1 j hj => HOK.out.inn i h0 h1 _ (getD_mem hj)
  have HL4 : Hid (∀ i, (sidL x y i).length ≤ 4) := fun i => sidL_len x y i
  have HLE : Hid (∀ (q : Int → Bool) (a : Nat), a < n → ∀ k, (seqG q (sidL x y) a k).length ≤ n) := fun q a ha k => seq_le HOK.out (by omega) (by omega) k
  have HIN : Hid (∀ (q : Int → Bool) (a : Nat), a < n → ∀ k, ∀ z ∈ seqG q (sidL x y) a k, 0 ≤ z ∧ z < n) := fun q a ha k => seq_in HOK.out (by omega) (by omega) k
  have HNO : Hid (∀ k : Nat, (pqF p true k && !inGs (gsF p true x y n k) k) = false → gsF p true x y n (k + 1) = gsF p true x y n k) := fun k h => grs_no h
  have HYE : Hid (∀ k : Nat, (pqF p true k && !inGs (gsF p true x y n k) k) = true → gsF p true x y n (k + 1) = gsF p true x y n k ++ [grpG (pqF p true) (sidL x y) n k]) := fun k h => grs_yes h
  have HSM : Hid (∀ k : Nat, k < n → pqF p true k = true → inGs (gsF p true x y n k) k = false → ∀ m, seqG (qsF p true x y n k) (sidL x y) k m = seqG (pqF p true) (sidL x y) k m) := fun k hk h1 h2 m => (seq_same HOK.out hk h1 h2 m).1
  have HGR : Hid (∀ (k m : Nat), m ≤ n → ¬ m < (seqG (pqF p true) (sidL x y) k m).length → grpG (pqF p true) (sidL x y) n k = seqG (pqF p true) (sidL x y) k m) := fun k m hm h => grp_is hm h
  have HGL : Hid (∀ k, (gsF p true x y n k).length ≤ k) := fun k => grs_len _ _ _ k
  have O0 : Hid (GroI (w.alloc (.cells #[] 2)) w.heap.size [] (some ⟨w.heap.size, 0, none⟩) 0) := GroI.lit w (Nat.le_refl _)
  have B0 : Hid (Below w.heap.size w (w.alloc (.cells #[] 2))) := (Below.refl _ _).alloc (Nat.le_refl _) _
  obtain ⟨_, v0, v1, v2⟩ := HVV.out _ B0.out
  clear hcell hr V hv hsd hx1 hx2 hy hn HOK hfb
  have HQS : Hid (∀ (k : Nat) (b : Int), qsF p true x y n k b = (pqF p true b && !inGs (gsF p true x y n k) b)) := fun k b => rfl
  have HGS0 : Hid (gsF p true x y n 0 = []) := rfl
  generalize gsF p true x y n = gs at *
  generalize qsF p true x y n = qs at *
  generalize hnb : sidL x y = nb at *
  clear hnb
  go_enter Try.func91, Try.ntmps91
  go_wp2_with fail
  generalize hG : w.heap.size = G at *
  have HG := Lib.hid hG
  clear hG v0 v1 v2
  -- no cell has a number yet
  go_loopw [6, 20] (fun o i wr => ∃ (k : Nat) (A : Option Addr) (c : Nat), i = .int .i64 k ∧ k ≤ n ∧ o = .slice A (List.replicate k (-1 : Int)).length c ∧ Hid (GroI wr G (List.replicate k (-1 : Int)) A c) ∧ Hid (Below G w wr)) (fun _ i _ => n - (intOf i).toNat)
  case atStart => exact ⟨0, _, _, rfl, Nat.zero_le _, rfl, O0, B0⟩
  case round =>
    clear O0 B0
    obtain ⟨k, A, c, rfl, hk, rfl, hO, hB⟩ := hrel
    have hGw : G ≤ wr.heap.size := by rw [← HG.out]; exact hB.out.size
    have hRL : (List.replicate k (-1 : Int)).length ≤ 1048576 := by rw [List.length_replicate]; omega
    by_cases hlt : k < n
    · have S : Hid (List.replicate (k + 1) (-1 : Int) = List.replicate k (-1) ++ [-1]) := List.replicate_succ'
      generalize List.replicate k (-1 : Int) = L at *
      go_wp2_with (at_builtin; refine isAppI _ _ rfl ?_; refine wpGroY rfl _ _ rfl (w0 := wr) (y := -1) hO.out rfl rfl (by first | rfl | simp [Act.eval]) hRL hGw ?_; intro g5 c5 w5 O5 b5 f5; have HO5 := Lib.hid O5; have HB5 := Lib.hid b5; clear O5 b5 f5)
      have B5 := Lib.hid (HB5.out.below hB.out hGw (fun a ha => (hO.out.lt a ha).1))
      go_roundw
      case rel => exact ⟨k + 1, _, c5, by go_num, by omega, by rw [S.out, List.length_append]; rfl, by rw [S.out]; exact HO5, B5⟩
      case measure => simp [intOf]; omega
    · have ek : k = n := by omega
      subst ek
      have RW := hO.out.rowW
      rw [List.length_replicate] at RW ⊢
      have R1 : Hid (RowW wr G wr.heap.size A k (iv fun j => numG (gs 0) j)) := RW.ext fun j hj => by
        unfold iv
        dsimp only
        rw [HGS0.out, numG_nil]
        simp [atI, List.getD, hj]
      have B1 := Lib.hid (hB.out.trans (World.below_one2 wr (.cells #[] 2) hGw))
      have R2 := Lib.hid (R1.out.below (World.below_one2 wr (.cells #[] 2) (Nat.le_refl _)))
      have Z2 : Hid (GroI (wr.alloc (.cells #[] 2)) wr.heap.size (szL (gs 0)) (some ⟨wr.heap.size, 0, none⟩) 0) := by rw [HGS0.out]; exact GroI.lit wr (Nat.le_refl _)
      have hZ0 : (szL (gs 0)).length = 0 := by rw [HGS0.out]; rfl
      obtain ⟨_, v0, v1, v2⟩ := HVV.out _ B1.out
      clear RW R1 hO hB
      go_wp2_with fail
      generalize hS0 : wr.heap.size = S0 at *
      have HGS := Lib.hid hGw
      clear hS0 v0 v1 v2 hGw hRL hlt hk
      go_loopw [7, 32] (fun o i wr => ∃ (m : Nat) (B : Option Addr) (d : Nat), i = .int .i64 m ∧ m ≤ k ∧ o = .slice B (szL (gs m)).length d ∧ Hid (RowW wr G S0 A k (iv fun j => numG (gs m) j)) ∧ Hid (GroI wr S0 (szL (gs m)) B d) ∧ Hid (Below G w wr)) (fun _ i _ => k - (intOf i).toNat)
      case atStart => exact ⟨0, _, 0, rfl, Nat.zero_le _, by rw [hZ0], R2, Z2, B1⟩
      case round =>
        clear R2 Z2 B1 hZ0
        obtain ⟨i, B, d, rfl, hi, rfl, hR, hZ, hB⟩ := hrel
        obtain ⟨hvl, v0, v1, v2⟩ := HVV.out _ hB.out
        have hGw : G ≤ wr.heap.size := by rw [← HG.out]; exact hB.out.size
        have hZL : (szL (gs i)).length ≤ 256 := by rw [szL_len]; have := HGL.out i; omega
        by_cases hik : i < k
        · obtain ⟨ob, oo, rfl, ho1, ho2, hoc, hof⟩ := hR.out.row (by omega)
          have hc1 := hoc i hik
          have hf1 := hof i hik
          unfold iv at hc1
          dsimp only at hc1
          have hpc := HFC.out wr hB.out i hik
          have hpq := pqF_nat p true i
          have NEG := numG_neg (i : Int) (gs i)
          have HN := Lib.hid (HNO.out i)
          have HY := Lib.hid (HYE.out i)
          have hno2 : ob < wr.heap.size := Nat.lt_of_lt_of_le ho2 hR.out.le
          have hS0w : S0 ≤ wr.heap.size := hR.out.le
          have HST := Lib.hid (num_start (gs i) i)
          generalize hGS : gs i = Gs at *
          have HGSi := Lib.hid hGS
          clear hGS hoc hof
          by_cases hneg : numG Gs (i : Int) < 0
          · rw [decide_eq_true hneg] at NEG
            have hin : inGs Gs (i : Int) = false := by cases h : inGs Gs (i : Int) with | false => rfl | true => rw [h] at NEG; cases NEG
            cases hp : p i
            · rw [hp] at hpc hpq
              have S := Lib.hid (HN.out (by rw [hpq]; rfl))
              have hge : ¬ 0 ≤ numG Gs (i : Int) := by omega
              generalize numG Gs (i : Int) = num at *
              clear NEG hin HN HY HST hpq hf1 hp
              go_wp2_with fail
              go_roundw
              case rel => exact ⟨i + 1, B, d, by go_num, by omega, by rw [S.out], by rw [S.out]; exact hR, by rw [S.out]; exact hZ, hB⟩
              case measure => simp [intOf]; omega
            · rw [hp] at hpc hpq
              have S := Lib.hid (HY.out (by rw [hpq, hin]; rfl))
              have SM := Lib.hid (HSM.out i hik (by rw [hpq]; rfl) (by rw [HGSi.out]; exact hin))
              have QE : Hid (∀ b : Int, qs i b = (pqF p true b && !inGs Gs b)) := fun b => by rw [HQS.out i b, HGSi.out]
              have LE := Lib.hid (HLE.out (qs i) i hik)
              have IN := Lib.hid (HIN.out (qs i) i hik)
              have VS := Lib.hid (fun m => seqG_yes (q := qs i) (nb := nb) (a := (i : Int)) (k := m))
              have GR := Lib.hid (HGR.out i)
              have R1 := Lib.hid ((hR.out.setW (k := i) (u := .int .i64 ((szL Gs).length : Int)) hik).ext (U := iv fun j : Nat => numG (Gs ++ [[(i : Int)]]) j) fun j _ => by rw [szL_len]; exact HST.out j)
              have B1 := Lib.hid (Below.setCell (p := ⟨ob, oo + i, none⟩) hB.out ho1 (.int .i64 ((szL Gs).length : Int)))
              have Z1 := Lib.hid (hZ.out.butA (A := some ⟨ob, oo, none⟩) (ButA.setCell (w := wr) (q := ⟨ob, oo + i, none⟩) (fun a ha => by injection ha with ha; rw [← ha]) (by simp) (.int .i64 ((szL Gs).length : Int))) fun a z ha hz => by
                injection ha with ha
                subst ha
                have := (hZ.out.lt z hz).1
                show ob ≠ z.block
                omega)
              have hsz1 : (wr.setCell ⟨ob, oo + i, none⟩ (.int .i64 ((szL Gs).length : Int))).heap.size = wr.heap.size := by simp [World.setCell]
              have hge : ¬ 0 ≤ numG Gs (i : Int) := by omega
              generalize numG Gs (i : Int) = num at *
              clear NEG hin HN HY HST hpq hp hR hZ hB
              go_wp2_with fail
              have hbl := World.below_one2 (G := (wr.setCell ⟨ob, oo + i, none⟩ (.int .i64 ((szL Gs).length : Int))).heap.size) (wr.setCell ⟨ob, oo + i, none⟩ (.int .i64 ((szL Gs).length : Int))) (.cells #[.int .i64 (i : Int)] 2) (Nat.le_refl _)
              have R2 := Lib.hid (R1.out.below hbl)
              have Z2 := Lib.hid (Z1.out.below hbl)
              have B2 := Lib.hid (B1.out.trans (hbl.mono (by rw [hsz1]; exact hGw)))
              have O2 := Lib.hid (GroI.lit1 (wr.setCell ⟨ob, oo + i, none⟩ (.int .i64 ((szL Gs).length : Int))) (Nat.le_refl _) (i : Int))
              have hBM : Hid (∀ b, B = some b → b.block < wr.heap.size) := fun b hb => by have := (Z1.out.lt b hb).2; rw [hsz1] at this; exact this
              rw [hsz1] at O2
              clear hbl R1 Z1 B1 hc1 hf1 hsz1
              generalize (wr.setCell ⟨ob, oo + i, none⟩ (.int .i64 ((szL Gs).length : Int))).alloc (.cells #[.int .i64 (i : Int)] 2) = W2 at *
              have hGM : G ≤ wr.heap.size := hGw
              generalize wr.heap.size = M0 at *
              go_loopw [10, 11] (fun o q wr => ∃ (m : Nat) (C : Option Addr) (e : Nat), q = .int .i64 m ∧ m ≤ k ∧ o = .slice C (seqG (qs i) nb i m).length e ∧ Hid (RowW wr G S0 (some ⟨ob, oo, none⟩) k (iv fun j : Nat => numG (Gs ++ [seqG (qs i) nb i m]) j)) ∧ Hid (GroI wr S0 (szL Gs) B d) ∧ Hid (GroI wr M0 (seqG (qs i) nb i m) C e) ∧ Hid (Below G w wr)) (fun _ q _ => k - (intOf q).toNat)
              case atStart => exact ⟨0, _, _, rfl, Nat.zero_le _, rfl, R2, Z2, O2, B2⟩
              case round =>
                clear R2 Z2 O2 B2 v0 v1 v2 hvl hpc
                obtain ⟨m, C, e, rfl, hm, rfl, hR, hZ, hO, hB⟩ := hrel
                obtain ⟨hvl, v0, v1, v2⟩ := HVV.out _ hB.out
                have hGw2 : G ≤ wr.heap.size := by rw [← HG.out]; exact hB.out.size
                have hLn := LE.out m
                have HSN := Lib.hid (VS.out m)
                have INm := fun (h : m < (seqG (qs i) nb i m).length) => IN.out m _ (getD_mem h)
                have SMm := SM.out m
                generalize hLL : seqG (qs i) nb i m = L at *
                clear hLL
                by_cases hml : m < L.length
                · obtain ⟨z0, z1⟩ := INm hml
                  obtain ⟨cg, rfl⟩ := hO.out.adr hml
                  have hcm := hO.out.at hml
                  have hcl := (hO.out.lt _ rfl).2
                  have hM01 : M0 ≤ wr.heap.size := by have h1 := hO.out.lt _ rfl; exact Nat.le_of_lt (Nat.lt_of_le_of_lt h1.1 h1.2)
                  have HV := HSN.out hml
                  rw [atI_getD] at hcm
                  generalize L.getD m 0 = z at *
                  have HC := Lib.hid (HBE.out z z0 z1)
                  have HSI := Lib.hid (HNB.out z z0 z1)
                  have hl4 := HL4.out z
                  have HVL : Hid (∀ j, (visG (qs i) L ((nb z).take j)).length ≤ 1048576) := fun j => by
                    have h1 := vis_len_le (qs i) L (nb z) j
                    have h2 := LE.out (m + 1)
                    rw [HV] at h2
                    omega
                  have HVV2 := Lib.hid HV
                  clear HV HSN INm SMm
                  generalize nb z = bs at *
                  have K0 : Hid (Below wr.heap.size wr wr.drew) := (Below.refl _ _).drew
                  go_wp2_with fail
                  go_region_held3 (fun w' => w'.cell? ⟨v, 0, none⟩ = some (.int .i64 x) ∧ w'.cell? ⟨v, 1, none⟩ = some (.int .i64 y) ∧ w'.cell? ⟨cg, m, none⟩ = some (.int .i64 z) ∧ Hid (Below wr.heap.size wr w')) (first | (exact ⟨by assumption, by assumption, by assumption, by assumption⟩) | go_keep)
                    (((go_at_call 114; refine (HC.out _).mono ?_; rintro e w8 ⟨X, cx, rfl, HO0, hb8⟩; have HO8 := Lib.hid (GroI.lower HO0.out (‹Hid (Below wr.heap.size wr _)›).out.size); obtain ⟨g0, g1, g2⟩ := keep3 hb8.out (‹Hid (Below wr.heap.size wr _)›).out hvl hcl (by assumption) (by assumption) (by assumption); have K8 := Lib.hid ((‹Hid (Below wr.heap.size wr _)›).out.trans (hb8.out.mono (‹Hid (Below wr.heap.size wr _)›).out.size)))))
                  have hSw8 : S0 ≤ wr.heap.size := hR.out.le
                  have HB8 : Hid (Below wr.heap.size wr w8) := (‹Hid (Below wr.heap.size wr w8)›).out
                  have R8 := Lib.hid (hR.out.below HB8.out)
                  have Z8 := Lib.hid (hZ.out.below HB8.out)
                  have O8 := Lib.hid (hO.out.below HB8.out)
                  have B8 := Lib.hid (hB.out.trans (HB8.out.mono hGw2))
                  have F8 : Hid (∀ a b, (some (⟨cg, 0, none⟩ : Addr)) = some a → X = some b → a.block ≠ b.block) := fun a b ha hb => by
                    injection ha with ha
                    subst ha
                    have := (HO8.out.lt b hb).1
                    show cg ≠ b.block
                    have h2 : cg < wr.heap.size := hcl
                    omega
                  clear K0 K8 hb8 HO0 HC g0 g1 g2 v0 v1 v2 hcm hR hZ hO hB HB8 hcl hvl
                  have hSM1 : S0 ≤ wr.heap.size := hSw8
                  generalize wr.heap.size = M1 at *
                  go_wp2_with fail
                  go_loopw [10, 80] (fun o q wr => ∃ (t : Nat) (C : Option Addr) (e : Nat), q = .int .i64 t ∧ t ≤ bs.length ∧ o = .slice C (visG (qs i) L (bs.take t)).length e ∧ Hid (RowW wr G S0 (some ⟨ob, oo, none⟩) k (iv fun j : Nat => numG (Gs ++ [visG (qs i) L (bs.take t)]) j)) ∧ Hid (GroI wr S0 (szL Gs) B d) ∧ Hid (GroI wr M0 (visG (qs i) L (bs.take t)) C e) ∧ Hid (GroI wr M1 bs X cx) ∧ Hid (∀ a b, C = some a → X = some b → a.block ≠ b.block) ∧ Hid (Below G w wr)) (fun _ q _ => bs.length - (intOf q).toNat)
                  case atStart => exact ⟨0, _, _, rfl, Nat.zero_le _, rfl, R8, Z8, O8, HO8, F8, B8⟩
                  case round =>
                    clear R8 Z8 O8 HO8 F8 B8
                    obtain ⟨t, C, e, rfl, ht, rfl, hR, hZ, hO, hX, hF, hB⟩ := hrel
                    by_cases htl : t < bs.length
                    · obtain ⟨hvl, v0, v1, v2⟩ := HVV.out _ hB.out
                      have hGw3 : G ≤ wr.heap.size := by rw [← HG.out]; exact hB.out.size
                      obtain ⟨xg, rfl⟩ := hX.out.adr htl
                      have hcx := hX.out.at htl
                      have hM0w : M0 ≤ wr.heap.size := by have h1 := hX.out.lt _ rfl; exact Nat.le_trans hM01 (Nat.le_of_lt (Nat.lt_of_le_of_lt h1.1 h1.2))
                      obtain ⟨s0, s1⟩ := HSI.out t htl
                      obtain ⟨s, hs⟩ : ∃ s : Nat, atI bs t = (s : Int) := ⟨(atI bs t).toNat, by omega⟩
                      have HSH := Lib.hid hs
                      rw [hs] at hcx s1
                      have HST := Lib.hid (visG_take (q := qs i) (L := L) htl)
                      have hbm : bs[t] = (s : Int) := by rw [← hs, atI_getD, List.getD_eq_getElem?_getD, List.getElem?_eq_getElem htl]; rfl
                      rw [hbm] at HST
                      have hsn : s < k := by omega
                      have hps := HFC.out wr hB.out s hsn
                      have hLb := HVL.out t
                      generalize visG (qs i) L (bs.take t) = L1 at *
                      have QS := QE.out (s : Int)
                      rw [pqF_nat] at QS
                      have N2 := num_neg2 Gs L1 (s : Int)
                      obtain ⟨ob', oo', e2, ho1', ho2', hoc, hof⟩ := hR.out.row (by omega)
                      injection e2 with e2
                      injection e2 with e3 e4 _
                      subst e3 e4
                      have hc3 := hoc s hsn
                      have hf3 := hof s hsn
                      unfold iv at hc3
                      dsimp only at hc3
                      have HPT := Lib.hid (num_put Gs L1 s)
                      clear hoc hof hs hbm s0
                      by_cases hneg : numG (Gs ++ [L1]) (s : Int) < 0
                      · rw [decide_eq_true hneg] at N2
                        cases hp : p s
                        · rw [hp] at hps QS
                          have S := Lib.hid (HST.out.trans (stepG_no (by rw [QS]; simp)))
                          have hge : ¬ 0 ≤ numG (Gs ++ [L1]) (s : Int) := by omega
                          generalize numG (Gs ++ [L1]) (s : Int) = num at *
                          clear QS N2 HST HPT hf3 hp
                          go_wp2_with fail
                          go_quiet (fail)
                          go_wp2_with fail
                          go_roundw
                          case rel => exact ⟨t + 1, C, e, by go_num, by omega, by rw [S.out], by rw [S.out]; exact hR.out.drewN, hZ, by rw [S.out]; exact hO.out.dn, hX.out.dn, hF, belowN hB.out⟩
                          case measure => simp [intOf]; omega
                        · rw [hp] at hps QS
                          have S := Lib.hid (HST.out.trans (stepG_yes (cnd_yes QS rfl N2)))
                          have hge : ¬ 0 ≤ numG (Gs ++ [L1]) (s : Int) := by omega
                          generalize numG (Gs ++ [L1]) (s : Int) = num at *
                          clear QS N2 HST hp
                          go_wp2_with fail
                          go_quiet (fail)
                          have R1 := Lib.hid (((hR.out.drewN (m := nq)).setW (k := s) (u := .int .i64 ((szL Gs).length : Int)) hsn).ext (U := iv fun j : Nat => numG (Gs ++ [L1 ++ [(s : Int)]]) j) fun j _ => by rw [szL_len]; exact HPT.out j)
                          have hSA : ButA (some (⟨ob, oo, none⟩ : Addr)) (wr.drewN nq) ((wr.drewN nq).setCell ⟨ob, oo + s, none⟩ (.int .i64 ((szL Gs).length : Int))) := ButA.setCell (q := ⟨ob, oo + s, none⟩) (fun a ha => by injection ha with ha; rw [← ha]) (by simp) _
                          have hob : ∀ a z, (some (⟨ob, oo, none⟩ : Addr)) = some a → S0 ≤ z.block → a.block ≠ Addr.block z := fun a z ha hz => by
                            injection ha with ha
                            subst ha
                            show ob ≠ z.block
                            omega
                          have Z1 := Lib.hid ((GroI.dn (n := nq) hZ.out).butA hSA fun a z ha hz => hob a z ha (hZ.out.lt z hz).1)
                          have O1 := Lib.hid ((GroI.dn (n := nq) hO.out).butA hSA fun a z ha hz => hob a z ha (by have := (hO.out.lt z hz).1; omega))
                          have X1 := Lib.hid ((GroI.dn (n := nq) hX.out).butA hSA fun a z ha hz => hob a z ha (by have := (hX.out.lt z hz).1; omega))
                          have B1 := Lib.hid (Below.setCell (p := ⟨ob, oo + s, none⟩) (belowN (n := nq) hB.out) ho1 (.int .i64 ((szL Gs).length : Int)))
                          have hG1 : M0 ≤ ((wr.drewN nq).setCell ⟨ob, oo + s, none⟩ (.int .i64 ((szL Gs).length : Int))).heap.size := by
                            have h1 := hSA.size
                            have h2 : M0 ≤ (wr.drewN nq).heap.size := hM0w
                            omega
                          have hcx2 := X1.out.at htl
                          rw [HSH.out] at hcx2
                          clear hSA hob HPT hR hZ hO hX hB
                          go_wp2_with (at_builtin; refine isAppI _ _ rfl ?_; refine wpGroY rfl _ _ rfl (w0 := (wr.drewN nq).setCell ⟨ob, oo + s, none⟩ (.int .i64 ((szL Gs).length : Int))) (y := (s : Int)) O1.out rfl rfl (by first | rfl | simp [Act.eval, World.setCell]) hLb hG1 ?_; intro g5 c5 w5 O5 b5 f5; have HO5 := Lib.hid O5; have HB5 := Lib.hid b5; have HF5 := Lib.hid f5; clear O5 b5 f5)
                          generalize (wr.drewN nq).setCell ⟨ob, oo + s, none⟩ (.int .i64 ((szL Gs).length : Int)) = w1 at *
                          have B5 := Lib.hid (HB5.out.below B1.out (Nat.le_trans hGM hG1) (fun a ha => Nat.le_trans hGM (O1.out.lt a ha).1))
                          have R5 := Lib.hid (R1.out.butA HB5.out (fun a z ha hz => by
                            injection hz with hz
                            subst hz
                            have := (O1.out.lt a ha).1
                            show a.block ≠ ob
                            omega))
                          have Z5 := Lib.hid (Z1.out.butA HB5.out (fun a z ha hz => by
                            have := (O1.out.lt a ha).1
                            have := hBM.out z hz
                            omega))
                          have X5 := Lib.hid (X1.out.butA HB5.out hF.out)
                          have F5 : Hid (∀ a b, (some (⟨g5, 0, none⟩ : Addr)) = some a → (some (⟨xg, 0, none⟩ : Addr)) = some b → a.block ≠ b.block) := fun a z ha hz => by
                            injection ha with ha
                            subst ha
                            rcases HF5.out with ⟨b, e1, e2⟩ | h
                            · have := hF.out b z e1 hz
                              show g5 ≠ z.block
                              omega
                            · have := (X1.out.lt _ hz).2
                              show g5 ≠ z.block
                              omega
                          clear HB5 HF5 R1 Z1 O1 X1 B1 hG1
                          go_roundw
                          case rel => exact ⟨t + 1, _, c5, by go_num, by omega, by rw [S.out, List.length_append]; rfl, by rw [S.out]; exact R5, Z5, by rw [S.out]; exact HO5, X5, F5, B5⟩
                          case measure => simp [intOf]; omega
                      · rw [decide_eq_false hneg] at N2
                        have hge : 0 ≤ numG (Gs ++ [L1]) (s : Int) := by omega
                        have S := Lib.hid (HST.out.trans (stepG_no (cnd_no QS N2)))
                        generalize numG (Gs ++ [L1]) (s : Int) = num at *
                        clear QS N2 HST HPT hf3
                        cases hp : p s <;> rw [hp] at hps <;> clear hp
                        all_goals
                          go_wp2_with fail
                          go_quiet (fail)
                          go_wp2_with fail
                          go_roundw
                          case rel => exact ⟨t + 1, C, e, by go_num, by omega, by rw [S.out], by rw [S.out]; exact hR.out.drewN, hZ, by rw [S.out]; exact hO.out.dn, hX.out.dn, hF, belowN hB.out⟩
                          case measure => simp [intOf]; omega
                    · have et : t = bs.length := by omega
                      have S2 : Hid (visG (qs i) L (bs.take t) = seqG (qs i) nb i (m + 1)) := by show _ = _; rw [et, List.take_length, HVV2.out]
                      clear et
                      go_wp2_with fail
                      go_roundw
                      case rel => exact ⟨m + 1, C, e, by go_num, by omega, by rw [S2.out], by rw [← S2.out]; exact hR, hZ, by rw [← S2.out]; exact hO, hB⟩
                      case measure => simp [intOf]; omega
                · have E := Lib.hid ((GR.out m hm (by rw [← SMm]; exact hml)).trans SMm.symm)
                  have hLb : L.length ≤ 1048576 := by omega
                  have hMz : (szL Gs).length ≤ 1048576 := by omega
                  have hSw : S0 ≤ wr.heap.size := hR.out.le
                  clear HSN INm SMm
                  go_wp2_with (at_builtin; refine isAppI _ _ rfl ?_; refine wpGroY rfl _ _ rfl (w0 := wr) (y := (L.length : Int)) hZ.out rfl rfl (by first | rfl | simp [Act.eval]) hMz hSw ?_; intro g5 c5 w5 O5 b5 f5; have HO5 := Lib.hid O5; have HB5 := Lib.hid b5; clear O5 b5 f5)
                  have B5 := Lib.hid (HB5.out.below hB.out hGw2 (fun a ha => by have := (hZ.out.lt a ha).1; have := HGS.out; omega))
                  have R5 := Lib.hid (hR.out.butA HB5.out (fun a z ha hz => by
                    injection hz with hz
                    subst hz
                    have := (hZ.out.lt a ha).1
                    show a.block ≠ ob
                    omega))
                  go_roundw
                  case rel => exact ⟨i + 1, _, c5, by go_num, by omega, by rw [S.out, szL_snoc, List.length_append]; rfl, by rw [S.out, E.out]; exact R5, by rw [S.out, E.out, szL_snoc]; exact HO5, B5⟩
                  case measure => simp [intOf]; omega
          · rw [decide_eq_false hneg] at NEG
            have hin : inGs Gs (i : Int) = true := by cases h : inGs Gs (i : Int) with | true => rfl | false => rw [h] at NEG; cases NEG
            have S := Lib.hid (HN.out (by rw [hin, Bool.not_true, Bool.and_false]))
            have hge : 0 ≤ numG Gs (i : Int) := by omega
            generalize numG Gs (i : Int) = num at *
            clear NEG hin HN HY HST hpq hf1
            go_wp2_with fail
            go_roundw
            case rel => exact ⟨i + 1, B, d, by go_num, by omega, by rw [S.out], by rw [S.out]; exact hR, by rw [S.out]; exact hZ, hB⟩
            case measure => simp [intOf]; omega
        · have ei : i = k := by omega
          subst ei
          go_wp2
          go_ret2
          exact ⟨A, _, B, d, S0, rfl, by rw [HG.out]; exact HGS.out, by rw [HG.out]; exact hR, hZ, by rw [HG.out]; exact hB⟩

set_option maxHeartbeats 16000000 in
set_option maxRecDepth 1000000 in
theorem specGrpF (v : Nat) (x y : Int) (F : Option Addr) (n f : Nat) (p : Nat → Bool) (w : World) (hv : fvB x y n = true) (V : VarT w v x y F n f) (hr : RowV w w.heap.size F n (bo p)) :
    Calls Try.prog 91 #[.pointer (some ⟨v, 0, none⟩), .bool false] w fun e w' => ∃ A c B d m, e = .returned (.tuple #[.slice A n c, .slice B (szL (gsF p false x y n n)).length d]) ∧ Hid (w.heap.size ≤ m) ∧ Hid (RowW w' w.heap.size m A n (iv fun j => numG (gsF p false x y n n) j)) ∧ Hid (GroI w' m (szL (gsF p false x y n n)) B d) ∧ Hid (Below w.heap.size w w') := by
  obtain ⟨⟨⟨hx1, hx2⟩, hy⟩, hn, hn1, hn2⟩ := fvB_yes hv
  have hsd : sidB x y = true := by
    cases e : sidB x y with
    | true => rfl
    | false => rw [fvB_1 e] at hv; cases hv
  have HOK := Lib.hid (nb_ok hx1 hn)
  have HBE : Hid (∀ i, 0 ≤ i → i < (n : Int) → ∀ W : World, Calls Try.prog 114 #[.int .i64 x, .int .i64 y, .int .i64 i] W fun e w' => ∃ A c, e = .returned (.slice A (sidL x y i).length c) ∧ Hid (GroI w' W.heap.size (sidL x y i) A c) ∧ Hid (Below W.heap.size W w')) := fun i h0 h1 W => specBes x y i hsd h0 (by omega) W
  obtain ⟨fb, fo, rfl, hfb, hcell⟩ := hr (by omega)
  have HVV : Hid (∀ wr, Below w.heap.size w wr → v < wr.heap.size ∧ wr.cell? ⟨v, 0, none⟩ = some (.int .i64 x) ∧ wr.cell? ⟨v, 1, none⟩ = some (.int .i64 y) ∧ wr.cell? ⟨v, 2, none⟩ = some (.slice (some ⟨fb, fo, none⟩) n f)) := fun wr h => by
    rw [h.cell (p := ⟨v, 0, none⟩) V.lt, h.cell (p := ⟨v, 1, none⟩) V.lt, h.cell (p := ⟨v, 2, none⟩) V.lt]; exact ⟨Nat.lt_of_lt_of_le V.lt h.size, V.c0, V.c1, V.c2⟩
  have HFC : Hid (∀ wr, Below w.heap.size w wr → ∀ j, j < n → wr.cell? ⟨fb, fo + j, none⟩ = some (.bool (p j))) := fun wr h j hj => by rw [h.cell (p := ⟨fb, fo + j, none⟩) hfb]; exact hcell j hj
  have HNB : Hid (∀ i, 0 ≤ i → i < (n : Int) → ∀ j, j < (sidL x y i).length → 0 ≤ atI (sidL x y i) j ∧ atI (sidL x y i) j < n) := fun i h0 h1 j hj => HOK.out.inn i h0 h1 _ (getD_mem hj)
  have HL4 : Hid (∀ i, (sidL x y i).length ≤ 4) := fun i => sidL_len x y i
  have HLE : Hid (∀ (q : Int → Bool) (a : Nat), a < n → ∀ k, (seqG q (sidL x y) a k).length ≤ n) := fun q a ha k => seq_le HOK.out (by omega) (by omega) k
  have HIN : Hid (∀ (q : Int → Bool) (a : Nat), a < n → ∀ k, ∀ z ∈ seqG q (sidL x y) a k, 0 ≤ z ∧ z < n) := fun q a ha k => seq_in HOK.out (by omega) (by omega) k
  have HNO : Hid (∀ k : Nat, (pqF p false k && !inGs (gsF p false x y n k) k) = false → gsF p false x y n (k + 1) = gsF p false x y n k) := fun k h => grs_no h
  have HYE : Hid (∀ k : Nat, (pqF p false k && !inGs (gsF p false x y n k) k) = true → gsF p false x y n (k + 1) = gsF p false x y n k ++ [grpG (pqF p false) (sidL x y) n k]) := fun k h => grs_yes h
  have HSM : Hid (∀ k : Nat, k < n → pqF p false k = true → inGs (gsF p false x y n k) k = false → ∀ m, seqG (qsF p false x y n k) (sidL x y) k m = seqG (pqF p false) (sidL x y) k m) := fun k hk h1 h2 m => (seq_same HOK.out hk h1 h2 m).1
  have HGR : Hid (∀ (k m : Nat), m ≤ n → ¬ m < (seqG (pqF p false) (sidL x y) k m).length → grpG (pqF p false) (sidL x y) n k = seqG (pqF p false) (sidL x y) k m) := fun k m hm h => grp_is hm h
  have HGL : Hid (∀ k, (gsF p false x y n k).length ≤ k) := fun k => grs_len _ _ _ k
  have O0 : Hid (GroI (w.alloc (.cells #[] 2)) w.heap.size [] (some ⟨w.heap.size, 0, none⟩) 0) := GroI.lit w (Nat.le_refl _)
  have B0 : Hid (Below w.heap.size w (w.alloc (.cells #[] 2))) := (Below.refl _ _).alloc (Nat.le_refl _) _
  obtain ⟨_, v0, v1, v2⟩ := HVV.out _ B0.out
  clear hcell hr V hv hsd hx1 hx2 hy hn HOK hfb
  have HQS : Hid (∀ (k : Nat) (b : Int), qsF p false x y n k b = (pqF p false b && !inGs (gsF p false x y n k) b)) := fun k b => rfl
  have HGS0 : Hid (gsF p false x y n 0 = []) := rfl
  generalize gsF p false x y n = gs at *
  generalize qsF p false x y n = qs at *
  generalize hnb : sidL x y = nb at *
  clear hnb
  go_enter Try.func91, Try.ntmps91
  go_wp2_with fail
  generalize hG : w.heap.size = G at *
  have HG := Lib.hid hG
  clear hG v0 v1 v2
  -- no cell has a number yet
  go_loopw [6, 20] (fun o i wr => ∃ (k : Nat) (A : Option Addr) (c : Nat), i = .int .i64 k ∧ k ≤ n ∧ o = .slice A (List.replicate k (-1 : Int)).length c ∧ Hid (GroI wr G (List.replicate k (-1 : Int)) A c) ∧ Hid (Below G w wr)) (fun _ i _ => n - (intOf i).toNat)
  case atStart => exact ⟨0, _, _, rfl, Nat.zero_le _, rfl, O0, B0⟩
  case round =>
    clear O0 B0
    obtain ⟨k, A, c, rfl, hk, rfl, hO, hB⟩ := hrel
    have hGw : G ≤ wr.heap.size := by rw [← HG.out]; exact hB.out.size
    have hRL : (List.replicate k (-1 : Int)).length ≤ 1048576 := by rw [List.length_replicate]; omega
    by_cases hlt : k < n
    · have S : Hid (List.replicate (k + 1) (-1 : Int) = List.replicate k (-1) ++ [-1]) := List.replicate_succ'
      generalize List.replicate k (-1 : Int) = L at *
      go_wp2_with (at_builtin; refine isAppI _ _ rfl ?_; refine wpGroY rfl _ _ rfl (w0 := wr) (y := -1) hO.out rfl rfl (by first | rfl | simp [Act.eval]) hRL hGw ?_; intro g5 c5 w5 O5 b5 f5; have HO5 := Lib.hid O5; have HB5 := Lib.hid b5; clear O5 b5 f5)
      have B5 := Lib.hid (HB5.out.below hB.out hGw (fun a ha => (hO.out.lt a ha).1))
      go_roundw
      case rel => exact ⟨k + 1, _, c5, by go_num, by omega, by rw [S.out, List.length_append]; rfl, by rw [S.out]; exact HO5, B5⟩
      case measure => simp [intOf]; omega
    · have ek : k = n := by omega
      subst ek
      have RW := hO.out.rowW
      rw [List.length_replicate] at RW ⊢
      have R1 : Hid (RowW wr G wr.heap.size A k (iv fun j => numG (gs 0) j)) := RW.ext fun j hj => by
        unfold iv
        dsimp only
        rw [HGS0.out, numG_nil]
        simp [atI, List.getD, hj]
      have B1 := Lib.hid (hB.out.trans (World.below_one2 wr (.cells #[] 2) hGw))
      have R2 := Lib.hid (R1.out.below (World.below_one2 wr (.cells #[] 2) (Nat.le_refl _)))
      have Z2 : Hid (GroI (wr.alloc (.cells #[] 2)) wr.heap.size (szL (gs 0)) (some ⟨wr.heap.size, 0, none⟩) 0) := by rw [HGS0.out]; exact GroI.lit wr (Nat.le_refl _)
      have hZ0 : (szL (gs 0)).length = 0 := by rw [HGS0.out]; rfl
      obtain ⟨_, v0, v1, v2⟩ := HVV.out _ B1.out
      clear RW R1 hO hB
      go_wp2_with fail
      generalize hS0 : wr.heap.size = S0 at *
      have HGS := Lib.hid hGw
      clear hS0 v0 v1 v2 hGw hRL hlt hk
      go_loopw [7, 32] (fun o i wr => ∃ (m : Nat) (B : Option Addr) (d : Nat), i = .int .i64 m ∧ m ≤ k ∧ o = .slice B (szL (gs m)).length d ∧ Hid (RowW wr G S0 A k (iv fun j => numG (gs m) j)) ∧ Hid (GroI wr S0 (szL (gs m)) B d) ∧ Hid (Below G w wr)) (fun _ i _ => k - (intOf i).toNat)
      case atStart => exact ⟨0, _, 0, rfl, Nat.zero_le _, by rw [hZ0], R2, Z2, B1⟩
      case round =>
        clear R2 Z2 B1 hZ0
        obtain ⟨i, B, d, rfl, hi, rfl, hR, hZ, hB⟩ := hrel
        obtain ⟨hvl, v0, v1, v2⟩ := HVV.out _ hB.out
        have hGw : G ≤ wr.heap.size := by rw [← HG.out]; exact hB.out.size
        have hZL : (szL (gs i)).length ≤ 256 := by rw [szL_len]; have := HGL.out i; omega
        by_cases hik : i < k
        · obtain ⟨ob, oo, rfl, ho1, ho2, hoc, hof⟩ := hR.out.row (by omega)
          have hc1 := hoc i hik
          have hf1 := hof i hik
          unfold iv at hc1
          dsimp only at hc1
          have hpc := HFC.out wr hB.out i hik
          have hpq := pqF_nat p false i
          have NEG := numG_neg (i : Int) (gs i)
          have HN := Lib.hid (HNO.out i)
          have HY := Lib.hid (HYE.out i)
          have hno2 : ob < wr.heap.size := Nat.lt_of_lt_of_le ho2 hR.out.le
          have hS0w : S0 ≤ wr.heap.size := hR.out.le
          have HST := Lib.hid (num_start (gs i) i)
          generalize hGS : gs i = Gs at *
          have HGSi := Lib.hid hGS
          clear hGS hoc hof
          by_cases hneg : numG Gs (i : Int) < 0
          · rw [decide_eq_true hneg] at NEG
            have hin : inGs Gs (i : Int) = false := by cases h : inGs Gs (i : Int) with | false => rfl | true => rw [h] at NEG; cases NEG
            cases hp : p i
            · rw [hp] at hpc hpq
              have S := Lib.hid (HY.out (by rw [hpq, hin]; rfl))
              have SM := Lib.hid (HSM.out i hik (by rw [hpq]; rfl) (by rw [HGSi.out]; exact hin))
              have QE : Hid (∀ b : Int, qs i b = (pqF p false b && !inGs Gs b)) := fun b => by rw [HQS.out i b, HGSi.out]
              have LE := Lib.hid (HLE.out (qs i) i hik)
              have IN := Lib.hid (HIN.out (qs i) i hik)
              have VS := Lib.hid (fun m => seqG_yes (q := qs i) (nb := nb) (a := (i : Int)) (k := m))
              have GR := Lib.hid (HGR.out i)
              have R1 := Lib.hid ((hR.out.setW (k := i) (u := .int .i64 ((szL Gs).length : Int)) hik).ext (U := iv fun j : Nat => numG (Gs ++ [[(i : Int)]]) j) fun j _ => by rw [szL_len]; exact HST.out j)
              have B1 := Lib.hid (Below.setCell (p := ⟨ob, oo + i, none⟩) hB.out ho1 (.int .i64 ((szL Gs).length : Int)))
              have Z1 := Lib.hid (hZ.out.butA (A := some ⟨ob, oo, none⟩) (ButA.setCell (w := wr) (q := ⟨ob, oo + i, none⟩) (fun a ha => by injection ha with ha; rw [← ha]) (by simp) (.int .i64 ((szL Gs).length : Int))) fun a z ha hz => by
                injection ha with ha
                subst ha
                have := (hZ.out.lt z hz).1
                show ob ≠ z.block
                omega)
              have hsz1 : (wr.setCell ⟨ob, oo + i, none⟩ (.int .i64 ((szL Gs).length : Int))).heap.size = wr.heap.size := by simp [World.setCell]
              have hge : ¬ 0 ≤ numG Gs (i : Int) := by omega
              generalize numG Gs (i : Int) = num at *
              clear NEG hin HN HY HST hpq hp hR hZ hB
              go_wp2_with fail
              have hbl := World.below_one2 (G := (wr.setCell ⟨ob, oo + i, none⟩ (.int .i64 ((szL Gs).length : Int))).heap.size) (wr.setCell ⟨ob, oo + i, none⟩ (.int .i64 ((szL Gs).length : Int))) (.cells #[.int .i64 (i : Int)] 2) (Nat.le_refl _)
              have R2 := Lib.hid (R1.out.below hbl)
              have Z2 := Lib.hid (Z1.out.below hbl)
              have B2 := Lib.hid (B1.out.trans (hbl.mono (by rw [hsz1]; exact hGw)))
              have O2 := Lib.hid (GroI.lit1 (wr.setCell ⟨ob, oo + i, none⟩ (.int .i64 ((szL Gs).length : Int))) (Nat.le_refl _) (i : Int))
              have hBM : Hid (∀ b, B = some b → b.block < wr.heap.size) := fun b hb => by have := (Z1.out.lt b hb).2; rw [hsz1] at this; exact this
              rw [hsz1] at O2
              clear hbl R1 Z1 B1 hc1 hf1 hsz1
              generalize (wr.setCell ⟨ob, oo + i, none⟩ (.int .i64 ((szL Gs).length : Int))).alloc (.cells #[.int .i64 (i : Int)] 2) = W2 at *
              have hGM : G ≤ wr.heap.size := hGw
              generalize wr.heap.size = M0 at *
              go_loopw [10, 11] (fun o q wr => ∃ (m : Nat) (C : Option Addr) (e : Nat), q = .int .i64 m ∧ m ≤ k ∧ o = .slice C (seqG (qs i) nb i m).length e ∧ Hid (RowW wr G S0 (some ⟨ob, oo, none⟩) k (iv fun j : Nat => numG (Gs ++ [seqG (qs i) nb i m]) j)) ∧ Hid (GroI wr S0 (szL Gs) B d) ∧ Hid (GroI wr M0 (seqG (qs i) nb i m) C e) ∧ Hid (Below G w wr)) (fun _ q _ => k - (intOf q).toNat)
              case atStart => exact ⟨0, _, _, rfl, Nat.zero_le _, rfl, R2, Z2, O2, B2⟩
              case round =>
                clear R2 Z2 O2 B2 v0 v1 v2 hvl hpc
                obtain ⟨m, C, e, rfl, hm, rfl, hR, hZ, hO, hB⟩ := hrel
                obtain ⟨hvl, v0, v1, v2⟩ := HVV.out _ hB.out
                have hGw2 : G ≤ wr.heap.size := by rw [← HG.out]; exact hB.out.size
                have hLn := LE.out m
                have HSN := Lib.hid (VS.out m)
                have INm := fun (h : m < (seqG (qs i) nb i m).length) => IN.out m _ (getD_mem h)
                have SMm := SM.out m
                generalize hLL : seqG (qs i) nb i m = L at *
                clear hLL
                by_cases hml : m < L.length
                · obtain ⟨z0, z1⟩ := INm hml
                  obtain ⟨cg, rfl⟩ := hO.out.adr hml
                  have hcm := hO.out.at hml
                  have hcl := (hO.out.lt _ rfl).2
                  have hM01 : M0 ≤ wr.heap.size := by have h1 := hO.out.lt _ rfl; exact Nat.le_of_lt (Nat.lt_of_le_of_lt h1.1 h1.2)
                  have HV := HSN.out hml
                  rw [atI_getD] at hcm
                  generalize L.getD m 0 = z at *
                  have HC := Lib.hid (HBE.out z z0 z1)
                  have HSI := Lib.hid (HNB.out z z0 z1)
                  have hl4 := HL4.out z
                  have HVL : Hid (∀ j, (visG (qs i) L ((nb z).take j)).length ≤ 1048576) := fun j => by
                    have h1 := vis_len_le (qs i) L (nb z) j
                    have h2 := LE.out (m + 1)
                    rw [HV] at h2
                    omega
                  have HVV2 := Lib.hid HV
                  clear HV HSN INm SMm
                  generalize nb z = bs at *
                  have K0 : Hid (Below wr.heap.size wr wr.drew) := (Below.refl _ _).drew
                  go_wp2_with fail
                  go_region_held3 (fun w' => w'.cell? ⟨v, 0, none⟩ = some (.int .i64 x) ∧ w'.cell? ⟨v, 1, none⟩ = some (.int .i64 y) ∧ w'.cell? ⟨cg, m, none⟩ = some (.int .i64 z) ∧ Hid (Below wr.heap.size wr w')) (first | (exact ⟨by assumption, by assumption, by assumption, by assumption⟩) | go_keep)
                    (((go_at_call 114; refine (HC.out _).mono ?_; rintro e w8 ⟨X, cx, rfl, HO0, hb8⟩; have HO8 := Lib.hid (GroI.lower HO0.out (‹Hid (Below wr.heap.size wr _)›).out.size); obtain ⟨g0, g1, g2⟩ := keep3 hb8.out (‹Hid (Below wr.heap.size wr _)›).out hvl hcl (by assumption) (by assumption) (by assumption); have K8 := Lib.hid ((‹Hid (Below wr.heap.size wr _)›).out.trans (hb8.out.mono (‹Hid (Below wr.heap.size wr _)›).out.size)))))
                  have hSw8 : S0 ≤ wr.heap.size := hR.out.le
                  have HB8 : Hid (Below wr.heap.size wr w8) := (‹Hid (Below wr.heap.size wr w8)›).out
                  have R8 := Lib.hid (hR.out.below HB8.out)
                  have Z8 := Lib.hid (hZ.out.below HB8.out)
                  have O8 := Lib.hid (hO.out.below HB8.out)
                  have B8 := Lib.hid (hB.out.trans (HB8.out.mono hGw2))
                  have F8 : Hid (∀ a b, (some (⟨cg, 0, none⟩ : Addr)) = some a → X = some b → a.block ≠ b.block) := fun a b ha hb => by
                    injection ha with ha
                    subst ha
                    have := (HO8.out.lt b hb).1
                    show cg ≠ b.block
                    have h2 : cg < wr.heap.size := hcl
                    omega
                  clear K0 K8 hb8 HO0 HC g0 g1 g2 v0 v1 v2 hcm hR hZ hO hB HB8 hcl hvl
                  have hSM1 : S0 ≤ wr.heap.size := hSw8
                  generalize wr.heap.size = M1 at *
                  go_wp2_with fail
                  go_loopw [10, 80] (fun o q wr => ∃ (t : Nat) (C : Option Addr) (e : Nat), q = .int .i64 t ∧ t ≤ bs.length ∧ o = .slice C (visG (qs i) L (bs.take t)).length e ∧ Hid (RowW wr G S0 (some ⟨ob, oo, none⟩) k (iv fun j : Nat => numG (Gs ++ [visG (qs i) L (bs.take t)]) j)) ∧ Hid (GroI wr S0 (szL Gs) B d) ∧ Hid (GroI wr M0 (visG (qs i) L (bs.take t)) C e) ∧ Hid (GroI wr M1 bs X cx) ∧ Hid (∀ a b, C = some a → X = some b → a.block ≠ b.block) ∧ Hid (Below G w wr)) (fun _ q _ => bs.length - (intOf q).toNat)
                  case atStart => exact ⟨0, _, _, rfl, Nat.zero_le _, rfl, R8, Z8, O8, HO8, F8, B8⟩
                  case round =>
                    clear R8 Z8 O8 HO8 F8 B8
                    obtain ⟨t, C, e, rfl, ht, rfl, hR, hZ, hO, hX, hF, hB⟩ := hrel
                    by_cases htl : t < bs.length
                    · obtain ⟨hvl, v0, v1, v2⟩ := HVV.out _ hB.out
                      have hGw3 : G ≤ wr.heap.size := by rw [← HG.out]; exact hB.out.size
                      obtain ⟨xg, rfl⟩ := hX.out.adr htl
                      have hcx := hX.out.at htl
                      have hM0w : M0 ≤ wr.heap.size := by have h1 := hX.out.lt _ rfl; exact Nat.le_trans hM01 (Nat.le_of_lt (Nat.lt_of_le_of_lt h1.1 h1.2))
                      obtain ⟨s0, s1⟩ := HSI.out t htl
                      obtain ⟨s, hs⟩ : ∃ s : Nat, atI bs t = (s : Int) := ⟨(atI bs t).toNat, by omega⟩
                      have HSH := Lib.hid hs
                      rw [hs] at hcx s1
                      have HST := Lib.hid (visG_take (q := qs i) (L := L) htl)
                      have hbm : bs[t] = (s : Int) := by rw [← hs, atI_getD, List.getD_eq_getElem?_getD, List.getElem?_eq_getElem htl]; rfl
                      rw [hbm] at HST
                      have hsn : s < k := by omega
                      have hps := HFC.out wr hB.out s hsn
                      have hLb := HVL.out t
                      generalize visG (qs i) L (bs.take t) = L1 at *
                      have QS := QE.out (s : Int)
                      rw [pqF_nat] at QS
                      have N2 := num_neg2 Gs L1 (s : Int)
                      obtain ⟨ob', oo', e2, ho1', ho2', hoc, hof⟩ := hR.out.row (by omega)
                      injection e2 with e2
                      injection e2 with e3 e4 _
                      subst e3 e4
                      have hc3 := hoc s hsn
                      have hf3 := hof s hsn
                      unfold iv at hc3
                      dsimp only at hc3
                      have HPT := Lib.hid (num_put Gs L1 s)
                      clear hoc hof hs hbm s0
                      by_cases hneg : numG (Gs ++ [L1]) (s : Int) < 0
                      · rw [decide_eq_true hneg] at N2
                        cases hp : p s
                        · rw [hp] at hps QS
                          have S := Lib.hid (HST.out.trans (stepG_yes (cnd_yes QS rfl N2)))
                          have hge : ¬ 0 ≤ numG (Gs ++ [L1]) (s : Int) := by omega
                          generalize numG (Gs ++ [L1]) (s : Int) = num at *
                          clear QS N2 HST hp
                          go_wp2_with fail
                          go_quiet (fail)
                          have R1 := Lib.hid (((hR.out.drewN (m := nq)).setW (k := s) (u := .int .i64 ((szL Gs).length : Int)) hsn).ext (U := iv fun j : Nat => numG (Gs ++ [L1 ++ [(s : Int)]]) j) fun j _ => by rw [szL_len]; exact HPT.out j)
                          have hSA : ButA (some (⟨ob, oo, none⟩ : Addr)) (wr.drewN nq) ((wr.drewN nq).setCell ⟨ob, oo + s, none⟩ (.int .i64 ((szL Gs).length : Int))) := ButA.setCell (q := ⟨ob, oo + s, none⟩) (fun a ha => by injection ha with ha; rw [← ha]) (by simp) _
                          have hob : ∀ a z, (some (⟨ob, oo, none⟩ : Addr)) = some a → S0 ≤ z.block → a.block ≠ Addr.block z := fun a z ha hz => by
                            injection ha with ha
                            subst ha
                            show ob ≠ z.block
                            omega
                          have Z1 := Lib.hid ((GroI.dn (n := nq) hZ.out).butA hSA fun a z ha hz => hob a z ha (hZ.out.lt z hz).1)
                          have O1 := Lib.hid ((GroI.dn (n := nq) hO.out).butA hSA fun a z ha hz => hob a z ha (by have := (hO.out.lt z hz).1; omega))
                          have X1 := Lib.hid ((GroI.dn (n := nq) hX.out).butA hSA fun a z ha hz => hob a z ha (by have := (hX.out.lt z hz).1; omega))
                          have B1 := Lib.hid (Below.setCell (p := ⟨ob, oo + s, none⟩) (belowN (n := nq) hB.out) ho1 (.int .i64 ((szL Gs).length : Int)))
                          have hG1 : M0 ≤ ((wr.drewN nq).setCell ⟨ob, oo + s, none⟩ (.int .i64 ((szL Gs).length : Int))).heap.size := by
                            have h1 := hSA.size
                            have h2 : M0 ≤ (wr.drewN nq).heap.size := hM0w
                            omega
                          have hcx2 := X1.out.at htl
                          rw [HSH.out] at hcx2
                          clear hSA hob HPT hR hZ hO hX hB
                          go_wp2_with (at_builtin; refine isAppI _ _ rfl ?_; refine wpGroY rfl _ _ rfl (w0 := (wr.drewN nq).setCell ⟨ob, oo + s, none⟩ (.int .i64 ((szL Gs).length : Int))) (y := (s : Int)) O1.out rfl rfl (by first | rfl | simp [Act.eval, World.setCell]) hLb hG1 ?_; intro g5 c5 w5 O5 b5 f5; have HO5 := Lib.hid O5; have HB5 := Lib.hid b5; have HF5 := Lib.hid f5; clear O5 b5 f5)
                          generalize (wr.drewN nq).setCell ⟨ob, oo + s, none⟩ (.int .i64 ((szL Gs).length : Int)) = w1 at *
                          have B5 := Lib.hid (HB5.out.below B1.out (Nat.le_trans hGM hG1) (fun a ha => Nat.le_trans hGM (O1.out.lt a ha).1))
                          have R5 := Lib.hid (R1.out.butA HB5.out (fun a z ha hz => by
                            injection hz with hz
                            subst hz
                            have := (O1.out.lt a ha).1
                            show a.block ≠ ob
                            omega))
                          have Z5 := Lib.hid (Z1.out.butA HB5.out (fun a z ha hz => by
                            have := (O1.out.lt a ha).1
                            have := hBM.out z hz
                            omega))
                          have X5 := Lib.hid (X1.out.butA HB5.out hF.out)
                          have F5 : Hid (∀ a b, (some (⟨g5, 0, none⟩ : Addr)) = some a → (some (⟨xg, 0, none⟩ : Addr)) = some b → a.block ≠ b.block) := fun a z ha hz => by
                            injection ha with ha
                            subst ha
                            rcases HF5.out with ⟨b, e1, e2⟩ | h
                            · have := hF.out b z e1 hz
                              show g5 ≠ z.block
                              omega
                            · have := (X1.out.lt _ hz).2
                              show g5 ≠ z.block
                              omega
                          clear HB5 HF5 R1 Z1 O1 X1 B1 hG1
                          go_roundw
                          case rel => exact ⟨t + 1, _, c5, by go_num, by omega, by rw [S.out, List.length_append]; rfl, by rw [S.out]; exact R5, Z5, by rw [S.out]; exact HO5, X5, F5, B5⟩
                          case measure => simp [intOf]; omega
                        · rw [hp] at hps QS
                          have S := Lib.hid (HST.out.trans (stepG_no (by rw [QS]; simp)))
                          have hge : ¬ 0 ≤ numG (Gs ++ [L1]) (s : Int) := by omega
                          generalize numG (Gs ++ [L1]) (s : Int) = num at *
                          clear QS N2 HST HPT hf3 hp
                          go_wp2_with fail
                          go_quiet (fail)
                          go_wp2_with fail
                          go_roundw
                          case rel => exact ⟨t + 1, C, e, by go_num, by omega, by rw [S.out], by rw [S.out]; exact hR.out.drewN, hZ, by rw [S.out]; exact hO.out.dn, hX.out.dn, hF, belowN hB.out⟩
                          case measure => simp [intOf]; omega
                      · rw [decide_eq_false hneg] at N2
                        have hge : 0 ≤ numG (Gs ++ [L1]) (s : Int) := by omega
                        have S := Lib.hid (HST.out.trans (stepG_no (cnd_no QS N2)))
                        generalize numG (Gs ++ [L1]) (s : Int) = num at *
                        clear QS N2 HST HPT hf3
                        cases hp : p s <;> rw [hp] at hps <;> clear hp
                        all_goals
                          go_wp2_with fail
                          go_quiet (fail)
                          go_wp2_with fail
                          go_roundw
                          case rel => exact ⟨t + 1, C, e, by go_num, by omega, by rw [S.out], by rw [S.out]; exact hR.out.drewN, hZ, by rw [S.out]; exact hO.out.dn, hX.out.dn, hF, belowN hB.out⟩
                          case measure => simp [intOf]; omega
                    · have et : t = bs.length := by omega
                      have S2 : Hid (visG (qs i) L (bs.take t) = seqG (qs i) nb i (m + 1)) := by show _ = _; rw [et, List.take_length, HVV2.out]
                      clear et
                      go_wp2_with fail
                      go_roundw
                      case rel => exact ⟨m + 1, C, e, by go_num, by omega, by rw [S2.out], by rw [← S2.out]; exact hR, hZ, by rw [← S2.out]; exact hO, hB⟩
                      case measure => simp [intOf]; omega
                · have E := Lib.hid ((GR.out m hm (by rw [← SMm]; exact hml)).trans SMm.symm)
                  have hLb : L.length ≤ 1048576 := by omega
                  have hMz : (szL Gs).length ≤ 1048576 := by omega
                  have hSw : S0 ≤ wr.heap.size := hR.out.le
                  clear HSN INm SMm
                  go_wp2_with (at_builtin; refine isAppI _ _ rfl ?_; refine wpGroY rfl _ _ rfl (w0 := wr) (y := (L.length : Int)) hZ.out rfl rfl (by first | rfl | simp [Act.eval]) hMz hSw ?_; intro g5 c5 w5 O5 b5 f5; have HO5 := Lib.hid O5; have HB5 := Lib.hid b5; clear O5 b5 f5)
                  have B5 := Lib.hid (HB5.out.below hB.out hGw2 (fun a ha => by have := (hZ.out.lt a ha).1; have := HGS.out; omega))
                  have R5 := Lib.hid (hR.out.butA HB5.out (fun a z ha hz => by
                    injection hz with hz
                    subst hz
                    have := (hZ.out.lt a ha).1
                    show a.block ≠ ob
                    omega))
                  go_roundw
                  case rel => exact ⟨i + 1, _, c5, by go_num, by omega, by rw [S.out, szL_snoc, List.length_append]; rfl, by rw [S.out, E.out]; exact R5, by rw [S.out, E.out, szL_snoc]; exact HO5, B5⟩
                  case measure => simp [intOf]; omega
            · rw [hp] at hpc hpq
              have S := Lib.hid (HN.out (by rw [hpq]; rfl))
              have hge : ¬ 0 ≤ numG Gs (i : Int) := by omega
              generalize numG Gs (i : Int) = num at *
              clear NEG hin HN HY HST hpq hf1 hp
              go_wp2_with fail
              go_roundw
              case rel => exact ⟨i + 1, B, d, by go_num, by omega, by rw [S.out], by rw [S.out]; exact hR, by rw [S.out]; exact hZ, hB⟩
              case measure => simp [intOf]; omega
          · rw [decide_eq_false hneg] at NEG
            have hin : inGs Gs (i : Int) = true := by cases h : inGs Gs (i : Int) with | true => rfl | false => rw [h] at NEG; cases NEG
            have S := Lib.hid (HN.out (by rw [hin, Bool.not_true, Bool.and_false]))
            have hge : 0 ≤ numG Gs (i : Int) := by omega
            generalize numG Gs (i : Int) = num at *
            clear NEG hin HN HY HST hpq hf1
            go_wp2_with fail
            go_roundw
            case rel => exact ⟨i + 1, B, d, by go_num, by omega, by rw [S.out], by rw [S.out]; exact hR, by rw [S.out]; exact hZ, hB⟩
            case measure => simp [intOf]; omega
        · have ei : i = k := by omega
          subst ei
          go_wp2
          go_ret2
          exact ⟨A, _, B, d, S0, rfl, by rw [HG.out]; exact HGS.out, by rw [HG.out]; exact hR, hZ, by rw [HG.out]; exact hB⟩

end Go.Proofs.Ytnhcmloaanamnaa
