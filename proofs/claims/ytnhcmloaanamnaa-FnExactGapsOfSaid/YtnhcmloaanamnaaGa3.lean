/-
  What is proved here: GapsOf of the reference, as a walk; both packages give the same. Conditions: at most 1048576 numbers.
-/
import Derived.Test.YtnhcmloaanamnaaGa2
namespace Go.Proofs.Ytnhcmloaanamnaa
open Flt Go.RowKit
attribute [local go_sem] run_store_float run_store_fS
set_option linter.unusedVariables false
set_option linter.unusedSimpArgs false

/-- an append of a row that came in, onto an empty row of one's own -/
theorem wpCopy {ops : Array Oper} {rest : List Oper} {o : Oper} {a : Act} {Q : Exit → Act → World → Prop} (hgd : o.guard = none) (s x : Operand)
    (ho : o.op = .call { callee := .builtin .append, args := #[s, x], argTypes := #[22, 22] })
    {w w0 : World} {b off c n : Nat} {zs : List Nat} (hw : w = w0.alloc (.cells #[] 34)) (hb : b < w0.heap.size) (hc : ∀ j, j < zs.length → w0.cell? ⟨b, off + j, none⟩ = some (.float .f32 (at0 zs j))) (hs : a.eval s = .slice (some ⟨w0.heap.size, 0, none⟩) 0 0) (hx : a.eval x = .slice (some ⟨b, off, none⟩) zs.length c) (h0 : 0 < zs.length) (hL : zs.length ≤ 1048576)
    (h : ∀ g' c' w', OwnA w' w0.heap.size zs g' c' → Below w0.heap.size w0 w' → wpList Try.prog ops Q rest (a.put o.dst (.slice (some ⟨g', 0, none⟩) zs.length c')) w') : wpList Try.prog ops Q (o :: rest) a w := by
  subst hw
  obtain ⟨i0, hi, hz0, hz1, hz2⟩ := info_parts info_f32k
  have hba : Below w0.heap.size w0 (w0.alloc (.cells #[] 34)) := (Below.refl _ _).alloc (Nat.le_refl _) _
  refine wpList_append_lies _ hgd s x 22 ho w0.heap.size 34 i0 (.float .f32 0) 1 4 Try.underlying22 hi hz0 hz1 hz2 rfl (by decide) _ 0 [] hs (OwnA.lit0 w0) ⟨b, off, none⟩ zs.length c (zs.map (Value.float .f32)) hx (by simp) (news_of hb hc hba) (by intro u hu; obtain ⟨z, _, rfl⟩ := List.mem_map.1 hu; rfl) h0 (by unfold maxLen; omega) (by omega) (by simp) _ rfl ?_
  intro g' cap w' h1 h2 h3 h4
  have h1' : OwnA w' w0.heap.size zs g' cap := by
    unfold OwnA
    simp only [Nat.zero_add, List.nil_append] at h1
    exact h1
  have h9 := h g' cap w' h1' ⟨h2.os.trans hba.os, h2.tape.trans hba.tape, h2.output.trans hba.output, Nat.le_trans hba.size h2.size, fun k hk => by
    rw [h2.block k (Nat.lt_of_lt_of_le hk hba.size) (by intro e; injection e with e; have e : k = w0.heap.size := e; omega)]
    exact hba.block k hk⟩
  simp only [Nat.zero_add]
  exact h9
theorem OwnA.sRow {w : World} {G g c : Nat} {zs : List Nat} (r : OwnA w G zs g c) : sFRw (at0 zs) w g zs.length (fun j => j) := ⟨r.lo.2, fun j hj => by rw [World.ownsRow.cellAt r j (by omega), List.getElem?_map]; simp [at0, List.getD, hj], fun j hj => World.ownsRow.frozenAt r _⟩
set_option maxHeartbeats 16000000 in
set_option maxRecDepth 1000000 in
theorem specGap (A : Option Addr) (c : Nat) (zs : List Nat) (H : Nat → Nat) (w : World) (hr : RowF w w.heap.size A zs) (hb : lisB zs = true) (h2 : 2 ≤ zs.length) (hH : sEnd (gK zs) zs.length H) :
    Calls Try.prog 17 #[.slice A zs.length c] w (LP (gpT zs H) (cntG (gpB zs H) (zs.length - 1)) (gpB zs H) w) := by
  obtain ⟨h3, hfa⟩ := lisB_yes hb
  have HL := Lib.hid (specList A c zs w _ hr (by omega))
  rw [hb] at HL
  obtain ⟨b, off, rfl, hbw, hcell⟩ := hr (by omega)
  have HC := Lib.hid hcell
  have HFA : Hid (∀ x, x < zs.length → finB .f32 (at0 zs x) = true) := fun x hx => finAll_at hfa hx
  have HH := Lib.hid hH
  have hfin : Hid (∀ ys, Tl (gpT zs H) (zs.length - 1) ys → finAll ys = gpB zs H) := fun ys h => h.fin
  have h0 : 0 < zs.length := by omega
  have hn9 : zs.length ≤ 1048576 := by omega
  have HSU : Hid (∀ x y, x < zs.length → y < zs.length → FloatKind.f32.format.order (at0 zs x) (at0 zs y) = some (compare (sV .f32 (at0 zs x)) (sV .f32 (at0 zs y)))) := fun x y hx hy => ord_fin (finAll_at hfa hx) (finAll_at hfa hy)
  clear hr hb hH hfa hcell
  go_enter Try.func17, Try.ntmps17
  go_wp2_with (first | (go_at_call 32; refine HL.out.mono ?_; rintro e w' ⟨rfl, n, rfl⟩) | (at_builtin; refine wpCopy rfl _ _ rfl (n := 0) (w0 := w.drewN _) (zs := zs) rfl (by exact hbw) (by exact HC.out) rfl rfl h0 hn9 ?_; intro g c2 w2 O2 B2; have HO2 := Lib.hid O2; have HB2 : Hid (Below w.heap.size w w2) := (belowN (Below.refl _ _)).trans B2; clear O2 B2))
  have R0 := Lib.hid HO2.out.sRow
  have hgw : w.heap.size ≤ g := HO2.out.lo.1
  clear HO2 HC HL hbw
  go_loopw [5] (fun i wr => ∃ (p : Nat) (h : Nat → Nat), i = .int .i64 ((p : Nat) : Int) ∧ 1 ≤ p ∧ p ≤ zs.length ∧ Hid (sPost (gK zs) (fun j => j) h 0 p) ∧ Hid (sFRw (at0 zs) wr g zs.length h) ∧ Hid (sBut g w2 wr)) (fun i _ => zs.length - (intOf i).toNat)
  case atStart => exact ⟨1, fun j => j, rfl, Nat.le_refl _, by omega, sPost.self (fun i j h1 h2 h3 => by omega), R0, sBut.refl _ _⟩
  case round =>
    clear R0
    obtain ⟨p, h, rfl, hp1, hp2, hP, hR, hB⟩ := hrel
    by_cases hlt : p < zs.length
    · have HSR := Lib.hid hP.out.srt
      have HTG : Hid (∀ k, 0 ≤ k → k < p → h k < h p) := fun k k1 k2 => by
        obtain ⟨i, i1, i2, e⟩ := hP.out.sam.fro k k1 k2
        rw [e, hP.out.sam.out p (by omega)]
        exact i2
      have HHB : Hid (∀ j, j < zs.length → h j < zs.length) := hP.out.sam.bd hp2 (fun j hj => hj)
      go_wp2_with fail
      generalize wr = wo at *
      go_loopw [6] (fun i wr => ∃ (q : Nat), i = .int .i64 ((q : Nat) : Int) ∧ q ≤ p ∧ Hid (∀ k, q ≤ k → k < p → gK zs (h p) < gK zs (h k)) ∧ Hid (sFRw (at0 zs) wr g zs.length (sMv h p q)) ∧ Hid (sBut g wo wr)) (fun i _ => (intOf i).toNat)
      case atStart => exact ⟨p, rfl, Nat.le_refl _, fun k h1 h2 => by omega, by rw [sMv_start]; exact hR, sBut.refl _ _⟩
      case round =>
        obtain ⟨q, rfl, hq2, hG, hR2, hB2⟩ := hrel
        have HEND : Hid (q = 0 ∨ ¬ gK zs (h p) < gK zs (h (q - 1)) → sPost (gK zs) (fun j => j) (sMv h p q) 0 (p + 1)) := fun hl =>
          ⟨(hP.out.sam.wide (Nat.le_refl _) (Nat.le_succ _)).trans (sMv_sam (Nat.zero_le _) hq2), sMv_srt (Nat.zero_le _) hq2 HSR.out HTG.out hG.out hl⟩
        by_cases hqa : 0 < q
        · have c1 := hR2.out.cell _ (j := q) (by omega)
          have c2' := hR2.out.cell _ (j := q - 1) (by omega)
          have f1 := hR2.out.free q (by omega)
          have f2 := hR2.out.free (q - 1) (by omega)
          have e1 : sMv h p q q = h p := by unfold sMv; rw [if_neg (by omega), if_pos rfl]
          have e2 : sMv h p q (q - 1) = h (q - 1) := by unfold sMv; rw [if_pos (by omega)]
          rw [e1] at c1
          rw [e2] at c2'
          have R3 : Hid (sFRw (at0 zs) ((wr.setCell ⟨g, q, none⟩ (.float .f32 (at0 zs (h (q - 1))))).setCell ⟨g, q - 1, none⟩ (.float .f32 (at0 zs (h p)))) g zs.length (sMv h p (q - 1))) := by
            have := hR2.out.swap _ (p := q) (q := q - 1) (by omega) (by omega) (by omega)
            rw [sMv_step hqa hq2, e1, e2] at this
            exact this
          have B3 : Hid (sBut g wo ((wr.setCell ⟨g, q, none⟩ (.float .f32 (at0 zs (h (q - 1))))).setCell ⟨g, q - 1, none⟩ (.float .f32 (at0 zs (h p))))) := (hB2.out.set _).set _
          have c3 : (wr.setCell ⟨g, q, none⟩ (.float .f32 (at0 zs (h (q - 1))))).cell? ⟨g, q - 1, none⟩ = some (.float .f32 (at0 zs (h (q - 1)))) := by
            rw [World.cell?_setCell_other _ _ _ _ (by intro h; injection h with _ h2 _; omega)]; exact c2'
          have HGN : Hid (gK zs (h p) < gK zs (h (q - 1)) → ∀ k, q - 1 ≤ k → k < p → gK zs (h p) < gK zs (h k)) := fun hk k k1 k2 => by
            by_cases e : k = q - 1
            · rw [e]; exact hk
            · exact hG.out k (by omega) k2
          have w1 : IntKind.i64.wrap ((q : Int) - 1) = ((q - 1 : Nat) : Int) := by rw [show (q : Int) - 1 = ((q - 1 : Nat) : Int) by omega]; exact IntWalk.i64_in _ (by omega)
          have hqn : (q : Int) < (zs.length : Int) := by omega
          have hqm : ((q - 1 : Nat) : Int) < (zs.length : Int) := by omega
          have hqa2 : (0 : Int) < (q : Int) := by omega
          have hord : (FloatKind.f32.format.order (at0 zs (h p)) (at0 zs (h (q - 1))) == some .lt) = decide (gK zs (h p) < gK zs (h (q - 1))) := lt_sV (HFA.out _ (HHB.out _ (by omega))) (HFA.out _ (HHB.out _ (by omega)))
          have B4 := Lib.hid (hB.out.trans hB2.out)
          clear hG HSR HTG HHB e1 e2
          by_cases hk : gK zs (h p) < gK zs (h (q - 1))
          · rw [decide_eq_true hk] at hord
            have HG2 := Lib.hid (HGN.out hk)
            clear hk HGN HEND
            generalize at0 zs (h p) = x1 at *
            generalize at0 zs (h (q - 1)) = x2 at *
            go_wp2_with fail
            go_quiet (fail)
            go_wp2_with fail
            go_roundw
            case rel => exact ⟨q - 1, by first | rfl | (congr 1; omega) | go_num, by omega, HG2, R3.out.eqh _ rfl, B3.out.eqh rfl rfl rfl rfl⟩
            case measure => simp [intOf]; omega
          · rw [decide_eq_false hk] at hord
            have HP2 := Lib.hid (HEND.out (.inr hk))
            clear hk HGN HEND R3 B3 c3
            generalize at0 zs (h p) = x1 at *
            generalize at0 zs (h (q - 1)) = x2 at *
            go_wp2_with fail
            go_quiet (fail)
            go_wp2_with fail
            go_roundw
            case rel => exact ⟨p + 1, sMv h p q, by go_num, by omega, by omega, HP2, hR2.out.eqh _ rfl, B4.out.eqh rfl rfl rfl rfl⟩
            case measure => simp [intOf]; omega
        · have HP2 := Lib.hid (HEND.out (.inl (by omega)))
          have hqa2 : ¬ (0 : Int) < (q : Int) := by omega
          have hqa3 : (decide ((0 : Int) < (q : Int))) = false := decide_eq_false hqa2
          clear HEND hG
          have B4 := Lib.hid (hB.out.trans hB2.out)
          go_wp2_with fail
          go_quiet (fail)
          go_wp2_with fail
          go_roundw
          case rel => exact ⟨p + 1, sMv h p q, by go_num, by omega, by omega, HP2, hR2.out.eqh _ rfl, B4.out.eqh rfl rfl rfl rfl⟩
          case measure => simp [intOf]; omega
    · have e : p = zs.length := by omega
      subst e
      have EQ : Hid (srtL zs h = srtL zs H) := srtL_ext (hP.out.fin.uniq HH.out)
      have RS : Hid (RowF wr wr.heap.size (some ⟨g, 0, none⟩) (srtL zs H)) := by
        have := hR.out.rowF
        rwa [EQ.out] at this
      have Bw : Hid (Below w.heap.size w wr) := HB2.out.trans (hB.out.below hgw)
      have HFS : Hid (∀ x, x < zs.length → finB .f32 (at0 (srtL zs H) x) = true) := fun x hx => by rw [srtL_at hx]; exact HFA.out _ (HH.out.bd x hx)
      have HSL : Hid ((srtL zs H).length = zs.length) := srtL_len zs H
      have HGT : Hid (∀ k, gpT zs H k = fop .sub .f32 (can .f32 (at0 (srtL zs H) (k + 1))) (can .f32 (at0 (srtL zs H) k))) := fun k => rfl
      clear EQ hP hR hB HB2 HFA HSU HH
      generalize srtL zs H = S at *
      go_wp2_with fail
      generalize wr = wo at *
      go_loopw [8, 9] (fun o i wr => ∃ (k g2 d2 : Nat) (L : List Nat), o = .slice (some ⟨g2, 0, none⟩) L.length d2 ∧ i = .int .i64 ((k + 1 : Nat) : Int) ∧ k + 1 ≤ zs.length ∧ Hid (Tl (gpT zs H) k L) ∧ Hid (OwnA wr wo.heap.size L g2 d2) ∧ Hid (Below wo.heap.size wo wr)) (fun _ i _ => zs.length - (intOf i).toNat)
      case atStart => exact ⟨0, _, 0, [], rfl, rfl, by omega, Tl.nil _, OwnA.lit0 wo, (Below.refl _ _).alloc (Nat.le_refl _) _⟩
      case round =>
        obtain ⟨k, g2, d2, L, rfl, rfl, hk, hT, hO, hB⟩ := hrel
        have hsz : Hid (wo.heap.size ≤ wr.heap.size) := hB.out.size
        have hl : L.length ≤ 256 := by rw [hT.out.len]; omega
        have hlo := hO.out.lo.1
        by_cases hlt : k + 1 < zs.length
        · obtain ⟨b5, off5, hA5, hb5, hcell5⟩ := (RS.out.below hB.out) (by rw [HSL.out]; omega)
          injection hA5 with hA5
          injection hA5 with i1 i2 _
          subst i1 i2
          have hc := hcell5 (k + 1) (by rw [HSL.out]; exact hlt)
          have hd := hcell5 k (by rw [HSL.out]; omega)
          rw [Nat.zero_add] at hc hd
          have hw : IntKind.i64.wrap (((k + 1 : Nat) : Int) - 1) = (k : Int) := by rw [show ((k + 1 : Nat) : Int) - 1 = (k : Int) by omega]; exact IntWalk.i64_in _ (by omega)
          have hw2 : IntKind.i64.wrap ((k : Int) + 1 - 1) = (k : Int) := by rw [show (k : Int) + 1 - 1 = (k : Int) by omega]; exact IntWalk.i64_in _ (by omega)
          have hk3 : (k : Int) < (zs.length : Int) := by omega
          have hk4 : (k : Int) + 1 < (zs.length : Int) := by omega
          have hk5 : (0 : Int) ≤ (k : Int) + 1 := by omega
          have hk6 : (0 : Int) ≤ (k : Int) := by omega
          have hw3 : IntKind.i64.wrap (k : Int) = (k : Int) := IntWalk.i64_in _ (by omega)
          obtain ⟨r, hrun, hcr⟩ := sub_num (HFS.out _ hlt) (HFS.out k (by omega))
          have HT2 : Hid (Tl (gpT zs H) (k + 1) (L ++ [r])) := hT.out.snoc (by rw [HGT.out k]; exact hcr)
          clear hcell5 hcr hb5
          go_wp2_with fail
          go_region_law (refine stepApp rfl _ _ rfl hO.out.dr rfl (by simp [Act.eval]) (by simp [Act.eval]) (by omega) hsz.out ?_; intro g4 c4 w4 O4 B4; have HO4 := Lib.hid O4; have HB4 : Hid (Below wo.heap.size wo w4) := below_app (hB.out.drew) (Nat.le_refl _) hlo B4; clear O4 B4)
          all_goals
            go_wp2_with fail
            go_roundw
            case rel => exact ⟨k + 1, g4, c4, L ++ [r], by rw [snoc_len], by first | rfl | (congr 1; omega) | go_num, by omega, HT2, HO4, HB4⟩
            case measure => simp [intOf]; omega
        · have e : k = zs.length - 1 := by omega
          have HT3 : Hid (Tl (gpT zs H) (zs.length - 1) L) := by have := hT.out; rwa [e] at this
          have hyl : L.length = zs.length - 1 := HT3.out.len
          have HLS := specLst (some ⟨g2, 0, none⟩) d2 L wr _ hO.out.rowIn.toRow (by omega)
          rw [hfin.out L HT3.out, hyl] at HLS
          have HLST := Lib.hid HLS
          have RI : Hid (RowIn wr w.heap.size wr.heap.size (some ⟨g2, 0, none⟩) L) := hO.out.rowIn.lower Bw.out.size
          have BB := Lib.hid (Bw.out.trans (hB.out.mono Bw.out.size))
          have hik : ((k + 1 : Nat) : Int) = (zs.length : Int) := by omega
          clear HLS hT e
          rw [hyl]
          cases hg : gpB zs H
          · rw [hg] at HLST
            have HG := Lib.hid hg
            clear hg
            go_wp2_with (go_at_call 38; refine HLST.out.mono ?_; rintro e w' ⟨-, he, n, rfl⟩; obtain rfl := he rfl)
            go_ret2
            rw [HG.out]
            exact lp_no2 rfl rfl (belowN BB.out)
          · rw [hg] at HLST
            have HG := Lib.hid hg
            clear hg
            go_wp2_with (go_at_call 38; refine HLST.out.mono ?_; rintro e w' ⟨he, -, n, rfl⟩; obtain rfl := he rfl)
            go_ret2
            rw [HG.out]
            exact ⟨_, _, L, rfl, HT3, RI.out.but (ButIn.of (belowN (Below.refl _ _))) (.inr (Nat.zero_le _)), belowN BB.out⟩
end Go.Proofs.Ytnhcmloaanamnaa
