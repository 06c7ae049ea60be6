/-
  What is proved here: RankOf of the reference, as a walk. Conditions: at most 65536 numbers.
-/
import Derived.Test.YtnhcmloaanamnaaRk0
import Derived.Deep.CutRange
namespace Go.Proofs.Ytnhcmloaanamnaa
open Flt Go.RowKit
set_option linter.unusedVariables false
set_option linter.unusedSimpArgs false

theorem GroI.cell {w : World} {G n g c : Nat} {h : Nat → Nat} (r : GroI w G (tgL h n) (some ⟨g, 0, none⟩) c) {j : Nat} (hj : j < n) : w.cell? ⟨g, j, none⟩ = some (.int .i64 ((h j : Nat) : Int)) := by
  have hl := tgL_len h n
  unfold GroI at r
  rw [World.ownsRow.cellAt r j (by omega), List.getElem?_map]
  simp [tgL, hj]
theorem GroI.free {w : World} {G n g c : Nat} {h : Nat → Nat} (r : GroI w G (tgL h n) (some ⟨g, 0, none⟩) c) (j : Nat) : w.frozen? ⟨g, j, none⟩ = false := World.ownsRow.frozenAt r _
theorem GroI.put {w : World} {G n g c k x : Nat} {h : Nat → Nat} (r : GroI w G (tgL h n) (some ⟨g, 0, none⟩) c) : GroI (w.setCell ⟨g, k, none⟩ (.int .i64 ((x : Nat) : Int))) G (tgL (fun j => if j = k then x else h j) n) (some ⟨g, 0, none⟩) c := by
  have r2 := ownsRow_put r (k := k) (.int .i64 ((x : Nat) : Int))
  have e : (tgL (fun j => if j = k then x else h j) n).map (Value.int .i64) = ((tgL h n).map (Value.int .i64)).set k (.int .i64 ((x : Nat) : Int)) := by
    refine List.ext_getElem (by simp [tgL]) fun j h1 h2 => ?_
    rw [List.getElem_set]
    by_cases hk : k = j
    · subst hk; simp [tgL]
    · rw [if_neg hk]; simp [tgL, Ne.symm hk]
  unfold GroI
  rw [tgL_len, e]
  rw [tgL_len] at r2
  exact r2
theorem GroI.swap {w : World} {G n g c p q : Nat} {h : Nat → Nat} (r : GroI w G (tgL h n) (some ⟨g, 0, none⟩) c) : GroI ((w.setCell ⟨g, p, none⟩ (.int .i64 ((h q : Nat) : Int))).setCell ⟨g, q, none⟩ (.int .i64 ((h p : Nat) : Int))) G (tgL (sSw h p q) n) (some ⟨g, 0, none⟩) c := by
  have := (r.put (k := p) (x := h q)).put (k := q) (x := h p)
  rw [tgL_ext (g := sSw h p q) (fun j _ => ?_)] at this
  · exact this
  · unfold sSw
    by_cases h1 : j = q
    · by_cases h2 : j = p
      · rw [if_pos h1, if_pos h2, ← h1, h2]
      · rw [if_pos h1, if_neg h2, if_pos h1]
    · rw [if_neg h1, if_neg h1]
theorem GroI.eqh {w w' : World} {G c : Nat} {L : List Int} {A : Option Addr} (r : GroI w G L A c) (e : w'.heap = w.heap) : GroI w' G L A c := by
  unfold GroI at *
  refine ⟨r.1, ?_⟩
  rcases r.2 with h1 | ⟨g1, cap, cur, h0, h2, h3, h4⟩
  · exact .inl h1
  · exact .inr ⟨g1, cap, cur, h0, h2, by rw [e]; exact h3, h4⟩
theorem below_eqh {G : Nat} {a b c : World} (h : Below G a b) (e : c.heap = b.heap) (o : c.os = b.os) (t : c.tape = b.tape) (u : c.output = b.output) : Below G a c := ⟨o.trans h.os, t.trans h.tape, u.trans h.output, by rw [e]; exact h.size, fun j hj => by rw [e]; exact h.block j hj⟩
theorem below_put2 {G : Nat} {w w' : World} (h : Below G w w') (p : Addr) (hp : G ≤ p.block) (u : Value) : Below G w (w'.setCell p u) := ⟨h.os, h.tape, h.output, by have := h.size; simpa [World.setCell] using this, fun k hk => by
  rw [Below.heap_setCell _ _ _ _ (by omega)]; exact h.block k hk⟩
set_option maxHeartbeats 16000000 in
set_option maxRecDepth 1000000 in
theorem specRnk (A : Option Addr) (c : Nat) (zs : List Nat) (H : Nat → Nat) (w : World) (hr : RowF w w.heap.size A zs) (hb : lisB zs = true) (hH : sEnd (rK zs) zs.length H) :
    Calls Try.prog 33 #[.slice A zs.length c] w fun e w' => ∃ A' c', e = .returned (.slice A' zs.length c') ∧ Hid (RowInI w' w.heap.size w'.heap.size A' (tgL H zs.length)) ∧ Hid (Below w.heap.size w w') := by
  obtain ⟨h3, hfa⟩ := lisB_yes hb
  have HR := Lib.hid hr
  have HFA : Hid (∀ x, x < zs.length → finB .f32 (at0 zs x) = true) := fun x hx => finAll_at hfa hx
  have HH := Lib.hid hH
  have hn9 : zs.length ≤ 256 := by omega
  clear hr hb hH hfa
  go_enter Try.func33, Try.ntmps33
  go_wp2_with fail
  go_loopw [3, 4] (fun s i wr => ∃ (p g d : Nat) (h : Nat → Nat), s = .slice (some ⟨g, 0, none⟩) p d ∧ i = .int .i64 ((p : Nat) : Int) ∧ p ≤ zs.length ∧ Hid (sPost (rK zs) (fun j => j) h 0 p) ∧ Hid (GroI wr w.heap.size (tgL h p) (some ⟨g, 0, none⟩) d) ∧ Hid (Below w.heap.size w wr)) (fun _ i _ => zs.length - (intOf i).toNat)
  case atStart => exact ⟨0, w.heap.size, 0, fun j => j, rfl, rfl, Nat.zero_le _, sPost.self (fun i j h1 h2 h3 => by omega), GroI.lit w (Nat.le_refl _), (Below.refl _ _).alloc (Nat.le_refl _) _⟩
  case round =>
    obtain ⟨p, g, d, h, rfl, rfl, hp2, hP, hO, hB⟩ := hrel
    have hl : (tgL h p).length = p := tgL_len _ _
    have hsz : Hid (w.heap.size ≤ wr.heap.size) := hB.out.size
    by_cases hlt : p < zs.length
    · have HSR := Lib.hid hP.out.srt
      have HP0 : h p = p := hP.out.sam.out p (by omega)
      have HTG : Hid (∀ k, 0 ≤ k → k < p → h k < h p) := fun k k1 k2 => by
        obtain ⟨i, i1, i2, e⟩ := hP.out.sam.fro k k1 k2
        rw [e, HP0]
        exact i2
      have HHB : Hid (∀ j, j < zs.length → h j < zs.length) := hP.out.sam.bd hp2 (fun j hj => hj)
      go_upto_region 6 with (at_builtin; refine wpGroI rfl _ _ rfl (w0 := wr) (y := (p : Int)) hO.out rfl (by rw [hl]; rfl) rfl (by rw [hl]; omega) hsz.out ?_; intro g4 c4 w4 O4 B4; have HO4 : Hid (GroI w4 w.heap.size (tgL h (p + 1)) (some ⟨g4, 0, none⟩) c4) := (by show GroI _ _ _ _ _; rw [tgL_snoc, HP0]; exact O4); have HB4 : Hid (Below w.heap.size w w4) := hB.out.trans B4; clear O4 B4)
      clear hO hB hsz hl HP0
      go_wp2_with fail
      go_loopw [5] (fun i wr => ∃ (q : Nat), i = .int .i64 ((q : Nat) : Int) ∧ q ≤ p ∧ Hid (∀ k, q ≤ k → k < p → rK zs (h p) < rK zs (h k)) ∧ Hid (GroI wr w.heap.size (tgL (sMv h p q) (p + 1)) (some ⟨g4, 0, none⟩) c4) ∧ Hid (Below w.heap.size w wr)) (fun i _ => (intOf i).toNat)
      case atStart => exact ⟨p, rfl, Nat.le_refl _, fun k h1 h2 => by omega, by rw [sMv_start]; exact HO4, HB4⟩
      case round =>
        obtain ⟨q, rfl, hq2, hG, hR2, hB2⟩ := hrel
        have HEND : Hid (q = 0 ∨ ¬ rK zs (h p) < rK zs (h (q - 1)) → sPost (rK zs) (fun j => j) (sMv h p q) 0 (p + 1)) := fun hl =>
          ⟨(hP.out.sam.wide (Nat.le_refl _) (Nat.le_succ _)).trans (sMv_sam (Nat.zero_le _) hq2), sMv_srt (Nat.zero_le _) hq2 HSR.out HTG.out hG.out hl⟩
        by_cases hqa : 0 < q
        · have c1 := hR2.out.cell (j := q) (by omega)
          have c2' := hR2.out.cell (j := q - 1) (by omega)
          have f1 := hR2.out.free q
          have f2 := hR2.out.free (q - 1)
          have hgl := (hR2.out.lt _ rfl).1
          have e1 : sMv h p q q = h p := by unfold sMv; rw [if_neg (by omega), if_pos rfl]
          have e2 : sMv h p q (q - 1) = h (q - 1) := by unfold sMv; rw [if_pos (by omega)]
          rw [e1] at c1
          rw [e2] at c2'
          have R3 : Hid (GroI ((wr.setCell ⟨g4, q, none⟩ (.int .i64 ((h (q - 1) : Nat) : Int))).setCell ⟨g4, q - 1, none⟩ (.int .i64 ((h p : Nat) : Int))) w.heap.size (tgL (sMv h p (q - 1)) (p + 1)) (some ⟨g4, 0, none⟩) c4) := by
            have := hR2.out.swap (p := q) (q := q - 1)
            rw [sMv_step hqa hq2, e1, e2] at this
            exact this
          have B3 : Hid (Below w.heap.size w ((wr.setCell ⟨g4, q, none⟩ (.int .i64 ((h (q - 1) : Nat) : Int))).setCell ⟨g4, q - 1, none⟩ (.int .i64 ((h p : Nat) : Int)))) := below_put2 (below_put2 hB2.out ⟨g4, q, none⟩ hgl _) ⟨g4, q - 1, none⟩ hgl _
          have c3 : (wr.setCell ⟨g4, q, none⟩ (.int .i64 ((h (q - 1) : Nat) : Int))).cell? ⟨g4, q - 1, none⟩ = some (.int .i64 ((h (q - 1) : Nat) : Int)) := by
            rw [World.cell?_setCell_other _ _ _ _ (by intro h; injection h with _ h2 _; omega)]; exact c2'
          have HGN : Hid (rK zs (h p) < rK zs (h (q - 1)) → ∀ k, q - 1 ≤ k → k < p → rK zs (h p) < rK zs (h k)) := fun hk k k1 k2 => by
            by_cases e : k = q - 1
            · rw [e]; exact hk
            · exact hG.out k (by omega) k2
          have w1 : IntKind.i64.wrap ((q : Int) - 1) = ((q - 1 : Nat) : Int) := by rw [show (q : Int) - 1 = ((q - 1 : Nat) : Int) by omega]; exact IntWalk.i64_in _ (by omega)
          have hqn : (q : Int) < ((p + 1 : Nat) : Int) := by omega
          have hqm : ((q - 1 : Nat) : Int) < ((p + 1 : Nat) : Int) := by omega
          have hqa2 : (0 : Int) < (q : Int) := by omega
          have hb1 := HHB.out p hlt
          have hb2 := HHB.out (q - 1) (by omega)
          have hb3 : ((h p : Nat) : Int) < (zs.length : Int) := by omega
          have hb4 : ((h (q - 1) : Nat) : Int) < (zs.length : Int) := by omega
          have hb5 : (0 : Int) ≤ ((h p : Nat) : Int) := by omega
          have hb6 : (0 : Int) ≤ ((h (q - 1) : Nat) : Int) := by omega
          obtain ⟨b, off, hA, hbl, hcell⟩ := (HR.out.below hB2.out) (by omega)
          subst hA
          have v1 := hcell (h p) hb1
          have v2 := hcell (h (q - 1)) hb2
          have hord : (FloatKind.f32.format.order (at0 zs (h p)) (at0 zs (h (q - 1))) == some .gt) = decide (rK zs (h p) < rK zs (h (q - 1))) := by
            rw [gt_sV (HFA.out _ hb1) (HFA.out _ hb2)]
            unfold rK
            congr 1
            exact propext (by omega)
          clear hG HSR HTG HHB e1 e2 hcell hbl
          by_cases hk : rK zs (h p) < rK zs (h (q - 1))
          · rw [decide_eq_true hk] at hord
            have HG2 := Lib.hid (HGN.out hk)
            clear hk HGN HEND
            generalize at0 zs (h p) = x1 at *
            generalize at0 zs (h (q - 1)) = x2 at *
            go_wp2_with fail
            go_quiet (fail)
            go_wp2_with fail
            go_roundw
            case rel => exact ⟨q - 1, by first | rfl | (congr 1; omega) | go_num, by omega, HG2, R3.out.eqh rfl, below_eqh B3.out rfl rfl rfl rfl⟩
            case measure => simp [intOf]; omega
          · rw [decide_eq_false hk] at hord
            have HP2 := Lib.hid (HEND.out (.inr hk))
            clear hk HGN HEND R3 B3 c3
            generalize at0 zs (h p) = x1 at *
            generalize at0 zs (h (q - 1)) = x2 at *
            go_wp2_with fail
            go_quiet (fail)
            go_wp2_with fail
            go_roundw
            case rel => exact ⟨p + 1, g4, c4, sMv h p q, rfl, by go_num, by omega, HP2, hR2.out.eqh rfl, below_eqh hB2.out rfl rfl rfl rfl⟩
            case measure => simp [intOf]; omega
        · have HP2 := Lib.hid (HEND.out (.inl (by omega)))
          have hqa2 : ¬ (0 : Int) < (q : Int) := by omega
          have hqa3 : (decide ((0 : Int) < (q : Int))) = false := decide_eq_false hqa2
          clear HEND hG
          go_wp2_with fail
          go_quiet (fail)
          go_wp2_with fail
          go_roundw
          case rel => exact ⟨p + 1, g4, c4, sMv h p q, rfl, by go_num, by omega, HP2, hR2.out.eqh rfl, below_eqh hB2.out rfl rfl rfl rfl⟩
          case measure => simp [intOf]; omega
    · have e : p = zs.length := by omega
      subst e
      have EQ : Hid (tgL h zs.length = tgL H zs.length) := tgL_ext (hP.out.fin.uniq HH.out)
      have RI : Hid (RowInI wr w.heap.size wr.heap.size (some ⟨g, 0, none⟩) (tgL H zs.length)) := by
        show RowInI _ _ _ _ _
        rw [← EQ.out]
        exact ⟨Nat.le_refl _, hO.out.lt, fun h0 => ⟨g, 0, rfl, (hO.out.lt _ rfl).1, (hO.out.lt _ rfl).2, fun j hj => by
          rw [tgL_len] at hj
          rw [tgL_at hj, Nat.zero_add]
          exact hO.out.cell hj, fun j hj => hO.out.free _⟩⟩
      go_wp2_with fail
      go_ret
      exact ⟨_, _, rfl, RI, hB⟩
end Go.Proofs.Ytnhcmloaanamnaa
