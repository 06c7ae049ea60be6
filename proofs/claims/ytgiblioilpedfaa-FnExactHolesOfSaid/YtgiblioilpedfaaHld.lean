/-
  What is proved here: slices.DeleteFunc over groups, with the program's test of the edge, as walks. Conditions: groups of a field.
-/
import Derived.Test.YtgiblioilpedfaaHlc
import Derived.Lib.SliceRun
namespace Go.Proofs.Ytgiblioilpedfaa
open Go.RowKit
set_option linter.unusedVariables false

theorem Grps.at3 {w : World} {M : Nat} {Gs : List (List Int)} {Ls : List (Option Addr × Nat × Nat)} {B : Option Addr} {m : Nat} (h : Grps w M Gs Ls B) (hm : m < Gs.length) : ∃ A c, Ls.getD m (none, 0, 0) = (A, (Gs.getD m []).length, c) ∧ RowV w w.heap.size A (Gs.getD m []).length (iv (atI (Gs.getD m []))) ∧ ∀ a b, A = some a → B = some b → b.block ≠ a.block := by
  refine ⟨(Ls.getD m (none, 0, 0)).1, (Ls.getD m (none, 0, 0)).2.2, ?_, h.row m hm, fun a b ha hb e => h.far m hm a b ha hb e.symm⟩
  rw [← h.cnt m hm]
theorem first_hl (q : Nat → Bool) (n : Nat) : ∃ R, R ≤ n ∧ (∀ t, t < R → q t = false) ∧ (R < n → q R = true) := by
  induction n with
  | zero => exact ⟨0, Nat.le_refl _, fun t ht => absurd ht (Nat.not_lt_zero _), fun h => absurd h (Nat.not_lt_zero _)⟩
  | succ n ih =>
    obtain ⟨R, h1, h2, h3⟩ := ih
    by_cases e : R < n
    · exact ⟨R, by omega, h2, fun _ => h3 e⟩
    · have : R = n := by omega
      subst this
      cases hq : q R with
      | false => exact ⟨R + 1, Nat.le_refl _, fun t ht => by
          by_cases g : t = R
          · rw [g]; exact hq
          · exact h2 t (by omega), fun h => by omega⟩
      | true => exact ⟨R, by omega, h2, fun _ => hq⟩
theorem VarT.butA {w w' : World} {v : Nat} {x y : Int} {F A : Option Addr} {n f : Nat} (h : VarT w v x y F n f) (hb : ButA A w w') (hd : ∀ a, A = some a → a.block ≠ v) : VarT w' v x y F n f := by
  have e : w'.heap[v]? = w.heap[v]? := hb.block v h.lt hd
  exact ⟨Nat.lt_of_lt_of_le h.lt hb.size, by rw [World.cell?_of_block (w := w) e]; exact h.c0, by rw [World.cell?_of_block (w := w) e]; exact h.c1, by rw [World.cell?_of_block (w := w) e]; exact h.c2⟩
theorem GroS.cap {w : World} {G c g : Nat} {L : List (Option Addr × Nat × Nat)} (h : GroS w G L (some ⟨g, 0, none⟩) c) : L.length ≤ c := by
  rcases h.2 with ⟨h1, _⟩ | ⟨g1, cap, cur, h0, _, _, h3, _⟩
  · cases h1
  · injection h0 with _ _ e3
    omega
theorem GroS.rowM {w : World} {G c g : Nat} {L : List (Option Addr × Nat × Nat)} (h : GroS w G L (some ⟨g, 0, none⟩) c) : RowM w g L.length (fun m => sV (L.getD m (none, 0, 0))) :=
  ⟨(h.lt _ rfl).2, fun j hj => by
    obtain ⟨g', e, _, hc⟩ := h.at hj
    injection e with e
    injection e with e1 _ _
    subst e1
    exact hc, fun j hj => World.ownsRow.frozenAt h _⟩
theorem butA_cells {g : Nat} : ∀ (vs : List Value) (o : Nat) (a w : World), ButA (some ⟨g, 0, none⟩) a w → ButA (some ⟨g, 0, none⟩) a (w.setCells g o vs)
  | [], _, _, _, h => h
  | v :: r, o, a, w, h => butA_cells r (o + 1) a _ (⟨h.os, h.tape, h.output, by have := h.size; simpa [World.setCell] using this, fun k hk hd => by
      rw [Below.heap_setCell _ _ _ _ (by have := hd _ rfl; exact fun e => this e.symm)]
      exact h.block k hk hd⟩)
theorem butA_trans {A : Option Addr} {a b c : World} (h : ButA A a b) (g : ButA A b c) : ButA A a c :=
  ⟨g.os.trans h.os, g.tape.trans h.tape, g.output.trans h.output, Nat.le_trans h.size g.size, fun k hk hd => (g.block k (Nat.lt_of_lt_of_le hk h.size) hd).trans (h.block k hk hd)⟩
theorem zeroS (w : World) : (zeroValue 37).run Try.prog w = .ok (.slice none 0 0) w := by kernel_rfl
theorem run_store_slice (P : Program) (w : World) (a : Addr) (m : Mode) (b : Option Addr) (n c : Nat) : (store a (.slice b n c) m).run P w = stored P w a (.slice b n c) m := run_store P w a _ m rfl
attribute [local go_sem] run_store_slice

set_option maxHeartbeats 4000000 in
theorem idxS (g d v M G R : Nat) (x y : Int) (F : Option Addr) (n f : Nat) (Gs : List (List Int)) (Ls : List (Option Addr × Nat × Nat)) (w : World) (V : VarT w v x y F n f) (hv : fvB x y n = true) (hS : GroS w G Ls (some ⟨g, 0, none⟩) d) (hG : Grps w M Gs Ls (some ⟨g, 0, none⟩)) (hin : ∀ k, k < Gs.length → ∀ b ∈ Gs.getD k [], 0 ≤ b ∧ b < n) (hgl : ∀ k, k < Gs.length → (Gs.getD k []).length ≤ n) (hls : Ls.length ≤ 256) (hR : R ≤ Ls.length) (hall : ∀ t, t < R → hlB x y (Gs.getD t []) = false) (hend : R < Ls.length → hlB x y (Gs.getD R []) = true) :
    Calls Try.prog 159 #[.slice (some ⟨g, 0, none⟩) Ls.length d, .func (.func 85) #[] #[.pointer (some ⟨v, 0, none⟩)]] w fun e w' => e = .returned (.int .i64 (if R < Ls.length then (R : Int) else -1)) ∧ Hid (Below w.heap.size w w') := by
  have hn : n ≤ 256 := (fvB_yes hv).2.2.2
  have HV := Lib.hid V
  have HFV := Lib.hid hv
  have HS := Lib.hid hS
  have HG := Lib.hid hG
  have HIN := Lib.hid hin
  have HGL := Lib.hid hgl
  have HALL := Lib.hid hall
  have HEND := Lib.hid hend
  have HLL : Hid (Ls.length = Gs.length) := hG.len
  clear V hv hS hG hin hgl hall hend
  go_enter Try.func159, Try.ntmps159
  go_wp2
  go_loopw [8] (fun i wr => ∃ k : Nat, k ≤ R ∧ i = .int .i64 k ∧ Hid (Below w.heap.size w wr)) (fun i _ => R - (intOf i).toNat)
  case atStart => exact ⟨0, Nat.zero_le _, rfl, Below.refl _ _⟩
  case round =>
    obtain ⟨k, hk, rfl, hB⟩ := hrel
    by_cases hkn : k < Ls.length
    · have hkG : k < Gs.length := by have := HLL.out; omega
      obtain ⟨bg, eb, hbl, hcg⟩ := (HS.out.below hB.out).at hkn
      injection eb with eb
      injection eb with eb _ _
      subst eb
      obtain ⟨A1, c1, e1, hrw, _⟩ := (HG.out.below hB.out).at3 hkG
      rw [e1] at hcg
      unfold sV at hcg
      dsimp only at hcg
      have hle := HGL.out k hkG
      have HC := Lib.hid (cloHol A1 c1 v x y F n f (Gs.getD k []) wr (HV.out.below hB.out) (by omega) HFV.out (fun t ht => HIN.out k hkG _ (getD_mem ht)) hrw (by omega))
      have hal := fun h => HALL.out k h
      have hen : k = R → hlB x y (Gs.getD k []) = true := fun h => by rw [h]; exact HEND.out (by omega)
      clear hrw e1
      generalize Gs.getD k [] = L1 at *
      generalize L1.length = n1 at *
      by_cases hlt : k < R
      · have h0 := hal hlt
        rw [h0] at HC
        clear h0 hal hen
        go_wp2_with (go_at_call 85; refine HC.out.mono ?_; rintro e w2 ⟨rfl, hb2⟩; have HB2 := Lib.hid (hB.out.trans (hb2.out.mono hB.out.size)); clear hb2)
        go_roundw
        case rel => exact ⟨k + 1, by omega, by go_num, HB2⟩
        case measure => simp [intOf]; omega
      · have ek : k = R := by omega
        have h0 := hen ek
        rw [h0] at HC
        have EK := Lib.hid ek
        clear h0 hal hen ek
        go_wp2_with (go_at_call 85; refine HC.out.mono ?_; rintro e w2 ⟨rfl, hb2⟩; have HB2 := Lib.hid (hB.out.trans (hb2.out.mono hB.out.size)); clear hb2)
        go_ret
        exact ⟨by rw [EK.out]; rfl, HB2⟩
    · have ek : k = R := by omega
      have EK := Lib.hid ek
      clear ek
      go_wp2
      go_ret
      exact ⟨by first | rfl | rw [if_neg (show ¬ R < Ls.length by have := EK.out; omega)], hB⟩

set_option maxHeartbeats 8000000 in
theorem delS (g d v M G : Nat) (x y : Int) (F : Option Addr) (n f : Nat) (Gs : List (List Int)) (Ls : List (Option Addr × Nat × Nat)) (w : World) (V : VarT w v x y F n f) (hvg : v ≠ g) (hv : fvB x y n = true) (hS : GroS w G Ls (some ⟨g, 0, none⟩) d) (hG : Grps w M Gs Ls (some ⟨g, 0, none⟩)) (hin : ∀ k, k < Gs.length → ∀ b ∈ Gs.getD k [], 0 ≤ b ∧ b < n) (hgl : ∀ k, k < Gs.length → (Gs.getD k []).length ≤ n) (hls : Ls.length ≤ 256) :
    Calls Try.prog 84 #[.slice (some ⟨g, 0, none⟩) Ls.length d, .func (.func 85) #[] #[.pointer (some ⟨v, 0, none⟩)]] w fun e w' => ∃ c', e = .returned (.slice (some ⟨g, 0, none⟩) (hlN x y Gs Gs.length) c') ∧ Hid (ButA (some ⟨g, 0, none⟩) w w') := by
  have hll : Ls.length = Gs.length := hG.len
  obtain ⟨R, hR, hall, hend⟩ := first_hl (fun t => hlB x y (Gs.getD t [])) Ls.length
  have HX := Lib.hid (idxS g d v M G R x y F n f Gs Ls w V hv hS hG hin hgl hls hR hall hend)
  have hn : n ≤ 256 := (fvB_yes hv).2.2.2
  have hcap := hS.cap
  have HV := Lib.hid V
  have HFV := Lib.hid hv
  have HG := Lib.hid hG
  have HIN := Lib.hid hin
  have HGL := Lib.hid hgl
  have HM := Lib.hid hS.rowM
  have hall2 : hlN x y Gs R = R := hlN_all R hall
  by_cases hlt : R < Ls.length
  · rw [if_pos hlt] at HX
    have K0 : Hid (hlN x y Gs (R + 1) = R) := by show _ = _; rw [hlN_no (hend hlt), hall2]
    have hR1 : ((R : Int) == -1) = false := beq_eq_false_iff_ne.2 (by omega)
    have HLL := Lib.hid hll
    clear hall hend hall2 V hv hS hG hin hgl hll
    go_enter Try.func84, Try.ntmps84
    go_wp2_with (go_at_call 159; refine HX.out.mono ?_; rintro e wq ⟨rfl, hbq⟩)
    have SQ := Lib.hid (HM.out.below hbq.out)
    have BQ : Hid (ButA (some (⟨g, 0, none⟩ : Addr)) w wq) := ButA.of hbq.out
    clear HM hbq HX
    go_loopw [5, 6] (fun a b wr => ∃ (i j : Nat) (U : Nat → Value), a = .int .i64 i ∧ b = .int .i64 j ∧ j ≤ Ls.length ∧ i < j ∧ Hid (hlN x y Gs j = i) ∧ Hid (RowM wr g Ls.length U) ∧ Hid (∀ m, j ≤ m → m < Ls.length → U m = sV (Ls.getD m (none, 0, 0))) ∧ Hid (ButA (some ⟨g, 0, none⟩) w wr)) (fun _ b _ => Ls.length - (intOf b).toNat)
    case atStart => exact ⟨R, R + 1, _, rfl, by go_num, by omega, by omega, K0, SQ, fun m _ _ => rfl, BQ⟩
    case round =>
      clear SQ BQ K0
      obtain ⟨i, j, U, rfl, rfl, hj, hij, hK, hM, hU, hB⟩ := hrel
      by_cases hjl : j < Ls.length
      · have hjG : j < Gs.length := by have := HLL.out; omega
        have hcj := hM.out.cell j hjl
        rw [hU.out j (Nat.le_refl _) hjl] at hcj
        obtain ⟨A1, c1, e1, hrw, hfar⟩ := HG.out.at3 hjG
        rw [e1] at hcj
        unfold sV at hcj
        dsimp only at hcj
        have hle := HGL.out j hjG
        have HC := Lib.hid (cloHol A1 c1 v x y F n f (Gs.getD j []) wr (HV.out.butA hB.out (fun a ha => by injection ha with ha; subst ha; exact fun e => hvg e.symm)) (by omega) HFV.out (fun t ht => HIN.out j hjG _ (getD_mem ht)) ((hrw.butA hB.out (Nat.le_refl _) (fun a z ha hz => hfar z a hz ha)).mono hB.out.size) (by omega))
        have HN := Lib.hid (hlN_no (x := x) (y := y) (Gs := Gs) (k := j))
        have HY := Lib.hid (hlN_yes (x := x) (y := y) (Gs := Gs) (k := j))
        clear hrw hfar e1
        generalize Gs.getD j [] = L1 at *
        generalize L1.length = n1 at *
        cases hc : hlB x y L1
        · rw [hc] at HC
          have N := Lib.hid (HY.out hc)
          clear HN HY hc
          go_wp2_with (go_at_call 85; refine HC.out.mono ?_; rintro e w2 ⟨rfl, hb2⟩; have M2 := Lib.hid (hM.out.below hb2.out); have B2 := Lib.hid (butA_trans hB.out (ButA.of hb2.out)); have hd := M2.out.cell i (by omega); have hf := M2.out.free i (by omega); clear hb2)
          have M3 := Lib.hid (M2.out.set (k := i) (u := .slice A1 n1 c1) (by omega))
          have B3 := Lib.hid (butA_trans B2.out (ButA.setCell (A := some (⟨g, 0, none⟩ : Addr)) (q := ⟨g, i, none⟩) (fun a ha => by injection ha with ha; rw [← ha]) (by simp) (.slice A1 n1 c1)))
          clear hd hf
          go_roundw
          case rel => exact ⟨i + 1, j + 1, _, by go_num, by go_num, by omega, by omega, by show _ = _; rw [N.out, hK.out], M3, fun m h1 h2 => by unfold put; rw [if_neg (by omega)]; exact hU.out m (by omega) h2, B3⟩
          case measure => simp [intOf]; omega
        · rw [hc] at HC
          have N := Lib.hid (HN.out hc)
          clear HN HY hc
          go_wp2_with (go_at_call 85; refine HC.out.mono ?_; rintro e w2 ⟨rfl, hb2⟩; have M2 := Lib.hid (hM.out.below hb2.out); have B2 := Lib.hid (butA_trans hB.out (ButA.of hb2.out)); clear hb2)
          go_roundw
          case rel => exact ⟨i, j + 1, U, rfl, by go_num, by omega, by omega, by show _ = _; rw [N.out]; exact hK.out, M2, fun m h1 h2 => hU.out m (by omega) h2, B2⟩
          case measure => simp [intOf]; omega
      · have ej : j = Ls.length := by omega
        subst ej
        have hcl : ∀ ty, (Builtin.clear_ #[87] ty #[.slice (some ⟨g, i, none⟩) (Ls.length - i) (d - i)]).run Try.prog wr = .ok (.tuple #[]) (wr.setCells g i (List.replicate (Ls.length - i) (.slice none 0 0))) :=
          fun ty => Lib.run_clear_slice wr 87 37 ty (.slice none 0 0) Try.underlying87 zeroS rfl rfl g i (Ls.length - i) (d - i) (by omega) (fun t ht => by rw [hM.out.cell (i + t) (by omega)]; rfl) (fun t ht => hM.out.free (i + t) (by omega))
        have hne : ¬ d = i := by omega
        have HBF := Lib.hid (butA_cells (List.replicate (Ls.length - i) (.slice none 0 0)) i w wr hB.out)
        have HL : Hid (hlN x y Gs Gs.length = i) := by show _ = _; rw [← HLL.out]; exact hK.out
        clear hM hU hB hK
        go_wp2_with (simp only [hcl])
        go_ret
        exact ⟨_, by rw [HL.out]; rfl, HBF⟩
  · have eR : R = Ls.length := by omega
    have HL : Hid (hlN x y Gs Gs.length = Ls.length) := by show _ = _; rw [← hll, ← eR]; exact hall2
    rw [if_neg hlt] at HX
    clear hall hend hall2 V hv hS hG hin hgl hll
    go_enter Try.func84, Try.ntmps84
    go_wp2_with (go_at_call 159; refine HX.out.mono ?_; rintro e wq ⟨rfl, hbq⟩)
    go_ret
    rw [HL.out]
    exact ⟨_, rfl, ButA.of hbq.out⟩

theorem idxSNil (v c : Nat) (w : World) : Calls Try.prog 159 #[.slice none 0 c, .func (.func 85) #[] #[.pointer (some ⟨v, 0, none⟩)]] w fun e w' => e = .returned (.int .i64 (-1)) ∧ w = w' := by
  go_enter Try.func159, Try.ntmps159
  go_wp2
  go_loopw [8] (fun i wr => i = .int .i64 0 ∧ w = wr) (fun _ _ => 0)
  case atStart => exact ⟨rfl, rfl⟩
  case round =>
    obtain ⟨rfl, rfl⟩ := hrel
    go_wp2
    go_ret
    exact ⟨rfl, rfl⟩
theorem delSNil (v c : Nat) (w : World) : Calls Try.prog 84 #[.slice none 0 c, .func (.func 85) #[] #[.pointer (some ⟨v, 0, none⟩)]] w fun e w' => e = .returned (.slice none 0 c) ∧ w = w' := by
  go_enter Try.func84, Try.ntmps84
  go_wp2_with (go_at_call 159; refine (idxSNil v c _).mono ?_; rintro e wq ⟨rfl, rfl⟩)
  go_ret
  exact ⟨rfl, rfl⟩

end Go.Proofs.Ytgiblioilpedfaa
