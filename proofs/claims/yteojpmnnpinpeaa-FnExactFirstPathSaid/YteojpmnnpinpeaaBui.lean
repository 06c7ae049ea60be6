/-
  What is proved here: BurnTimes, as the program tells it, as a walk. Conditions: a valid field.
-/
import Derived.Test.YteojpmnnpinpeaaBuv
import Derived.Test.YteojpmnnpinpeaaGpf0
import Derived.WalkMore
import Derived.ScopeJumps
import Derived.Deep.RegionHeld3
namespace Go.Proofs.Yteojpmnnpinpeaa
open Go.RowKit
set_option linter.unusedVariables false
set_option linter.unusedSimpArgs false

theorem wp_scope2 {P : Program} {a : Act} {w : World} {Q : Exit → Act → World → Prop} {c rest : Code} (l : Nat) (J : Act → World → Prop) (mu : Act → World → Nat) (N : Nat) (hf : findLabel c l = some rest)
    (first : c.wp P (Exit.jump l (fun a' w' => J a' w' ∧ mu a' w' < N) Q) a w)
    (pass : ∀ a w, J a w → rest.wp P (Exit.jump l (fun a' w' => J a' w' ∧ mu a' w' < mu a w) Q) a w) : (Code.scope c).wp P Q a w :=
  wp_scope_jumps l J mu hf (Code.wp_mono (fun e a w q => by cases e <;> first | exact q | exact ⟨q.1, q.2.1⟩) first) pass

theorem Exit.jump_ret {l : Nat} {J : Act → World → Prop} {Q : Exit → Act → World → Prop} {a : Act} {w : World} : Exit.jump l J Q .ret a w = Q .ret a w := rfl
theorem RowM.apart {w : World} {g n : Nat} {V : Nat → Value} (r : RowM w g n V) {q : Addr} (h : q.block ≠ g) (u : Value) : RowM (w.setCell q u) g n V := r.but ((ButIn.refl q.block (q.block + 1) w).set (Nat.le_refl _) (Nat.lt_succ_self _) u) (by omega)
theorem VarT.apart {w : World} {v : Nat} {x y : Int} {A : Option Addr} {n c : Nat} (r : VarT w v x y A n c) {q : Addr} (h : q.block ≠ v) (u : Value) : VarT (w.setCell q u) v x y A n c := r.but ((ButIn.refl q.block (q.block + 1) w).set (Nat.le_refl _) (Nat.lt_succ_self _) u) (by omega)
theorem GroI.apart {w : World} {G c : Nat} {L : List Int} {A : Option Addr} (o : GroI w G L A c) {q : Addr} (h : q.block < G) (u : Value) : GroI (w.setCell q u) G L A c := o.but ((ButIn.refl q.block (q.block + 1) w).set (Nat.le_refl _) (Nat.lt_succ_self _) u) fun a ha => by have := (o.lt a ha).1; omega
theorem wp_at {P : Program} {c : Code} {Q : Exit → Act → World → Prop} {a a' : Act} {w : World} (e : a = a') (h : c.wp P Q a' w) : c.wp P Q a w := e ▸ h
section
variable {P : Nat → Bool} {x y : Int}
/-- the states while the full cells of a round are gone through -/
def mB (P : Nat → Bool) (x y : Int) (t : Nat) (L : List Int) : Nat → Bool := fun i => if L.contains (i : Int) = true then bT P x y (t + 1) i else bT P x y t i
def mT (P : Nat → Bool) (x y : Int) (t : Nat) (L : List Int) : Nat → Int := fun i => if L.contains (i : Int) = true then tT P x y (t + 1) i else tT P x y t i
theorem mB_nil {t : Nat} : mB P x y t [] = bT P x y t := rfl
theorem mT_nil {t : Nat} : mT P x y t [] = tT P x y t := rfl
theorem con_snoc (L : List Int) (s i : Nat) : (L ++ [(s : Int)]).contains (i : Int) = (L.contains (i : Int) || decide (i = s)) := by
  rw [List.contains_eq_any_beq, List.contains_eq_any_beq, List.any_append]
  congr 1
  simp only [List.any_cons, List.any_nil, Bool.or_false]
  by_cases h : i = s
  · subst h; simp
  · rw [decide_eq_false h, beq_eq_false_iff_ne]; omega
theorem mB_put {t s : Nat} {L : List Int} (h : bT P x y (t + 1) s = true) : ∀ j, put (bo (mB P x y t L)) s (.bool true) j = bo (mB P x y t (L ++ [(s : Int)])) j := fun j => by
  unfold put bo mB
  rw [con_snoc]
  by_cases e : j = s
  · subst e; rw [if_pos rfl, decide_eq_true rfl, Bool.or_true, if_pos rfl, h]
  · rw [if_neg e, decide_eq_false e, Bool.or_false]
theorem mT_put {t s : Nat} {L : List Int} (h0 : bT P x y t s = false) (h : bT P x y (t + 1) s = true) : ∀ j, put (iv (mT P x y t L)) s (.int .i64 (t : Int)) j = iv (mT P x y t (L ++ [(s : Int)])) j := fun j => by
  unfold put iv mT
  rw [con_snoc]
  by_cases e : j = s
  · subst e; rw [if_pos rfl, decide_eq_true rfl, Bool.or_true, if_pos rfl, tT_at h0 h (Nat.lt_succ_self t)]
  · rw [if_neg e, decide_eq_false e, Bool.or_false]
theorem mB_keep {t s : Nat} {L : List Int} (h : bT P x y (t + 1) s = bT P x y t s) : mB P x y t (L ++ [(s : Int)]) = mB P x y t L := funext fun j => by
  unfold mB
  rw [con_snoc]
  by_cases e : j = s
  · subst e; rw [h]; split <;> split <;> rfl
  · rw [decide_eq_false e, Bool.or_false]
theorem tT_keep {t s : Nat} (h : bT P x y (t + 1) s = bT P x y t s) : tT P x y (t + 1) s = tT P x y t s := by
  show (if bT P x y t s = true then tT P x y t s else if bT P x y (t + 1) s = true then (t : Int) else -1) = _
  cases e : bT P x y t s with
  | true => rw [if_pos rfl]
  | false => rw [if_neg (by decide), h, e, if_neg (by decide), tT_none e]
theorem mT_keep {t s : Nat} {L : List Int} (h : bT P x y (t + 1) s = bT P x y t s) : mT P x y t (L ++ [(s : Int)]) = mT P x y t L := funext fun j => by
  unfold mT
  rw [con_snoc]
  by_cases e : j = s
  · subst e; rw [tT_keep h]; split <;> split <;> rfl
  · rw [decide_eq_false e, Bool.or_false]
theorem bT_not {t i : Nat} (h : P i = false) : bT P x y t i = false := by
  cases e : bT P x y t i with
  | false => rfl
  | true => rw [bT_P e] at h; exact absurd h (by decide)
theorem mB_end {p : Nat → Bool} {n t : Nat} : mB (pB p n) x y t (fulL p n) = bT (pB p n) x y (t + 1) := funext fun j => by
  unfold mB
  split
  · rfl
  · rename_i h
    have : pB p n j = false := by
      cases e : pB p n j with
      | false => rfl
      | true => exact absurd (List.contains_iff_mem.2 (fulL_mem.2 ⟨j, rfl, pB_lt p n j e, by have h9 := pB_in (p := p) (pB_lt p n j e); rw [← h9]; exact e⟩)) h
    rw [bT_not this, bT_not this]
theorem mT_end {p : Nat → Bool} {n t : Nat} : mT (pB p n) x y t (fulL p n) = tT (pB p n) x y (t + 1) := funext fun j => by
  unfold mT
  split
  · rfl
  · rename_i h
    have : pB p n j = false := by
      cases e : pB p n j with
      | false => rfl
      | true => exact absurd (List.contains_iff_mem.2 (fulL_mem.2 ⟨j, rfl, pB_lt p n j e, by have h9 := pB_in (p := p) (pB_lt p n j e); rw [← h9]; exact e⟩)) h
    rw [tT_keep (by rw [bT_not this, bT_not this])]
/-- a full cell burns in a round, or not -/
theorem bT_full {t s : Nat} (h : P s = true) : bT P x y (t + 1) s = (bT P x y t s || (decide ((s : Int) < x) || decide (0 < fulS (bT P x y t) x y s))) := by
  show (bT P x y t s || (P s && _)) = _
  rw [h, Bool.true_and]
theorem allB_bT {n t : Nat} (hP : ∀ i, P i = true → i < n) (hn : n ≤ 256) : ((List.range 256).all fun i => bT P x y (t + 1) i == bT P x y t i) = true ↔ ∀ i, bT P x y (t + 1) i = bT P x y t i := by
  rw [List.all_eq_true]
  constructor
  · intro h
    exact bT_same hP fun i hi => eq_of_beq (h i (List.mem_range.2 (by omega)))
  · intro h i _
    rw [h i]; exact beq_self_eq_true _
end

/-- what holds at the label -/
def JBurn (w : World) (x y : Int) (F : Option Addr) (n f : Nat) (p : Nat → Bool) : Act → World → Prop := fun a' w' => ∃ (t TB GB : Nat) (u8 u9 u10 u11 u12 u13 u14 u15 u16 u17 u18 u19 u20 u21 u22 u23 u24 u25 u26 u27 u28 u29 u30 u31 u32 u33 u34 u35 u36 u37 u38 u39 u40 u41 u42 u43 u44 u45 u46 u47 u48 u49 u50 u51 u52 u53 u54 u55 u56 u57 u58 u59 u60 u61 u62 u63 u64 u65 u66 : Value), a' = { tmps := #[.agg #[.int .i64 x, .int .i64 y, .slice F n f], .pointer (some ⟨w.heap.size, 0, none⟩), .slice none 0 0, .int .i64 0, .bool false, .slice (some ⟨TB, 0, none⟩) n n, .slice (some ⟨GB, 0, none⟩) 256 256, .int .i64 t, u8, u9, u10, u11, u12, u13, u14, u15, u16, u17, u18, u19, u20, u21, u22, u23, u24, u25, u26, u27, u28, u29, u30, u31, u32, u33, u34, u35, u36, u37, u38, u39, u40, u41, u42, u43, u44, u45, u46, u47, u48, u49, u50, u51, u52, u53, u54, u55, u56, u57, u58, u59, u60, u61, u62, u63, u64, u65, u66], defers := [] } ∧ t ≤ fulN (bT (pB p n) x y t) n ∧ w.heap.size < TB ∧ TB < GB ∧ Hid (VarT w' w.heap.size x y F n f) ∧ Hid (RowM w' TB n (iv (tT (pB p n) x y t))) ∧ Hid (RowM w' GB 256 (bo (bT (pB p n) x y t))) ∧ Hid (Below w.heap.size w w')

set_option maxHeartbeats 32000000 in
set_option maxRecDepth 1000000 in
theorem implBurn (x y : Int) (F : Option Addr) (n f : Nat) (p : Nat → Bool) (w : World) (hv : fvB x y n = true) (hr : RowV w w.heap.size F n (bo p)) :
    Calls Try.prog 23 #[.agg #[.int .i64 x, .int .i64 y, .slice F n f]] w fun e w' => ∃ A c, e = .returned (.tuple #[.slice A n c, .int .i64 (maxD (burnT p x y n) n), .bool true]) ∧ Hid (RowW w' w.heap.size w'.heap.size A n (iv (burnT p x y n))) ∧ Hid (Below w.heap.size w w') := by
  obtain ⟨⟨hx, hy⟩, hnn, hn1, hn2⟩ := fvB_yes hv
  have B0 := below_var w x y F n f 35
  have V0 := varT_new w x y F n f 35
  have HI := Lib.hid (implValid x y F n f (w.alloc (.cells #[.int .i64 x, .int .i64 y, .slice F n f] 35)) (by omega))
  rw [hv] at HI
  have HB0 := Lib.hid B0
  have HV0 := Lib.hid V0
  have HR := Lib.hid hr
  have HFU : Hid (∀ W, Below w.heap.size w W → Calls Try.prog 81 #[.agg #[.int .i64 x, .int .i64 y, .slice F n f]] W fun e w' => ∃ A' c', e = .returned (.slice A' (fulL p n).length c') ∧ Hid (GroI w' W.heap.size (fulL p n) A' c') ∧ Hid (Below W.heap.size W w')) := fun W hW => implFull x y F n f p W (hr.carry hW) (by omega)
  have HAM : Hid (∀ (i : Nat) (W : World) (q : Nat → Bool) (M : Nat), i < n → RowM W M 256 (bo q) → Calls Try.prog 83 #[.agg #[.int .i64 x, .int .i64 y, .slice F n f], .int .i64 i, .slice (some ⟨M, 0, none⟩) 256 256] W fun e w' => ∃ X' c', e = .returned (.slice X' (fulS q x y i) c') ∧ Hid (Below W.heap.size W w')) := fun i W q M hi hM => implAmoN x y i F n f 256 _ _ q hn2 (by decide) hv (by omega) (by omega) W hM.row
  have HAB : Hid (∀ (i : Nat) (W : World), Calls Try.prog 82 #[.agg #[.int .i64 x, .int .i64 y, .slice F n f], .int .i64 (i : Int)] W fun e w' => e = .returned (.bool (decide ((i : Int) < x))) ∧ Hid (Below W.heap.size W w')) := fun i W => isAbvB x y i F n f W
  have HS4 : Hid (∀ q i, fulS q x y i ≤ 4) := fun q i => fulS_le q x y i
  have HFM : Hid (∀ j, j < (fulL p n).length → ∃ s : Nat, atI (fulL p n) j = (s : Int) ∧ s < n ∧ p s = true) := fun j hj => by
    obtain ⟨s, h1, h2, h3⟩ := fulL_mem.1 (getD_mem hj)
    exact ⟨s, h1, h2, h3⟩
  have HTK : Hid (∀ j (hj : j < (fulL p n).length), (fulL p n).take (j + 1) = (fulL p n).take j ++ [atI (fulL p n) j]) := fun j hj => by
    rw [List.take_succ_eq_append_getElem hj, atI_getD, List.getD_eq_getElem?_getD, List.getElem?_eq_getElem hj]; rfl
  have HFL : Hid ((fulL p n).length ≤ n) := by show _ ≤ _; rw [fulL_len]; exact fulN_le _ _
  have HZ1 : Hid (Below (w.alloc (.cells #[.int .i64 x, .int .i64 y, .slice F n f] 35)).heap.size (w.alloc (.cells #[.int .i64 x, .int .i64 y, .slice F n f] 35)) ((w.alloc (.cells #[.int .i64 x, .int .i64 y, .slice F n f] 35)))) := Below.refl _ _
  have hz := (zero_of_info info_mask).1
  have v0 := V0.c0
  have v1 := V0.c1
  have v2 := V0.c2
  have hxx : (w.alloc (.cells #[.int .i64 x, .int .i64 y, .slice F n f] 35)).heap.size = w.heap.size + 1 := by simp
  have HXX := Lib.hid hxx
  have HNN := Lib.hid hnn
  clear hr hv B0 V0 hxx hnn
  go_enter Try.func23, Try.ntmps23
  go_wp2
  refine wp_scope2 0 (JBurn w x y F n f p) (fun a' _ => n + 1 - (intOf (a'.tmps.getD 7 undef)).toNat) (n + 1) rfl ?_ ?_
  · go_wp2_with fail
    generalize w.alloc (.cells #[.int .i64 x, .int .i64 y, .slice F n f] 35) = b at *
    refine HI.out.mono ?_
    rintro e w1 ⟨rfl, hb⟩
    have B1 : Hid (Below w.heap.size w w1) := HB0.out.trans (hb.out.mono HB0.out.size)
    have V1 := Lib.hid (HV0.out.below hb.out)
    have bL := below_oneB w1 (.cells #[.int .i64 (-1)] 2) (Nat.le_refl _)
    have VL := V1.out.below bL
    have u2 := V1.out.c2
    have ul := V1.out.lt
    have cL : (w1.alloc (.cells #[.int .i64 (-1)] 2)).cell? ⟨w1.heap.size, 0, none⟩ = some (.int .i64 (-1)) := by simp [World.cell?, World.alloc, -World.alloc_eq]
    have HRP := Lib.hid (repI (-1) w1.heap.size 0 n 1 (w1.alloc (.cells #[.int .i64 (-1)] 2)) (by simp) cL (by omega))
    have BL := Lib.hid bL
    have VLL := Lib.hid VL
    clear hb HI HB0 HV0 v0 v1 v2 bL VL cL
    go_wp2_with fail
    refine HRP.out.mono ?_
    rintro e w3 ⟨rfl, hM, hb3⟩
    obtain ⟨t, ht⟩ : ∃ t : Nat, t = 0 := ⟨0, rfl⟩
    have HT0 := Lib.hid ht
    have BL3 : Hid (Below w1.heap.size w1 w3) := BL.out.trans (hb3.out.mono BL.out.size)
    have B3 : Hid (Below w.heap.size w w3) := B1.out.trans (BL3.out.mono B1.out.size)
    have V3 := Lib.hid (VLL.out.below hb3.out)
    have hXT : w.heap.size < (w1.alloc (.cells #[.int .i64 (-1)] 2)).heap.size := Nat.lt_of_lt_of_le ul BL.out.size
    have T3 : Hid (RowM w3 (w1.alloc (.cells #[.int .i64 (-1)] 2)).heap.size n (iv (tT (pB p n) x y t))) := by rw [ht]; exact hM
    have hTG : (w1.alloc (.cells #[.int .i64 (-1)] 2)).heap.size < w3.heap.size := hM.out.lt
    clear HRP hb3 BL BL3 VLL B1 V1 u2 ul hM
    generalize (w1.alloc (.cells #[.int .i64 (-1)] 2)).heap.size = TB at *
    have hmk : ∀ W : World, (Instr.makeSlice 28 (.int .i64 256) (.int .i64 256)).run Try.prog W = .ok (.slice (some ⟨W.heap.size, 0, none⟩) 256 256) (W.alloc (.cells (madeCells #[.bool false] 256) 4)) := run_mkB 256 (by decide)
    have b4 := below_oneB w3 (.cells (madeCells #[.bool false] 256) 4) (Nat.le_refl _)
    have hT := Lib.hid (T3.out.below b4)
    have hV := Lib.hid (V3.out.below b4)
    have hB := Lib.hid (B3.out.trans (b4.mono B3.out.size))
    have hG : Hid (RowM _ _ 256 (bo (bT (pB p n) x y t))) := (rowM_new w3 256 (.bool false) 4).ext fun j _ => by rw [ht]; rfl
    have hTn : t ≤ fulN (bT (pB p n) x y t) n := by rw [ht]; exact Nat.zero_le _
    have hzt : (.int .i64 0 : Value) = .int .i64 (t : Int) := by rw [ht]; rfl
    have HZT := Lib.hid hzt
    clear b4 T3 V3 B3 ht hzt
    go_wp2_with fail
    clear hmk
    generalize w3.alloc (.cells (madeCells #[.bool false] 256) 4) = wr at *
    generalize w3.heap.size = GB at *
    refine wp_at (congrArg (fun q => ({ tmps := #[_, _, _, _, _, _, _, q, _, _, _, _, _, _, _, _, _, _, _, _, _, _, _, _, _, _, _, _, _, _, _, _, _, _, _, _, _, _, _, _, _, _, _, _, _, _, _, _, _, _, _, _, _, _, _, _, _, _, _, _, _, _, _, _, _, _, _], defers := [] } : Act)) HZT.out) ?_
    go_step3
    -- a round
    have hGl : GB < wr.heap.size := hG.out.lt
    have V6 := hV.out.below (below_oneB wr (.cells (arrA (bT (pB p n) x y t)) 117) (Nat.le_refl _))
    have B6 : Hid (Below w.heap.size w (wr.alloc (.cells (arrA (bT (pB p n) x y t)) 117))) := hB.out.trans (below_oneB _ _ hB.out.size)
    have T6 := Lib.hid (hT.out.below (below_oneB wr (.cells (arrA (bT (pB p n) x y t)) 117) (Nat.le_refl _)))
    have G6 := Lib.hid (hG.out.below (below_oneB wr (.cells (arrA (bT (pB p n) x y t)) 117) (Nat.le_refl _)))
    have M6 := Lib.hid (row_arr wr (bT (pB p n) x y t) 117)
    have hsz6 : (wr.alloc (.cells (arrA (bT (pB p n) x y t)) 117)).heap.size = wr.heap.size + 1 := by simp
    have HF6 := Lib.hid (HFU.out _ B6.out)
    rw [hsz6] at HF6
    have HS6 := Lib.hid hsz6
    have VV6 := Lib.hid V6
    have v0 := V6.c0
    have v1 := V6.c1
    have v2 := V6.c2
    have harr := fun W => run_arrA GB W
    clear V6 hsz6
    go_wp2_with (first
      | (refine wpLoaA rfl _ rfl hG.out (by first | rfl | simp [Act.eval]) ?_)
      | (refine wpStoA rfl _ _ rfl (by first | rfl | simp [Act.eval]) (by first | rfl | simp [Act.eval]) ?_))
    refine HF6.out.mono ?_
    rintro e w7 ⟨LA, lc, rfl, hO7, hb7⟩
    have hb7' := hb7.out
    rw [← HS6.out] at hb7'
    have T7 := Lib.hid ((T6.out.below hb7').ext fun j _ => by rw [← mT_nil])
    have G7 := Lib.hid ((G6.out.below hb7').ext fun j _ => by rw [← mB_nil])
    have M7 := Lib.hid (M6.out.below hb7')
    have V7 := Lib.hid (VV6.out.below hb7')
    have B7 := Lib.hid (B6.out.trans (hb7'.mono B6.out.size))
    have HME : Hid (mB (pB p n) x y t (fulL p n) = bT (pB p n) x y (t + 1)) := mB_end
    have HTE : Hid (mT (pB p n) x y t (fulL p n) = tT (pB p n) x y (t + 1)) := mT_end
    have HBF : Hid (∀ s, s < n → p s = true → bT (pB p n) x y (t + 1) s = (bT (pB p n) x y t s || (decide ((s : Int) < x) || decide (0 < fulS (bT (pB p n) x y t) x y s)))) := fun s h1 h2 => bT_full (by rw [pB_in h1]; exact h2)
    have HALL := Lib.hid (allB_bT (P := pB p n) (x := x) (y := y) (t := t) (pB_lt p n) hn2)
    have HMO : Hid (¬ (∀ i, bT (pB p n) x y (t + 1) i = bT (pB p n) x y t i) → fulN (bT (pB p n) x y t) n + 1 ≤ fulN (bT (pB p n) x y (t + 1)) n) := fun h => bT_more (pB_lt p n) fun g => h (bT_same (pB_lt p n) g)
    have HDE : Hid ((∀ i, bT (pB p n) x y (t + 1) i = bT (pB p n) x y t i) → ∀ i, tT (pB p n) x y (t + 1) i = burnT p x y n i) := fun h i => by
      rw [tT_fix h (Nat.le_succ t) i]
      exact dT_end (by have := fulN_le (bT (pB p n) x y t) n; omega) h i
    have HFN : Hid (∀ q, fulN q n ≤ n) := fun q => fulN_le q n
    have HMP : Hid (∀ (L : List Int) (s : Nat), bT (pB p n) x y (t + 1) s = true → ∀ j, put (bo (mB (pB p n) x y t L)) s (.bool true) j = bo (mB (pB p n) x y t (L ++ [(s : Int)])) j) := fun L s h => mB_put h
    have HTP : Hid (∀ (L : List Int) (s : Nat), bT (pB p n) x y t s = false → bT (pB p n) x y (t + 1) s = true → ∀ j, put (iv (mT (pB p n) x y t L)) s (.int .i64 (t : Int)) j = iv (mT (pB p n) x y t (L ++ [(s : Int)])) j) := fun L s h h2 => mT_put h h2
    have HMK : Hid (∀ (L : List Int) (s : Nat), bT (pB p n) x y (t + 1) s = bT (pB p n) x y t s → mB (pB p n) x y t (L ++ [(s : Int)]) = mB (pB p n) x y t L) := fun L s h => mB_keep h
    have HTKP : Hid (∀ (L : List Int) (s : Nat), bT (pB p n) x y (t + 1) s = bT (pB p n) x y t s → mT (pB p n) x y t (L ++ [(s : Int)]) = mT (pB p n) x y t L) := fun L s h => mT_keep h
    have hXM : w.heap.size < wr.heap.size := by omega
    clear hb7 hb7' HF6 T6 G6 M6 VV6 B6 v0 v1 v2 hT hG hV hB HS6
    generalize hMM : wr.heap.size = M at *
    generalize fulL p n = L at *
    clear hMM
    have hLn : L.length ≤ 256 := Nat.le_trans HFL.out hn2
    go_wp2_with fail
    go_loopw [27] (fun i wr => ∃ j : Nat, i = .int .i64 j ∧ j ≤ L.length ∧ Hid (VarT wr w.heap.size x y F n f) ∧ Hid (RowM wr TB n (iv (mT (pB p n) x y t (L.take j)))) ∧ Hid (RowM wr GB 256 (bo (mB (pB p n) x y t (L.take j)))) ∧ Hid (RowM wr M 256 (bo (bT (pB p n) x y t))) ∧ Hid (GroI wr (M + 1) L LA lc) ∧ Hid (Below w.heap.size w wr)) (fun i _ => L.length - (intOf i).toNat)
    case atStart => exact ⟨0, rfl, Nat.zero_le _, V7, T7, G7, M7, hO7, B7⟩
    case round =>
      clear V7 T7 G7 M7 hO7 B7
      obtain ⟨j, rfl, hj, hV, hT, hG, hM, hO, hB⟩ := hrel
      by_cases hlt : j < L.length
      · obtain ⟨s, hs, hsn, hps⟩ := HFM.out j hlt
        obtain ⟨lg, rfl⟩ := hO.out.adr hlt
        have hcl := hO.out.at hlt
        rw [hs] at hcl
        have ST := Lib.hid (HTK.out j hlt)
        rw [hs] at ST
        have FB := HBF.out s hsn hps
        have hlM := (hO.out.lt _ rfl).1
        have hAB := HAB.out s
        have hAM := fun W (hW : Below _ _ W) => HAM.out s W _ M hsn (hM.out.below hW)
        have h4 := HS4.out (bT (pB p n) x y t) s
        have v0 := hV.out.c0
        have v1 := hV.out.c1
        have v2 := hV.out.c2
        have vl := hV.out.lt
        have hcm := hM.out.cell s (by omega)
        unfold bo at hcm
        have MP := Lib.hid (HMP.out (L.take j) s)
        have TP := Lib.hid (HTP.out (L.take j) s)
        have MK := Lib.hid (HMK.out (L.take j) s)
        have TK := Lib.hid (HTKP.out (L.take j) s)
        clear hs hps hlM
        generalize hq1 : bT (pB p n) x y (t + 1) s = q1 at *
        generalize hq0 : bT (pB p n) x y t s = q0 at *
        generalize hfs : fulS (bT (pB p n) x y t) x y s = fs at *
        clear hq1 hq0 hfs
        have hMl := hM.out.lt
        have K0 : Hid (Below wr.heap.size wr wr) := Below.refl _ _
        have hsla := fun W => run_slaA M W
        have hixa := fun W => run_ixaA M s (by omega) W
        have K1 : Hid (Below wr.heap.size wr wr.drew) := (Below.refl _ _).drew
        by_cases hsx : (s : Int) < x
        · rw [decide_eq_true hsx] at hAB FB
          rw [Bool.true_or, Bool.or_true] at FB
          have HAB2 := Lib.hid hAB
          clear hAB hAM
          go_wp2_with fail
          first | go_region_with (go_at_call 82; refine (HAB2.out _).mono ?_; rintro e w8 ⟨rfl, hb8⟩; obtain ⟨g0, g1, g2⟩ := keepT (W := wr) (wa := wr.drew) hb8.out v0 v1 v2 K1 vl; have K8 := Lib.hid (K1.out.trans (hb8.out.mono K1.out.size)); clear hb8) | fail "no way"
          all_goals
            have V9 := Lib.hid (hV.out.below K8.out)
            have T9 := Lib.hid (hT.out.below K8.out)
            have G9 := Lib.hid (hG.out.below K8.out)
            have M9 := Lib.hid (hM.out.below K8.out)
            have O9 := Lib.hid (hO.out.below K8.out)
            have B9 := Lib.hid (hB.out.trans (K8.out.mono hB.out.size))
            have hcm9 : w8.cell? ⟨M, s, none⟩ = some (.bool q0) := (K8.out.cell (p := ⟨M, s, none⟩) hMl).trans hcm
            have hg9 := G9.out.cell s (by omega)
            have hgf := G9.out.free s (by omega)
            have ht9 := T9.out.cell s hsn
            have htf := T9.out.free s hsn
            unfold bo at hg9
            unfold iv at ht9
            clear v0 v1 v2 vl hcl hcm g0 g1 g2 K0 K1
            cases q0
            · have hp1 := MP.out FB
              have hp2 := TP.out rfl FB
              have ht10 : (w8.setCell ⟨GB, s, none⟩ (.bool true)).cell? ⟨TB, s, none⟩ = _ := (World.cell?_setCell_other _ _ _ _ (by intro h; injection h with h1 _ _; omega)).trans ht9
              have G10 := Lib.hid ((((G9.out.set (k := s) (u := .bool true) (by omega)).ext fun j _ => hp1 j)).apart (q := ⟨TB, s, none⟩) (by show TB ≠ GB; omega) (.int .i64 (t : Int)))
              have T10 := Lib.hid (((T9.out.apart (q := ⟨GB, s, none⟩) (by show GB ≠ TB; omega) (.bool true)).set (k := s) (u := .int .i64 (t : Int)) hsn).ext fun j _ => hp2 j)
              have M10 := Lib.hid ((M9.out.apart (q := ⟨GB, s, none⟩) (by show GB ≠ M; omega) (.bool true)).apart (q := ⟨TB, s, none⟩) (by show TB ≠ M; omega) (.int .i64 (t : Int)))
              have V10 := Lib.hid ((V9.out.apart (q := ⟨GB, s, none⟩) (by show GB ≠ _; omega) (.bool true)).apart (q := ⟨TB, s, none⟩) (by show TB ≠ _; omega) (.int .i64 (t : Int)))
              have O10 := Lib.hid ((O9.out.apart (q := ⟨GB, s, none⟩) (by show GB < M + 1; omega) (.bool true)).apart (q := ⟨TB, s, none⟩) (by show TB < M + 1; omega) (.int .i64 (t : Int)))
              have B10 := Lib.hid ((B9.out.setCell (p := ⟨GB, s, none⟩) (by show _ ≤ GB; omega) (.bool true)).setCell (p := ⟨TB, s, none⟩) (by show _ ≤ TB; omega) (.int .i64 (t : Int)))
              clear hp1 hp2 G9 T9 M9 V9 O9 B9 MP TP MK TK hT hG hM hV hO hB
              go_wp2_with fail
              go_roundw
              case rel => exact ⟨j + 1, by go_num, by omega, V10, by rw [ST.out]; exact T10, by rw [ST.out]; exact G10, M10, O10, B10⟩
              case measure => simp [intOf]; omega
            · have hk1 := Lib.hid (MK.out (by rw [FB]))
              have hk2 := Lib.hid (TK.out (by rw [FB]))
              clear MP TP MK TK hT hG hM hV hO hB
              go_wp2_with fail
              go_roundw
              case rel => exact ⟨j + 1, by go_num, by omega, V9, by rw [ST.out, hk2.out]; exact T9, by rw [ST.out, hk1.out]; exact G9, M9, O9, B9⟩
              case measure => simp [intOf]; omega
        · rw [decide_eq_false hsx] at hAB FB
          rw [Bool.false_or] at FB
          have HAB2 := Lib.hid hAB
          have HAM2 := Lib.hid hAM
          clear hAB hAM
          by_cases hf0 : 0 < fs
          · rw [decide_eq_true hf0, Bool.or_true] at FB
            go_wp2_with fail
            first | go_region_with (first | (go_at_call 82; refine (HAB2.out _).mono ?_; rintro e w8 ⟨rfl, hb8⟩; obtain ⟨g0, g1, g2⟩ := keepT (W := wr) (wa := wr.drew) hb8.out v0 v1 v2 K1 vl; have K8 := Lib.hid (K1.out.trans (hb8.out.mono K1.out.size)); clear hb8) | (go_at_call 83; refine (HAM2.out _ K8.out).mono ?_; rintro e w9 ⟨X9, c9, rfl, hb9⟩; have K9 := Lib.hid (K8.out.trans (hb9.out.mono K8.out.size)); clear hb9)) | fail "no way"
            all_goals
              have V9 := Lib.hid (hV.out.below K9.out)
              have T9 := Lib.hid (hT.out.below K9.out)
              have G9 := Lib.hid (hG.out.below K9.out)
              have M9 := Lib.hid (hM.out.below K9.out)
              have O9 := Lib.hid (hO.out.below K9.out)
              have B9 := Lib.hid (hB.out.trans (K9.out.mono hB.out.size))
              have hcm9 : w9.cell? ⟨M, s, none⟩ = some (.bool q0) := (K9.out.cell (p := ⟨M, s, none⟩) hMl).trans hcm
              have hg9 := G9.out.cell s (by omega)
              have hgf := G9.out.free s (by omega)
              have ht9 := T9.out.cell s hsn
              have htf := T9.out.free s hsn
              unfold bo at hg9
              unfold iv at ht9
              clear v0 v1 v2 vl hcl hcm g0 g1 g2 K0 K1 K8
              cases q0
              · have hp1 := MP.out FB
                have hp2 := TP.out rfl FB
                have ht10 : (w9.setCell ⟨GB, s, none⟩ (.bool true)).cell? ⟨TB, s, none⟩ = _ := (World.cell?_setCell_other _ _ _ _ (by intro h; injection h with h1 _ _; omega)).trans ht9
                have G10 := Lib.hid ((((G9.out.set (k := s) (u := .bool true) (by omega)).ext fun j _ => hp1 j)).apart (q := ⟨TB, s, none⟩) (by show TB ≠ GB; omega) (.int .i64 (t : Int)))
                have T10 := Lib.hid (((T9.out.apart (q := ⟨GB, s, none⟩) (by show GB ≠ TB; omega) (.bool true)).set (k := s) (u := .int .i64 (t : Int)) hsn).ext fun j _ => hp2 j)
                have M10 := Lib.hid ((M9.out.apart (q := ⟨GB, s, none⟩) (by show GB ≠ M; omega) (.bool true)).apart (q := ⟨TB, s, none⟩) (by show TB ≠ M; omega) (.int .i64 (t : Int)))
                have V10 := Lib.hid ((V9.out.apart (q := ⟨GB, s, none⟩) (by show GB ≠ _; omega) (.bool true)).apart (q := ⟨TB, s, none⟩) (by show TB ≠ _; omega) (.int .i64 (t : Int)))
                have O10 := Lib.hid ((O9.out.apart (q := ⟨GB, s, none⟩) (by show GB < M + 1; omega) (.bool true)).apart (q := ⟨TB, s, none⟩) (by show TB < M + 1; omega) (.int .i64 (t : Int)))
                have B10 := Lib.hid ((B9.out.setCell (p := ⟨GB, s, none⟩) (by show _ ≤ GB; omega) (.bool true)).setCell (p := ⟨TB, s, none⟩) (by show _ ≤ TB; omega) (.int .i64 (t : Int)))
                clear hp1 hp2 G9 T9 M9 V9 O9 B9 MP TP MK TK hT hG hM hV hO hB
                go_wp2_with fail
                go_roundw
                case rel => exact ⟨j + 1, by go_num, by omega, V10, by rw [ST.out]; exact T10, by rw [ST.out]; exact G10, M10, O10, B10⟩
                case measure => simp [intOf]; omega
              · have hk1 := Lib.hid (MK.out (by rw [FB]))
                have hk2 := Lib.hid (TK.out (by rw [FB]))
                clear MP TP MK TK hT hG hM hV hO hB
                go_wp2_with fail
                go_roundw
                case rel => exact ⟨j + 1, by go_num, by omega, V9, by rw [ST.out, hk2.out]; exact T9, by rw [ST.out, hk1.out]; exact G9, M9, O9, B9⟩
                case measure => simp [intOf]; omega
          · rw [decide_eq_false hf0, Bool.or_false] at FB
            have hf00 : fs = 0 := by omega
            subst hf00
            go_wp2_with fail
            first | go_region_with (first | (go_at_call 82; refine (HAB2.out _).mono ?_; rintro e w8 ⟨rfl, hb8⟩; obtain ⟨g0, g1, g2⟩ := keepT (W := wr) (wa := wr.drew) hb8.out v0 v1 v2 K1 vl; have K8 := Lib.hid (K1.out.trans (hb8.out.mono K1.out.size)); clear hb8) | (go_at_call 83; refine (HAM2.out _ K8.out).mono ?_; rintro e w9 ⟨X9, c9, rfl, hb9⟩; have K9 := Lib.hid (K8.out.trans (hb9.out.mono K8.out.size)); clear hb9)) | fail "no way"
            all_goals
              have V9 := Lib.hid (hV.out.below K9.out)
              have T9 := Lib.hid (hT.out.below K9.out)
              have G9 := Lib.hid (hG.out.below K9.out)
              have M9 := Lib.hid (hM.out.below K9.out)
              have O9 := Lib.hid (hO.out.below K9.out)
              have B9 := Lib.hid (hB.out.trans (K9.out.mono hB.out.size))
              have hk1 := Lib.hid (MK.out FB)
              have hk2 := Lib.hid (TK.out FB)
              clear MP TP MK TK hT hG hM hV hO hB v0 v1 v2 vl hcl hcm g0 g1 g2 K0 K1 K8
              go_wp2_with fail
              go_roundw
              case rel => exact ⟨j + 1, by go_num, by omega, V9, by rw [ST.out, hk2.out]; exact T9, by rw [ST.out, hk1.out]; exact G9, M9, O9, B9⟩
              case measure => simp [intOf]; omega
      · have ej : j = L.length := by omega
        subst ej
        rw [List.take_length, HTE.out] at hT
        rw [List.take_length, HME.out] at hG
        have hG1 : RowM wr.drew GB 256 (bo (bT (pB p n) x y (t + 1))) := ⟨hG.out.lt, hG.out.cell, hG.out.free⟩
        have hM1 : RowM wr.drew M 256 (bo (bT (pB p n) x y t)) := ⟨hM.out.lt, hM.out.cell, hM.out.free⟩
        have hl1 := range_of hG1
        have hl2 := range_of hM1
        have hne : ∀ W, (binOp .neq 117 (.agg (arrL (bT (pB p n) x y (t + 1))).toArray) (.agg (arrL (bT (pB p n) x y t)).toArray)).run Try.prog W = _ := fun W => run_neqA (bT (pB p n) x y (t + 1)) (bT (pB p n) x y t) W
        have hu := und_mask
        have hi1 := size_mask (bT (pB p n) x y (t + 1))
        have hi2 := size_mask (bT (pB p n) x y t)
        have hgd := guard_mask
        have harr := fun W => run_arrA GB W
        have hB1 : Hid (Below w.heap.size w wr.drew) := hB.out.drew
        have hwr : IntKind.i64.wrap ((t : Int) + 1) = (t : Int) + 1 := IntWalk.i64_in _ (by have := HFN.out (bT (pB p n) x y t); omega)
        clear hM1 hG1
        cases hb : (List.range 256).all fun i => bT (pB p n) x y (t + 1) i == bT (pB p n) x y t i
        · have hnot : ¬ ∀ i, bT (pB p n) x y (t + 1) i = bT (pB p n) x y t i := fun h => by rw [HALL.out.2 h] at hb; cases hb
          have hmo := HMO.out hnot
          have hfn := HFN.out (bT (pB p n) x y (t + 1))
          rw [hb] at hne
          simp only [Bool.not_true, Bool.not_false] at hne
          clear hb hnot HMO HALL HDE HME HTE
          generalize arrL (bT (pB p n) x y (t + 1)) = a1 at *
          generalize arrL (bT (pB p n) x y t) = a0 at *
          go_wp2_with fail
          refine wp_region_noPanic ?_
          refine wp_region_held_drew (S := fun w' => w'.rangeAt GB 0 a1 ∧ w'.rangeAt M 0 a0) (by kernel_rfl) ⟨hl1, hl2⟩ (fun hHeld => ?_)
          refine wpAnyH_take (i := 0) (v := .slice (some ⟨GB, 0, none⟩) 256 256) rfl (by kernel_rfl) (by kernel_rfl) (by kernel_rfl) (fun _ _ _ h => h) (Or.inl ⟨by rfl, fun _ _ => rfl⟩) hHeld ?_
          refine wpAnyH_take (i := 1) (v := .pointer (some ⟨GB, 0, none⟩)) rfl (by kernel_rfl) (by kernel_rfl) (by kernel_rfl) (fun _ _ _ h => h) (yields_arr (by rfl) _ rfl GB rfl) hHeld ?_
          refine wpAnyH_take (i := 2) (v := .agg a1.toArray) rfl (by kernel_rfl) (by kernel_rfl) (by kernel_rfl) (fun _ _ _ h => h) (yieldsIf_load_mid (by rfl) _ _ rfl GB 0 rfl a1 _ (fun w h => h.1) hu rfl hi1) hHeld ?_
          refine wpAnyH_take (i := 3) (v := .agg a0.toArray) rfl (by kernel_rfl) (by kernel_rfl) (by kernel_rfl) (fun _ _ _ h => h) (yieldsIf_load_mid (by rfl) _ _ rfl M 0 rfl a0 _ (fun w h => h.2) hu rfl hi2) hHeld ?_
          refine wpAnyH_take (i := 4) (v := .bool true) rfl (by kernel_rfl) (by kernel_rfl) (by kernel_rfl) (fun _ _ _ h => h) (yields_neq (by rfl) _ _ _ rfl rfl rfl hne) hHeld ?_
          refine wpAnyH_done (by kernel_rfl) ?_ _
          refine NoPanic.normal ?_
          simp only [Act.put, List.setIfInBounds_toArray, List.set_cons_zero, List.set_cons_succ]
          all_goals
            clear hl1 hl2 hne hi1 hi2 hu
            go_wp2_with fail
            go_step3
            refine ⟨rfl, ⟨t + 1, TB, GB, _, _, _, _, _, _, _, _, _, _, _, _, _, _, _, _, _, _, _, _, _, _, _, _, _, _, _, _, _, _, _, _, _, _, _, _, _, _, _, _, _, _, _, _, _, _, _, _, _, _, _, _, _, _, _, _, _, _, _, by first | rfl | simp, by omega, hXT, hTG, ⟨hV.out.lt, hV.out.c0, hV.out.c1, hV.out.c2⟩, ⟨hT.out.lt, hT.out.cell, hT.out.free⟩, ⟨hG.out.lt, hG.out.cell, hG.out.free⟩, hB1⟩, ?_⟩
            simp [intOf]
            omega
        · have hall := HALL.out.1 hb
          have HDD := Lib.hid (HDE.out hall)
          rw [hb] at hne
          simp only [Bool.not_true, Bool.not_false] at hne
          clear hb hall HMO HALL HDE HME HTE
          generalize arrL (bT (pB p n) x y (t + 1)) = a1 at *
          generalize arrL (bT (pB p n) x y t) = a0 at *
          go_wp2_with fail
          refine wp_region_noPanic ?_
          refine wp_region_held_drew (S := fun w' => w'.rangeAt GB 0 a1 ∧ w'.rangeAt M 0 a0) (by kernel_rfl) ⟨hl1, hl2⟩ (fun hHeld => ?_)
          refine wpAnyH_take (i := 0) (v := .slice (some ⟨GB, 0, none⟩) 256 256) rfl (by kernel_rfl) (by kernel_rfl) (by kernel_rfl) (fun _ _ _ h => h) (Or.inl ⟨by rfl, fun _ _ => rfl⟩) hHeld ?_
          refine wpAnyH_take (i := 1) (v := .pointer (some ⟨GB, 0, none⟩)) rfl (by kernel_rfl) (by kernel_rfl) (by kernel_rfl) (fun _ _ _ h => h) (yields_arr (by rfl) _ rfl GB rfl) hHeld ?_
          refine wpAnyH_take (i := 2) (v := .agg a1.toArray) rfl (by kernel_rfl) (by kernel_rfl) (by kernel_rfl) (fun _ _ _ h => h) (yieldsIf_load_mid (by rfl) _ _ rfl GB 0 rfl a1 _ (fun w h => h.1) hu rfl hi1) hHeld ?_
          refine wpAnyH_take (i := 3) (v := .agg a0.toArray) rfl (by kernel_rfl) (by kernel_rfl) (by kernel_rfl) (fun _ _ _ h => h) (yieldsIf_load_mid (by rfl) _ _ rfl M 0 rfl a0 _ (fun w h => h.2) hu rfl hi2) hHeld ?_
          refine wpAnyH_take (i := 4) (v := .bool false) rfl (by kernel_rfl) (by kernel_rfl) (by kernel_rfl) (fun _ _ _ h => h) (yields_neq (by rfl) _ _ _ rfl rfl rfl hne) hHeld ?_
          refine wpAnyH_done (by kernel_rfl) ?_ _
          refine NoPanic.normal ?_
          simp only [Act.put, List.setIfInBounds_toArray, List.set_cons_zero, List.set_cons_succ]
          all_goals
            clear hl1 hl2 hne hi1 hi2 hu
            have T11 : Hid (RowM wr.drew TB n (iv (burnT p x y n))) := RowM.ext (V := iv (tT (pB p n) x y (t + 1))) ⟨hT.out.lt, hT.out.cell, hT.out.free⟩ fun j _ => by unfold iv; rw [HDD.out j]
            have hlow : -1 ≤ burnT p x y n 0 := (dT_dist (pB_lt p n)).low 0
            have HMX := Lib.hid (implMaxI (some ⟨TB, 0, none⟩) n n _ (burnT p x y n) wr.drew T11.out.row (by omega) hn1 hlow)
            clear hlow hT HDD
            go_wp2_with fail
            refine HMX.out.mono ?_
            rintro e w12 ⟨rfl, k12, rfl⟩
            clear HMX
            go_wp2_with fail
            rw [Exit.jump_ret]
            go_ret3
            exact ⟨some ⟨TB, 0, none⟩, n, rfl, RowM.rowW (lo := w.heap.size) ⟨T11.out.lt, T11.out.cell, T11.out.free⟩ (Nat.le_of_lt hXT), belowN hB.out⟩
  · rintro a' wr ⟨t, TB, GB, u8, u9, u10, u11, u12, u13, u14, u15, u16, u17, u18, u19, u20, u21, u22, u23, u24, u25, u26, u27, u28, u29, u30, u31, u32, u33, u34, u35, u36, u37, u38, u39, u40, u41, u42, u43, u44, u45, u46, u47, u48, u49, u50, u51, u52, u53, u54, u55, u56, u57, u58, u59, u60, u61, u62, u63, u64, u65, u66, rfl, hTn, hXT, hTG, hV, hT, hG, hB⟩
    -- a round
    have hGl : GB < wr.heap.size := hG.out.lt
    have V6 := hV.out.below (below_oneB wr (.cells (arrA (bT (pB p n) x y t)) 117) (Nat.le_refl _))
    have B6 : Hid (Below w.heap.size w (wr.alloc (.cells (arrA (bT (pB p n) x y t)) 117))) := hB.out.trans (below_oneB _ _ hB.out.size)
    have T6 := Lib.hid (hT.out.below (below_oneB wr (.cells (arrA (bT (pB p n) x y t)) 117) (Nat.le_refl _)))
    have G6 := Lib.hid (hG.out.below (below_oneB wr (.cells (arrA (bT (pB p n) x y t)) 117) (Nat.le_refl _)))
    have M6 := Lib.hid (row_arr wr (bT (pB p n) x y t) 117)
    have hsz6 : (wr.alloc (.cells (arrA (bT (pB p n) x y t)) 117)).heap.size = wr.heap.size + 1 := by simp
    have HF6 := Lib.hid (HFU.out _ B6.out)
    rw [hsz6] at HF6
    have HS6 := Lib.hid hsz6
    have VV6 := Lib.hid V6
    have v0 := V6.c0
    have v1 := V6.c1
    have v2 := V6.c2
    have harr := fun W => run_arrA GB W
    clear V6 hsz6
    go_wp2_with (first
      | (refine wpLoaA rfl _ rfl hG.out (by first | rfl | simp [Act.eval]) ?_)
      | (refine wpStoA rfl _ _ rfl (by first | rfl | simp [Act.eval]) (by first | rfl | simp [Act.eval]) ?_))
    refine HF6.out.mono ?_
    rintro e w7 ⟨LA, lc, rfl, hO7, hb7⟩
    have hb7' := hb7.out
    rw [← HS6.out] at hb7'
    have T7 := Lib.hid ((T6.out.below hb7').ext fun j _ => by rw [← mT_nil])
    have G7 := Lib.hid ((G6.out.below hb7').ext fun j _ => by rw [← mB_nil])
    have M7 := Lib.hid (M6.out.below hb7')
    have V7 := Lib.hid (VV6.out.below hb7')
    have B7 := Lib.hid (B6.out.trans (hb7'.mono B6.out.size))
    have HME : Hid (mB (pB p n) x y t (fulL p n) = bT (pB p n) x y (t + 1)) := mB_end
    have HTE : Hid (mT (pB p n) x y t (fulL p n) = tT (pB p n) x y (t + 1)) := mT_end
    have HBF : Hid (∀ s, s < n → p s = true → bT (pB p n) x y (t + 1) s = (bT (pB p n) x y t s || (decide ((s : Int) < x) || decide (0 < fulS (bT (pB p n) x y t) x y s)))) := fun s h1 h2 => bT_full (by rw [pB_in h1]; exact h2)
    have HALL := Lib.hid (allB_bT (P := pB p n) (x := x) (y := y) (t := t) (pB_lt p n) hn2)
    have HMO : Hid (¬ (∀ i, bT (pB p n) x y (t + 1) i = bT (pB p n) x y t i) → fulN (bT (pB p n) x y t) n + 1 ≤ fulN (bT (pB p n) x y (t + 1)) n) := fun h => bT_more (pB_lt p n) fun g => h (bT_same (pB_lt p n) g)
    have HDE : Hid ((∀ i, bT (pB p n) x y (t + 1) i = bT (pB p n) x y t i) → ∀ i, tT (pB p n) x y (t + 1) i = burnT p x y n i) := fun h i => by
      rw [tT_fix h (Nat.le_succ t) i]
      exact dT_end (by have := fulN_le (bT (pB p n) x y t) n; omega) h i
    have HFN : Hid (∀ q, fulN q n ≤ n) := fun q => fulN_le q n
    have HMP : Hid (∀ (L : List Int) (s : Nat), bT (pB p n) x y (t + 1) s = true → ∀ j, put (bo (mB (pB p n) x y t L)) s (.bool true) j = bo (mB (pB p n) x y t (L ++ [(s : Int)])) j) := fun L s h => mB_put h
    have HTP : Hid (∀ (L : List Int) (s : Nat), bT (pB p n) x y t s = false → bT (pB p n) x y (t + 1) s = true → ∀ j, put (iv (mT (pB p n) x y t L)) s (.int .i64 (t : Int)) j = iv (mT (pB p n) x y t (L ++ [(s : Int)])) j) := fun L s h h2 => mT_put h h2
    have HMK : Hid (∀ (L : List Int) (s : Nat), bT (pB p n) x y (t + 1) s = bT (pB p n) x y t s → mB (pB p n) x y t (L ++ [(s : Int)]) = mB (pB p n) x y t L) := fun L s h => mB_keep h
    have HTKP : Hid (∀ (L : List Int) (s : Nat), bT (pB p n) x y (t + 1) s = bT (pB p n) x y t s → mT (pB p n) x y t (L ++ [(s : Int)]) = mT (pB p n) x y t L) := fun L s h => mT_keep h
    have hXM : w.heap.size < wr.heap.size := by omega
    clear hb7 hb7' HF6 T6 G6 M6 VV6 B6 v0 v1 v2 hT hG hV hB HS6
    generalize hMM : wr.heap.size = M at *
    generalize fulL p n = L at *
    clear hMM
    have hLn : L.length ≤ 256 := Nat.le_trans HFL.out hn2
    go_wp2_with fail
    go_loopw [27] (fun i wr => ∃ j : Nat, i = .int .i64 j ∧ j ≤ L.length ∧ Hid (VarT wr w.heap.size x y F n f) ∧ Hid (RowM wr TB n (iv (mT (pB p n) x y t (L.take j)))) ∧ Hid (RowM wr GB 256 (bo (mB (pB p n) x y t (L.take j)))) ∧ Hid (RowM wr M 256 (bo (bT (pB p n) x y t))) ∧ Hid (GroI wr (M + 1) L LA lc) ∧ Hid (Below w.heap.size w wr)) (fun i _ => L.length - (intOf i).toNat)
    case atStart => exact ⟨0, rfl, Nat.zero_le _, V7, T7, G7, M7, hO7, B7⟩
    case round =>
      clear V7 T7 G7 M7 hO7 B7
      obtain ⟨j, rfl, hj, hV, hT, hG, hM, hO, hB⟩ := hrel
      by_cases hlt : j < L.length
      · obtain ⟨s, hs, hsn, hps⟩ := HFM.out j hlt
        obtain ⟨lg, rfl⟩ := hO.out.adr hlt
        have hcl := hO.out.at hlt
        rw [hs] at hcl
        have ST := Lib.hid (HTK.out j hlt)
        rw [hs] at ST
        have FB := HBF.out s hsn hps
        have hlM := (hO.out.lt _ rfl).1
        have hAB := HAB.out s
        have hAM := fun W (hW : Below _ _ W) => HAM.out s W _ M hsn (hM.out.below hW)
        have h4 := HS4.out (bT (pB p n) x y t) s
        have v0 := hV.out.c0
        have v1 := hV.out.c1
        have v2 := hV.out.c2
        have vl := hV.out.lt
        have hcm := hM.out.cell s (by omega)
        unfold bo at hcm
        have MP := Lib.hid (HMP.out (L.take j) s)
        have TP := Lib.hid (HTP.out (L.take j) s)
        have MK := Lib.hid (HMK.out (L.take j) s)
        have TK := Lib.hid (HTKP.out (L.take j) s)
        clear hs hps hlM
        generalize hq1 : bT (pB p n) x y (t + 1) s = q1 at *
        generalize hq0 : bT (pB p n) x y t s = q0 at *
        generalize hfs : fulS (bT (pB p n) x y t) x y s = fs at *
        clear hq1 hq0 hfs
        have hMl := hM.out.lt
        have K0 : Hid (Below wr.heap.size wr wr) := Below.refl _ _
        have hsla := fun W => run_slaA M W
        have hixa := fun W => run_ixaA M s (by omega) W
        have K1 : Hid (Below wr.heap.size wr wr.drew) := (Below.refl _ _).drew
        by_cases hsx : (s : Int) < x
        · rw [decide_eq_true hsx] at hAB FB
          rw [Bool.true_or, Bool.or_true] at FB
          have HAB2 := Lib.hid hAB
          clear hAB hAM
          go_wp2_with fail
          first | go_region_with (go_at_call 82; refine (HAB2.out _).mono ?_; rintro e w8 ⟨rfl, hb8⟩; obtain ⟨g0, g1, g2⟩ := keepT (W := wr) (wa := wr.drew) hb8.out v0 v1 v2 K1 vl; have K8 := Lib.hid (K1.out.trans (hb8.out.mono K1.out.size)); clear hb8) | fail "no way"
          all_goals
            have V9 := Lib.hid (hV.out.below K8.out)
            have T9 := Lib.hid (hT.out.below K8.out)
            have G9 := Lib.hid (hG.out.below K8.out)
            have M9 := Lib.hid (hM.out.below K8.out)
            have O9 := Lib.hid (hO.out.below K8.out)
            have B9 := Lib.hid (hB.out.trans (K8.out.mono hB.out.size))
            have hcm9 : w8.cell? ⟨M, s, none⟩ = some (.bool q0) := (K8.out.cell (p := ⟨M, s, none⟩) hMl).trans hcm
            have hg9 := G9.out.cell s (by omega)
            have hgf := G9.out.free s (by omega)
            have ht9 := T9.out.cell s hsn
            have htf := T9.out.free s hsn
            unfold bo at hg9
            unfold iv at ht9
            clear v0 v1 v2 vl hcl hcm g0 g1 g2 K0 K1
            cases q0
            · have hp1 := MP.out FB
              have hp2 := TP.out rfl FB
              have ht10 : (w8.setCell ⟨GB, s, none⟩ (.bool true)).cell? ⟨TB, s, none⟩ = _ := (World.cell?_setCell_other _ _ _ _ (by intro h; injection h with h1 _ _; omega)).trans ht9
              have G10 := Lib.hid ((((G9.out.set (k := s) (u := .bool true) (by omega)).ext fun j _ => hp1 j)).apart (q := ⟨TB, s, none⟩) (by show TB ≠ GB; omega) (.int .i64 (t : Int)))
              have T10 := Lib.hid (((T9.out.apart (q := ⟨GB, s, none⟩) (by show GB ≠ TB; omega) (.bool true)).set (k := s) (u := .int .i64 (t : Int)) hsn).ext fun j _ => hp2 j)
              have M10 := Lib.hid ((M9.out.apart (q := ⟨GB, s, none⟩) (by show GB ≠ M; omega) (.bool true)).apart (q := ⟨TB, s, none⟩) (by show TB ≠ M; omega) (.int .i64 (t : Int)))
              have V10 := Lib.hid ((V9.out.apart (q := ⟨GB, s, none⟩) (by show GB ≠ _; omega) (.bool true)).apart (q := ⟨TB, s, none⟩) (by show TB ≠ _; omega) (.int .i64 (t : Int)))
              have O10 := Lib.hid ((O9.out.apart (q := ⟨GB, s, none⟩) (by show GB < M + 1; omega) (.bool true)).apart (q := ⟨TB, s, none⟩) (by show TB < M + 1; omega) (.int .i64 (t : Int)))
              have B10 := Lib.hid ((B9.out.setCell (p := ⟨GB, s, none⟩) (by show _ ≤ GB; omega) (.bool true)).setCell (p := ⟨TB, s, none⟩) (by show _ ≤ TB; omega) (.int .i64 (t : Int)))
              clear hp1 hp2 G9 T9 M9 V9 O9 B9 MP TP MK TK hT hG hM hV hO hB
              go_wp2_with fail
              go_roundw
              case rel => exact ⟨j + 1, by go_num, by omega, V10, by rw [ST.out]; exact T10, by rw [ST.out]; exact G10, M10, O10, B10⟩
              case measure => simp [intOf]; omega
            · have hk1 := Lib.hid (MK.out (by rw [FB]))
              have hk2 := Lib.hid (TK.out (by rw [FB]))
              clear MP TP MK TK hT hG hM hV hO hB
              go_wp2_with fail
              go_roundw
              case rel => exact ⟨j + 1, by go_num, by omega, V9, by rw [ST.out, hk2.out]; exact T9, by rw [ST.out, hk1.out]; exact G9, M9, O9, B9⟩
              case measure => simp [intOf]; omega
        · rw [decide_eq_false hsx] at hAB FB
          rw [Bool.false_or] at FB
          have HAB2 := Lib.hid hAB
          have HAM2 := Lib.hid hAM
          clear hAB hAM
          by_cases hf0 : 0 < fs
          · rw [decide_eq_true hf0, Bool.or_true] at FB
            go_wp2_with fail
            first | go_region_with (first | (go_at_call 82; refine (HAB2.out _).mono ?_; rintro e w8 ⟨rfl, hb8⟩; obtain ⟨g0, g1, g2⟩ := keepT (W := wr) (wa := wr.drew) hb8.out v0 v1 v2 K1 vl; have K8 := Lib.hid (K1.out.trans (hb8.out.mono K1.out.size)); clear hb8) | (go_at_call 83; refine (HAM2.out _ K8.out).mono ?_; rintro e w9 ⟨X9, c9, rfl, hb9⟩; have K9 := Lib.hid (K8.out.trans (hb9.out.mono K8.out.size)); clear hb9)) | fail "no way"
            all_goals
              have V9 := Lib.hid (hV.out.below K9.out)
              have T9 := Lib.hid (hT.out.below K9.out)
              have G9 := Lib.hid (hG.out.below K9.out)
              have M9 := Lib.hid (hM.out.below K9.out)
              have O9 := Lib.hid (hO.out.below K9.out)
              have B9 := Lib.hid (hB.out.trans (K9.out.mono hB.out.size))
              have hcm9 : w9.cell? ⟨M, s, none⟩ = some (.bool q0) := (K9.out.cell (p := ⟨M, s, none⟩) hMl).trans hcm
              have hg9 := G9.out.cell s (by omega)
              have hgf := G9.out.free s (by omega)
              have ht9 := T9.out.cell s hsn
              have htf := T9.out.free s hsn
              unfold bo at hg9
              unfold iv at ht9
              clear v0 v1 v2 vl hcl hcm g0 g1 g2 K0 K1 K8
              cases q0
              · have hp1 := MP.out FB
                have hp2 := TP.out rfl FB
                have ht10 : (w9.setCell ⟨GB, s, none⟩ (.bool true)).cell? ⟨TB, s, none⟩ = _ := (World.cell?_setCell_other _ _ _ _ (by intro h; injection h with h1 _ _; omega)).trans ht9
                have G10 := Lib.hid ((((G9.out.set (k := s) (u := .bool true) (by omega)).ext fun j _ => hp1 j)).apart (q := ⟨TB, s, none⟩) (by show TB ≠ GB; omega) (.int .i64 (t : Int)))
                have T10 := Lib.hid (((T9.out.apart (q := ⟨GB, s, none⟩) (by show GB ≠ TB; omega) (.bool true)).set (k := s) (u := .int .i64 (t : Int)) hsn).ext fun j _ => hp2 j)
                have M10 := Lib.hid ((M9.out.apart (q := ⟨GB, s, none⟩) (by show GB ≠ M; omega) (.bool true)).apart (q := ⟨TB, s, none⟩) (by show TB ≠ M; omega) (.int .i64 (t : Int)))
                have V10 := Lib.hid ((V9.out.apart (q := ⟨GB, s, none⟩) (by show GB ≠ _; omega) (.bool true)).apart (q := ⟨TB, s, none⟩) (by show TB ≠ _; omega) (.int .i64 (t : Int)))
                have O10 := Lib.hid ((O9.out.apart (q := ⟨GB, s, none⟩) (by show GB < M + 1; omega) (.bool true)).apart (q := ⟨TB, s, none⟩) (by show TB < M + 1; omega) (.int .i64 (t : Int)))
                have B10 := Lib.hid ((B9.out.setCell (p := ⟨GB, s, none⟩) (by show _ ≤ GB; omega) (.bool true)).setCell (p := ⟨TB, s, none⟩) (by show _ ≤ TB; omega) (.int .i64 (t : Int)))
                clear hp1 hp2 G9 T9 M9 V9 O9 B9 MP TP MK TK hT hG hM hV hO hB
                go_wp2_with fail
                go_roundw
                case rel => exact ⟨j + 1, by go_num, by omega, V10, by rw [ST.out]; exact T10, by rw [ST.out]; exact G10, M10, O10, B10⟩
                case measure => simp [intOf]; omega
              · have hk1 := Lib.hid (MK.out (by rw [FB]))
                have hk2 := Lib.hid (TK.out (by rw [FB]))
                clear MP TP MK TK hT hG hM hV hO hB
                go_wp2_with fail
                go_roundw
                case rel => exact ⟨j + 1, by go_num, by omega, V9, by rw [ST.out, hk2.out]; exact T9, by rw [ST.out, hk1.out]; exact G9, M9, O9, B9⟩
                case measure => simp [intOf]; omega
          · rw [decide_eq_false hf0, Bool.or_false] at FB
            have hf00 : fs = 0 := by omega
            subst hf00
            go_wp2_with fail
            first | go_region_with (first | (go_at_call 82; refine (HAB2.out _).mono ?_; rintro e w8 ⟨rfl, hb8⟩; obtain ⟨g0, g1, g2⟩ := keepT (W := wr) (wa := wr.drew) hb8.out v0 v1 v2 K1 vl; have K8 := Lib.hid (K1.out.trans (hb8.out.mono K1.out.size)); clear hb8) | (go_at_call 83; refine (HAM2.out _ K8.out).mono ?_; rintro e w9 ⟨X9, c9, rfl, hb9⟩; have K9 := Lib.hid (K8.out.trans (hb9.out.mono K8.out.size)); clear hb9)) | fail "no way"
            all_goals
              have V9 := Lib.hid (hV.out.below K9.out)
              have T9 := Lib.hid (hT.out.below K9.out)
              have G9 := Lib.hid (hG.out.below K9.out)
              have M9 := Lib.hid (hM.out.below K9.out)
              have O9 := Lib.hid (hO.out.below K9.out)
              have B9 := Lib.hid (hB.out.trans (K9.out.mono hB.out.size))
              have hk1 := Lib.hid (MK.out FB)
              have hk2 := Lib.hid (TK.out FB)
              clear MP TP MK TK hT hG hM hV hO hB v0 v1 v2 vl hcl hcm g0 g1 g2 K0 K1 K8
              go_wp2_with fail
              go_roundw
              case rel => exact ⟨j + 1, by go_num, by omega, V9, by rw [ST.out, hk2.out]; exact T9, by rw [ST.out, hk1.out]; exact G9, M9, O9, B9⟩
              case measure => simp [intOf]; omega
      · have ej : j = L.length := by omega
        subst ej
        rw [List.take_length, HTE.out] at hT
        rw [List.take_length, HME.out] at hG
        have hG1 : RowM wr.drew GB 256 (bo (bT (pB p n) x y (t + 1))) := ⟨hG.out.lt, hG.out.cell, hG.out.free⟩
        have hM1 : RowM wr.drew M 256 (bo (bT (pB p n) x y t)) := ⟨hM.out.lt, hM.out.cell, hM.out.free⟩
        have hl1 := range_of hG1
        have hl2 := range_of hM1
        have hne : ∀ W, (binOp .neq 117 (.agg (arrL (bT (pB p n) x y (t + 1))).toArray) (.agg (arrL (bT (pB p n) x y t)).toArray)).run Try.prog W = _ := fun W => run_neqA (bT (pB p n) x y (t + 1)) (bT (pB p n) x y t) W
        have hu := und_mask
        have hi1 := size_mask (bT (pB p n) x y (t + 1))
        have hi2 := size_mask (bT (pB p n) x y t)
        have hgd := guard_mask
        have harr := fun W => run_arrA GB W
        have hB1 : Hid (Below w.heap.size w wr.drew) := hB.out.drew
        have hwr : IntKind.i64.wrap ((t : Int) + 1) = (t : Int) + 1 := IntWalk.i64_in _ (by have := HFN.out (bT (pB p n) x y t); omega)
        clear hM1 hG1
        cases hb : (List.range 256).all fun i => bT (pB p n) x y (t + 1) i == bT (pB p n) x y t i
        · have hnot : ¬ ∀ i, bT (pB p n) x y (t + 1) i = bT (pB p n) x y t i := fun h => by rw [HALL.out.2 h] at hb; cases hb
          have hmo := HMO.out hnot
          have hfn := HFN.out (bT (pB p n) x y (t + 1))
          rw [hb] at hne
          simp only [Bool.not_true, Bool.not_false] at hne
          clear hb hnot HMO HALL HDE HME HTE
          generalize arrL (bT (pB p n) x y (t + 1)) = a1 at *
          generalize arrL (bT (pB p n) x y t) = a0 at *
          go_wp2_with fail
          refine wp_region_noPanic ?_
          refine wp_region_held_drew (S := fun w' => w'.rangeAt GB 0 a1 ∧ w'.rangeAt M 0 a0) (by kernel_rfl) ⟨hl1, hl2⟩ (fun hHeld => ?_)
          refine wpAnyH_take (i := 0) (v := .slice (some ⟨GB, 0, none⟩) 256 256) rfl (by kernel_rfl) (by kernel_rfl) (by kernel_rfl) (fun _ _ _ h => h) (Or.inl ⟨by rfl, fun _ _ => rfl⟩) hHeld ?_
          refine wpAnyH_take (i := 1) (v := .pointer (some ⟨GB, 0, none⟩)) rfl (by kernel_rfl) (by kernel_rfl) (by kernel_rfl) (fun _ _ _ h => h) (yields_arr (by rfl) _ rfl GB rfl) hHeld ?_
          refine wpAnyH_take (i := 2) (v := .agg a1.toArray) rfl (by kernel_rfl) (by kernel_rfl) (by kernel_rfl) (fun _ _ _ h => h) (yieldsIf_load_mid (by rfl) _ _ rfl GB 0 rfl a1 _ (fun w h => h.1) hu rfl hi1) hHeld ?_
          refine wpAnyH_take (i := 3) (v := .agg a0.toArray) rfl (by kernel_rfl) (by kernel_rfl) (by kernel_rfl) (fun _ _ _ h => h) (yieldsIf_load_mid (by rfl) _ _ rfl M 0 rfl a0 _ (fun w h => h.2) hu rfl hi2) hHeld ?_
          refine wpAnyH_take (i := 4) (v := .bool true) rfl (by kernel_rfl) (by kernel_rfl) (by kernel_rfl) (fun _ _ _ h => h) (yields_neq (by rfl) _ _ _ rfl rfl rfl hne) hHeld ?_
          refine wpAnyH_done (by kernel_rfl) ?_ _
          refine NoPanic.normal ?_
          simp only [Act.put, List.setIfInBounds_toArray, List.set_cons_zero, List.set_cons_succ]
          all_goals
            clear hl1 hl2 hne hi1 hi2 hu
            go_wp2_with fail
            go_step3
            refine ⟨rfl, ⟨t + 1, TB, GB, _, _, _, _, _, _, _, _, _, _, _, _, _, _, _, _, _, _, _, _, _, _, _, _, _, _, _, _, _, _, _, _, _, _, _, _, _, _, _, _, _, _, _, _, _, _, _, _, _, _, _, _, _, _, _, _, _, _, _, by first | rfl | simp, by omega, hXT, hTG, ⟨hV.out.lt, hV.out.c0, hV.out.c1, hV.out.c2⟩, ⟨hT.out.lt, hT.out.cell, hT.out.free⟩, ⟨hG.out.lt, hG.out.cell, hG.out.free⟩, hB1⟩, ?_⟩
            simp [intOf]
            omega
        · have hall := HALL.out.1 hb
          have HDD := Lib.hid (HDE.out hall)
          rw [hb] at hne
          simp only [Bool.not_true, Bool.not_false] at hne
          clear hb hall HMO HALL HDE HME HTE
          generalize arrL (bT (pB p n) x y (t + 1)) = a1 at *
          generalize arrL (bT (pB p n) x y t) = a0 at *
          go_wp2_with fail
          refine wp_region_noPanic ?_
          refine wp_region_held_drew (S := fun w' => w'.rangeAt GB 0 a1 ∧ w'.rangeAt M 0 a0) (by kernel_rfl) ⟨hl1, hl2⟩ (fun hHeld => ?_)
          refine wpAnyH_take (i := 0) (v := .slice (some ⟨GB, 0, none⟩) 256 256) rfl (by kernel_rfl) (by kernel_rfl) (by kernel_rfl) (fun _ _ _ h => h) (Or.inl ⟨by rfl, fun _ _ => rfl⟩) hHeld ?_
          refine wpAnyH_take (i := 1) (v := .pointer (some ⟨GB, 0, none⟩)) rfl (by kernel_rfl) (by kernel_rfl) (by kernel_rfl) (fun _ _ _ h => h) (yields_arr (by rfl) _ rfl GB rfl) hHeld ?_
          refine wpAnyH_take (i := 2) (v := .agg a1.toArray) rfl (by kernel_rfl) (by kernel_rfl) (by kernel_rfl) (fun _ _ _ h => h) (yieldsIf_load_mid (by rfl) _ _ rfl GB 0 rfl a1 _ (fun w h => h.1) hu rfl hi1) hHeld ?_
          refine wpAnyH_take (i := 3) (v := .agg a0.toArray) rfl (by kernel_rfl) (by kernel_rfl) (by kernel_rfl) (fun _ _ _ h => h) (yieldsIf_load_mid (by rfl) _ _ rfl M 0 rfl a0 _ (fun w h => h.2) hu rfl hi2) hHeld ?_
          refine wpAnyH_take (i := 4) (v := .bool false) rfl (by kernel_rfl) (by kernel_rfl) (by kernel_rfl) (fun _ _ _ h => h) (yields_neq (by rfl) _ _ _ rfl rfl rfl hne) hHeld ?_
          refine wpAnyH_done (by kernel_rfl) ?_ _
          refine NoPanic.normal ?_
          simp only [Act.put, List.setIfInBounds_toArray, List.set_cons_zero, List.set_cons_succ]
          all_goals
            clear hl1 hl2 hne hi1 hi2 hu
            have T11 : Hid (RowM wr.drew TB n (iv (burnT p x y n))) := RowM.ext (V := iv (tT (pB p n) x y (t + 1))) ⟨hT.out.lt, hT.out.cell, hT.out.free⟩ fun j _ => by unfold iv; rw [HDD.out j]
            have hlow : -1 ≤ burnT p x y n 0 := (dT_dist (pB_lt p n)).low 0
            have HMX := Lib.hid (implMaxI (some ⟨TB, 0, none⟩) n n _ (burnT p x y n) wr.drew T11.out.row (by omega) hn1 hlow)
            clear hlow hT HDD
            go_wp2_with fail
            refine HMX.out.mono ?_
            rintro e w12 ⟨rfl, k12, rfl⟩
            clear HMX
            go_wp2_with fail
            rw [Exit.jump_ret]
            go_ret3
            exact ⟨some ⟨TB, 0, none⟩, n, rfl, RowM.rowW (lo := w.heap.size) ⟨T11.out.lt, T11.out.cell, T11.out.free⟩ (Nat.le_of_lt hXT), belowN hB.out⟩

end Go.Proofs.Yteojpmnnpinpeaa
