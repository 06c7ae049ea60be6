/-
  What is proved here: ContourOf, of both packages, as walks. Conditions: at most 1048576 heights.
-/
import Derived.Test.YtfjahgojmiednaaCoj
import Derived.Test.YtfjahgojmiednaaRci
namespace Go.Proofs.Ytfjahgojmiednaa
open Flt Go.RowKit
attribute [local go_sem] run_store_float run_store_complex
set_option linter.unusedVariables false

/-- both parts are finite -/
def cF (q : Nat × Nat) : Bool := finB .f32 q.1 && finB .f32 q.2
theorem pfO_can (q : Nat × Nat) : pfO (canC q) = cF q := by unfold pfO canC cF; rw [finO_can, finO_can]
theorem ToldC.all {W : Nat} {zs : List Nat} {lv : Nat} {M : List (Nat × Nat × Bool)} {L : List (Nat × Nat)} (h : ToldC W zs lv M L) : L.all cF = ctF W zs lv M := by
  have e : (L.map canC).all pfO = (M.map (ptO W zs lv)).all pfO := by rw [h]
  rw [List.all_map, List.all_map] at e
  have e1 : L.all cF = L.all (pfO ∘ canC) := by congr 1; funext q; exact (pfO_can q).symm
  rw [e1, e]; rfl
theorem all_first (L : List (Nat × Nat)) : ∃ R, R ≤ L.length ∧ (∀ t, t < R → cF (atC L t) = true) ∧ (R < L.length → cF (atC L R) = false) ∧ (L.all cF = !decide (R < L.length)) := by
  obtain ⟨R, h1, h2, h3⟩ := first_not (fun t => cF (atC L t)) L.length
  refine ⟨R, h1, h2, h3, ?_⟩
  by_cases h : R < L.length
  · rw [decide_eq_true h, Bool.not_true, List.all_eq_false]
    have := h3 h
    rw [atC_is h] at this
    exact ⟨L[R], List.getElem_mem h, by rw [this]; decide⟩
  · rw [decide_eq_false h, Bool.not_false, List.all_eq_true]
    intro q hq
    obtain ⟨j, hj, rfl⟩ := List.getElem_of_mem hq
    have := h2 j (by omega)
    rwa [atC_is hj] at this

theorem specFinX (q : Nat × Nat) (w : World) :
    Calls Try.prog 50 #[.complex .f32 q.1 q.2] w fun e w' => e = .returned (.bool (cF q)) ∧ ∃ n, w' = w.drewN n := by
  have N : Hid (cF q = (finB .f32 q.1 && finB .f32 q.2)) := rfl
  generalize q.1 = x at *
  generalize q.2 = y at *
  cases h : finB .f32 x
  · have c1 : Hid (∀ W, Calls Try.prog 47 #[.float .f32 x] W fun e w' => e = .returned (.bool false) ∧ ∃ n, w' = W.drewN n) := fun W => by have := specFin x W; rwa [h] at this
    rw [h] at N
    clear h
    go_enter Try.func50, Try.ntmps50
    go_wp2_with (go_at_call 47; refine (c1.out _).mono ?_; rintro e w' ⟨rfl, n, rfl⟩)
    go_ret
    exact ⟨by rw [N.out]; rfl, _, rfl⟩
  · have c1 : Hid (∀ W, Calls Try.prog 47 #[.float .f32 x] W fun e w' => e = .returned (.bool true) ∧ ∃ n, w' = W.drewN n) := fun W => by have := specFin x W; rwa [h] at this
    rw [h] at N
    clear h
    go_enter Try.func50, Try.ntmps50
    go_wp2_with fail
    refine (c1.out _).mono ?_
    rintro e w' ⟨rfl, n, rfl⟩
    go_wp2_with fail
    refine (specFin y _).mono ?_
    rintro e w' ⟨rfl, n2, rfl⟩
    go_wp2_with fail
    go_ret
    exact ⟨by rw [N.out]; rfl, _, rfl⟩
theorem implFinX (q : Nat × Nat) (w : World) :
    Calls Try.prog 85 #[.complex .f32 q.1 q.2] w fun e w' => e = .returned (.bool (cF q)) ∧ ∃ n, w' = w.drewN n := by
  have N : Hid (cF q = (finB .f32 q.1 && finB .f32 q.2)) := rfl
  generalize q.1 = x at *
  generalize q.2 = y at *
  cases h : finB .f32 x
  · have c1 : Hid (∀ W, Calls Try.prog 73 #[.float .f32 x] W fun e w' => e = .returned (.bool false) ∧ ∃ n, w' = W.drewN n) := fun W => by have := implFin x W; rwa [h] at this
    rw [h] at N
    clear h
    go_enter Try.func85, Try.ntmps85
    go_wp2_with (go_at_call 73; refine (c1.out _).mono ?_; rintro e w' ⟨rfl, n, rfl⟩)
    go_ret
    exact ⟨by rw [N.out]; rfl, _, rfl⟩
  · have c1 : Hid (∀ W, Calls Try.prog 73 #[.float .f32 x] W fun e w' => e = .returned (.bool true) ∧ ∃ n, w' = W.drewN n) := fun W => by have := implFin x W; rwa [h] at this
    rw [h] at N
    clear h
    go_enter Try.func85, Try.ntmps85
    go_wp2_with fail
    refine (c1.out _).mono ?_
    rintro e w' ⟨rfl, n, rfl⟩
    go_wp2_with fail
    refine (implFin y _).mono ?_
    rintro e w' ⟨rfl, n2, rfl⟩
    go_wp2_with fail
    go_ret
    exact ⟨by rw [N.out]; rfl, _, rfl⟩

theorem endless (q : Nat × Nat) (w : World) : Calls Try.prog 53 #[.complex .f32 q.1 q.2] w fun e w' => e = .returned (.bool (!cF q)) ∧ ∃ n, w' = w.drewN n := by
  have H := Lib.hid (implFinX q w)
  generalize cF q = b at *
  generalize q.1 = x at *
  generalize q.2 = y at *
  go_enter Try.func53, Try.ntmps53
  go_wp2_with (go_at_call 85; refine H.out.mono ?_; rintro e w' ⟨rfl, n, rfl⟩)
  go_ret
  exact ⟨rfl, _, rfl⟩

theorem idxC (A : Option Addr) (c B R : Nat) (L : List (Nat × Nat)) (w : World) (hr : RowC w B A L) (hn : L.length ≤ 1048576) (hR : R ≤ L.length) (hall : ∀ t, t < R → cF (atC L t) = true) (hend : R < L.length → cF (atC L R) = false) :
    Calls Try.prog 84 #[.slice A L.length c, .func (.func 53) #[] #[]] w fun e w' => e = .returned (.int .i64 (if R < L.length then (R : Int) else -1)) ∧ ∃ n, w' = w.drewN n := by
  have HR := Lib.hid hr
  have HALL := Lib.hid hall
  have HEND := Lib.hid hend
  clear hr hall hend
  go_enter Try.func84, Try.ntmps84
  go_wp2
  go_loopw [8] (fun i wr => ∃ k : Nat, k ≤ R ∧ i = .int .i64 k ∧ ∃ n, wr = w.drewN n) (fun i _ => R - (intOf i).toNat)
  case atStart => exact ⟨0, Nat.zero_le _, rfl, 0, rfl⟩
  case round =>
    obtain ⟨k, hk, rfl, n, rfl⟩ := hrel
    by_cases hkn : k < L.length
    · obtain ⟨b, off, rfl, hb, hcell⟩ := HR.out (by omega)
      have hc := hcell k hkn
      unfold cV at hc
      have HC := Lib.hid (fun W => endless (atC L k) W)
      have hal := fun h => HALL.out k h
      have hen : k = R → cF (atC L k) = false := fun h => by rw [h]; exact HEND.out (by omega)
      generalize hq : atC L k = q at *
      clear hq hcell
      by_cases hlt : k < R
      · have h0 := hal hlt
        rw [h0] at HC
        clear h0 hal hen
        generalize q.1 = q1 at *
        generalize q.2 = q2 at *
        go_wp2_with (go_at_call 53; refine (HC.out _).mono ?_; rintro e w' ⟨rfl, n3, rfl⟩)
        go_roundw
        case rel => exact ⟨k + 1, by omega, by go_num, _, rfl⟩
        case measure => simp [intOf]; omega
      · have ek : k = R := by omega
        have h0 := hen ek
        rw [h0] at HC
        have EK := Lib.hid ek
        clear h0 hal hen ek
        generalize q.1 = q1 at *
        generalize q.2 = q2 at *
        go_wp2_with (go_at_call 53; refine (HC.out _).mono ?_; rintro e w' ⟨rfl, n3, rfl⟩)
        go_ret
        exact ⟨by rw [EK.out]; rfl, _, rfl⟩
    · have ek : k = R := by omega
      have EK := Lib.hid ek
      clear ek
      go_wp2
      go_ret
      exact ⟨by first | rfl | rw [if_neg (show ¬ R < L.length by have := EK.out; omega)], _, rfl⟩

theorem containsC (A : Option Addr) (c B : Nat) (L : List (Nat × Nat)) (w : World) (hr : RowC w B A L) (hn : L.length ≤ 1048576) :
    Calls Try.prog 52 #[.slice A L.length c, .func (.func 53) #[] #[]] w fun e w' => e = .returned (.bool (!(L.all cF))) ∧ ∃ n, w' = w.drewN n := by
  obtain ⟨R, h1, h2, h3, h4⟩ := all_first L
  have H := Lib.hid (idxC A c B R L w hr hn h1 h2 h3)
  have N := Lib.hid h4
  clear hr h2 h3 h4
  by_cases h : R < L.length
  · rw [if_pos h] at H
    go_enter Try.func52, Try.ntmps52
    go_wp2_with (go_at_call 84; refine H.out.mono ?_; rintro e w' ⟨rfl, n, rfl⟩)
    go_ret
    exact ⟨by rw [N.out, decide_eq_true h]; first | rfl | simp, _, rfl⟩
  · rw [if_neg h] at H
    go_enter Try.func52, Try.ntmps52
    go_wp2_with (go_at_call 84; refine H.out.mono ?_; rintro e w' ⟨rfl, n, rfl⟩)
    go_ret
    exact ⟨by rw [N.out, decide_eq_false h]; rfl, _, rfl⟩

def atO (t : Bool) (p q s : Option Nat) : Option Nat × Option Nat := if t = true then (p, fop .add .f32 q s) else (fop .add .f32 p s, q)
theorem atPair (q0 q1 : Int) (t : Bool) (f l lv : Nat) (w : World) :
    Calls Try.prog 51 #[.agg #[.int .i64 q0, .int .i64 q1, .bool t, .float .f32 f, .float .f32 l], .float .f32 lv] w fun e w' => ∃ g h, e = .returned (.complex .f32 g h) ∧ Hid (canC (g, h) = atO t (can .f32 (floatOfInt .f32 q0)) (can .f32 (floatOfInt .f32 q1)) (fop .quo .f32 (fop .sub .f32 (can .f32 lv) (can .f32 f)) (fop .sub .f32 (can .f32 l) (can .f32 f)))) ∧ Hid (Below w.heap.size w w') := by
  have B0 : Hid (Below w.heap.size w (w.alloc (.cells #[.int .i64 q0, .int .i64 q1, .bool t, .float .f32 f, .float .f32 l] 62))) := (Below.refl _ _).alloc (Nat.le_refl _) _
  cases t
  · go_enter Try.func51, Try.ntmps51
    go_wp2_with ((with_reducible refine upon_bin rfl ?_); intro _ _ _ _)
    rename_i r1 m1 w1 er1 r2 m2 w2 er2 r3 m3 w3 er3 r4 m4 w4 er4
    go_ret
    exact ⟨r4, _, rfl, by show (can .f32 r4, _) = _; rw [er4.out, er3.out, er2.out, er1.out]; rfl, belowN B0.out⟩
  · go_enter Try.func51, Try.ntmps51
    go_wp2_with ((with_reducible refine upon_bin rfl ?_); intro _ _ _ _)
    rename_i r1 m1 w1 er1 r2 m2 w2 er2 r3 m3 w3 er3 KK hKK r4 m4 w4 er4
    go_ret
    exact ⟨_, r4, rfl, by show (_, can .f32 r4) = _; rw [er4.out, er3.out, er2.out, er1.out]; rfl, belowN B0.out⟩

theorem atC_set (ws : List (Nat × Nat)) (k j : Nat) (x : Nat × Nat) (hj : j < ws.length) : atC (ws.set k x) j = if j = k then x else atC ws j := by
  unfold atC
  rw [List.getD_eq_getElem?_getD, List.getD_eq_getElem?_getD]
  by_cases e : j = k
  · subst e
    rw [if_pos rfl, List.getElem?_set_self hj]; rfl
  · rw [if_neg e, List.getElem?_set_ne (by omega)]
theorem ToldC.of {W : Nat} {zs : List Nat} {lv : Nat} {M : List (Nat × Nat × Bool)} {L : List (Nat × Nat)} (hl : L.length = M.length) (h : ∀ j, j < M.length → canC (atC L j) = ptO W zs lv (atP M j)) : ToldC W zs lv M L := by
  unfold ToldC
  apply List.ext_getElem (by simpa using hl)
  intro j h1 h2
  rw [List.length_map] at h1 h2
  have := h j h2
  rw [atC_is h1, atP_is h2] at this
  simpa using this
theorem own_made (w : World) (n : Nat) : OwnC (w.alloc (.cells (madeCells #[.complex .f32 0 0] n) 73)) w.heap.size (some ⟨w.heap.size, 0, none⟩) (List.replicate n (0, 0)) := by
  intro _
  refine ⟨w.heap.size, 0, rfl, Nat.le_refl _, by simp, fun j hj => ?_, fun j _ => ?_⟩
  · rw [List.length_replicate] at hj
    have h : (madeCells #[.complex .f32 0 0] n)[j]? = some (.complex .f32 0 0) := by simp [madeCells, hj, Nat.mod_one]
    have e : atC (List.replicate n ((0, 0) : Nat × Nat)) j = (0, 0) := by unfold atC; simp [List.getD, hj]
    rw [e, Nat.zero_add]
    simp [World.cell?, World.alloc, -World.alloc_eq, h, cV]
  · simp [World.frozen?, World.alloc, -World.alloc_eq]

theorem own_at {w : World} {G k : Nat} {ws : List (Nat × Nat)} (h : OwnC w G (some ⟨G, 0, none⟩) ws) (hk : k < ws.length) : w.cell? ⟨G, k, none⟩ = some (.complex .f32 (atC ws k).1 (atC ws k).2) ∧ w.frozen? ⟨G, k, none⟩ = false := by
  obtain ⟨b, off, e, _, _, h1, h2⟩ := h (by omega)
  injection e with e
  injection e with e1 e2 _
  subst e1 e2
  have a := h1 k hk
  have c := h2 k hk
  rw [Nat.zero_add] at a c
  exact ⟨a, c⟩
theorem OwnC.put {w : World} {G k : Nat} {ws : List (Nat × Nat)} {x : Nat × Nat} (h : OwnC w G (some ⟨G, 0, none⟩) ws) (hk : k < ws.length) : OwnC (w.setCell ⟨G, k, none⟩ (.complex .f32 x.1 x.2)) G (some ⟨G, 0, none⟩) (ws.set k x) := by
  have := h.set (x := x) hk (zs := ws.set k x) (List.length_set ..) fun j hj => atC_set ws k j x hj
  rwa [Nat.zero_add] at this
theorem coN_le {x y : Int} {zs : List Nat} {lv : Nat} : (coX x y zs lv).length ≤ 1024 := by
  unfold coX
  split
  · rename_i h
    unfold coO at h
    rw [Bool.and_eq_true] at h
    obtain ⟨_, _, e1, e2⟩ := shB_xy3 h.1
    have := coV_le x.toNat y.toNat zs lv zs.length
    show (coV x.toNat y.toNat zs lv zs.length).length ≤ 1024
    omega
  · simp
theorem ct_is {x y : Int} {zs : List Nat} {lv : Nat} {L : List (Nat × Nat)} (h : ToldC x.toNat zs lv (coX x y zs lv) L) (ho : coO x y zs lv = true) :
    (L.all cF = true → L = ctR x y zs lv ∧ ctB x y zs lv = true) ∧ (L.all cF = false → ctR x y zs lv = [] ∧ ctB x y zs lv = false) := by
  have e : coX x y zs lv = coM x y zs lv := by unfold coX; rw [if_pos ho]
  rw [e] at h
  refine ⟨fun hf => ?_, fun hf => ?_⟩
  · rw [h.all] at hf
    obtain ⟨h1, h2⟩ := ct_yes ho hf
    exact ⟨by rw [h1]; exact h.is hf, h2⟩
  · rw [h.all] at hf
    exact ct_bad hf

set_option maxHeartbeats 8000000 in
set_option maxRecDepth 100000 in
theorem implCtr (x y : Int) (lv : Nat) (A : Option Addr) (c : Nat) (zs : List Nat) (w : World) (hr : RowF w w.heap.size A zs) (hn : zs.length ≤ 1048576) :
    Calls Try.prog 20 #[.agg #[.int .i64 x, .int .i64 y, .slice A zs.length c], .float .f32 lv] w (KPost (ctR x y zs lv) (ctB x y zs lv) w) := by
  have B0 : Below w.heap.size w (w.alloc (.cells #[.int .i64 x, .int .i64 y, .slice A zs.length c] 29)) := (Below.refl _ _).alloc (Nat.le_refl _) _
  have HC := Lib.hid (implCo x y lv A c zs _ (hr.carry B0) hn)
  have HB := Lib.hid B0
  have HN := Lib.hid (ct_no (x := x) (y := y) (zs := zs) (lv := lv))
  have HI := Lib.hid (fun L (h : ToldC x.toNat zs lv (coX x y zs lv) L) ho => ct_is h ho)
  have hX : (coX x y zs lv).length ≤ 1024 := coN_le
  clear hr B0 hn
  obtain ⟨i0, hi, hz0, hz1, hz2⟩ := info_parts info_cG
  go_enter Try.func20, Try.ntmps20
  go_wp2_with fail
  refine HC.out.mono ?_
  rintro e w1 ⟨A1, c1, rfl, hP, hb⟩
  have HE : Hid (Below w.heap.size w w1) := HB.out.trans (hb.out.mono HB.out.size)
  clear HC hb HB
  have HT := Lib.hid (fun (L : List (Nat × Nat)) (h : L.length = (coX x y zs lv).length) (g : ∀ j, j < (coX x y zs lv).length → canC (atC L j) = ptO x.toNat zs lv (atP (coX x y zs lv) j)) => HI.out L (ToldC.of h g))
  clear HI
  generalize coX x y zs lv = M at *
  have hmk := fun W => run_make_rowF (P := Try.prog) 38 73 i0 (.complex .f32 0 0) Try.underlying38 hi hz0 .i64 .i64 M.length M.length (Nat.le_refl _) (by rw [hz2]; omega) (by omega) W
  rw [hz1, Nat.mul_one] at hmk
  have O0 := Lib.hid (own_made w1 M.length)
  have BO := Lib.hid (World.below_one w1 (.cells (madeCells #[.complex .f32 0 0] M.length) 73))
  have hGz : w1.heap.size < (w1.alloc (.cells (madeCells #[.complex .f32 0 0] M.length) 73)).heap.size := by simp
  clear hi hz0 hz1 hz2
  go_wp2_with fail
  clear hmk
  generalize w1.alloc (.cells (madeCells #[.complex .f32 0 0] M.length) 73) = w2 at *
  generalize hG : w1.heap.size = G at *
  have HG := Lib.hid hG
  clear hG
  go_loopw [22] (fun i wr => ∃ (k : Nat) (ws : List (Nat × Nat)), k ≤ M.length ∧ i = .int .i64 k ∧ Hid (ws.length = M.length) ∧ Hid (OwnC wr G (some ⟨G, 0, none⟩) ws) ∧ Hid (∀ j, j < k → canC (atC ws j) = ptO x.toNat zs lv (atP M j)) ∧ Hid (Below G w1 wr) ∧ G < wr.heap.size) (fun i _ => M.length - (intOf i).toNat)
  case atStart => exact ⟨0, _, Nat.zero_le _, rfl, List.length_replicate .., O0, fun j hj => absurd hj (Nat.not_lt_zero _), BO, hGz⟩
  case round =>
    obtain ⟨k, ws, hk, rfl, hl, hO, hT, hB, hsz⟩ := hrel
    by_cases hlt : k < M.length
    · have R := hP.out.below hB.out
      obtain ⟨g, rfl, hg, hq⟩ := R (by omega)
      clear hq
      obtain ⟨_, d0, d1, d2, d3, d4⟩ := R.at hlt
      have EA : Hid (atP M k = M[k]) := atP_is hlt
      generalize M[k] = p at *
      have EP : Hid (ptO x.toNat zs lv p = atO p.2.2 (can .f32 (floatOfInt .f32 ((p.1 % x.toNat : Nat) : Int))) (can .f32 (floatOfInt .f32 ((p.1 / x.toNat : Nat) : Int))) (fop .quo .f32 (fop .sub .f32 (can .f32 lv) (can .f32 (at0 zs p.1))) (fop .sub .f32 (can .f32 (at0 zs p.2.1)) (can .f32 (at0 zs p.1))))) := by
        show _ = _
        unfold ptO atO shrO fI
        rfl
      clear R
      generalize ((p.1 % x.toNat : Nat) : Int) = q0 at *
      generalize ((p.1 / x.toNat : Nat) : Int) = q1 at *
      generalize p.2.2 = t at *
      have hbA := World.below_one wr (.cells #[.int .i64 q0, .int .i64 q1, .bool t, .float .f32 (at0 zs p.1), .float .f32 (at0 zs p.2.1)] 62)
      have HA := Lib.hid (atPair q0 q1 t (at0 zs p.1) (at0 zs p.2.1) lv (wr.alloc (.cells #[.int .i64 q0, .int .i64 q1, .bool t, .float .f32 (at0 zs p.1), .float .f32 (at0 zs p.2.1)] 62)))
      have OA := Lib.hid (hO.out.below hbA)
      have BA := Lib.hid (hB.out.trans (hbA.mono (Nat.le_of_lt hsz)))
      have hsA := Nat.lt_of_lt_of_le hsz hbA.size
      have hGg : g < G := hg
      clear hbA hO
      go_wp2_with (go_at_call 51; refine HA.out.mono ?_; rintro e w3 ⟨g3, h3, rfl, hg3, hb3⟩; have O3 := Lib.hid (OA.out.below hb3.out); have B3 := Lib.hid (BA.out.trans (hb3.out.mono (Nat.le_of_lt hsA))); have hs3 := Nat.lt_of_lt_of_le hsA hb3.out.size; obtain ⟨hc3, hf3⟩ := own_at O3.out (by rw [hl.out]; exact hlt); clear hb3)
      have O4 := Lib.hid (O3.out.put (x := (g3, h3)) (by rw [hl.out]; exact hlt))
      have B4 := Lib.hid (Below.setCell (p := ⟨G, k, none⟩) B3.out (Nat.le_refl _) (.complex .f32 g3 h3))
      have T4 : Hid (∀ j, j < k + 1 → canC (atC (ws.set k (g3, h3)) j) = ptO x.toNat zs lv (atP M j)) := fun j hj => by
        rw [atC_set _ _ _ _ (by rw [hl.out]; omega)]
        by_cases e : j = k
        · rw [if_pos e, e, EA.out, EP.out]; exact hg3.out
        · rw [if_neg e]; exact hT.out j (by omega)
      clear hc3 hf3
      go_roundw
      case rel => exact ⟨k + 1, ws.set k (g3, h3), by omega, by go_num, by show _ = _; rw [List.length_set]; exact hl.out, O4, T4, B4, by simpa [World.setCell] using hs3⟩
      case measure => simp [intOf]; omega
    · have ek : k = M.length := by omega
      have D := Lib.hid (HT.out ws hl.out (fun j hj => hT.out j (by omega)))
      have BE : Hid (Below w.heap.size w wr) := HE.out.trans (hB.out.mono (by rw [← HG.out]; exact HE.out.size))
      have RC := Lib.hid (containsC (some ⟨G, 0, none⟩) M.length wr.heap.size ws wr hO.out.row (by rw [hl.out]; omega))
      rw [hl.out] at RC
      have hGs : w.heap.size ≤ G := by rw [← HG.out]; exact HE.out.size
      cases ho : coO x y zs lv
      · have N := Lib.hid (HN.out ho)
        clear HN HT D RC
        go_wp2_with fail
        go_ret2
        exact kpost_no N.out.2.1 N.out.2.2 BE.out
      · have D2 := Lib.hid (D.out ho)
        clear HN HT D
        cases ha : ws.all cF
        · have N := Lib.hid (D2.out.2 ha)
          rw [ha] at RC
          clear D2 ha
          go_wp2_with (go_at_call 52; refine RC.out.mono ?_; rintro e w' ⟨rfl, n, rfl⟩)
          go_ret2
          exact kpost_no N.out.1 N.out.2 (belowN BE.out)
        · have N := Lib.hid (D2.out.1 ha)
          rw [ha] at RC
          have RI : Hid (∀ n : Nat, RowCI (wr.drewN n) w.heap.size (wr.drewN n).heap.size (some ⟨G, 0, none⟩) ws) := fun n => ⟨Nat.le_refl _, fun a ha => by injection ha with ha; subst ha; exact ⟨hGs, hsz⟩, fun h0 => by
            obtain ⟨b, off, e, q1, q2, q3, q4⟩ := hO.out h0
            exact ⟨b, off, e, Nat.le_trans hGs q1, q2, q3, q4⟩⟩
          clear D2 ha
          go_wp2_with (go_at_call 52; refine RC.out.mono ?_; rintro e w' ⟨rfl, n, rfl⟩)
          go_ret2
          rw [N.out.2, ← N.out.1]
          exact ⟨_, M.length, by rw [hl.out]; rfl, RI.out _, belowN BE.out⟩

theorem coM_le {x y : Int} {zs : List Nat} {lv : Nat} (h : coO x y zs lv = true) : (coM x y zs lv).length ≤ 1024 := by
  have := coN_le (x := x) (y := y) (zs := zs) (lv := lv)
  unfold coX at this
  rwa [if_pos h] at this
theorem ct_is2 {x y : Int} {zs : List Nat} {lv : Nat} {L : List (Nat × Nat)} (h : ToldC x.toNat zs lv (coM x y zs lv) L) (ho : coO x y zs lv = true) :
    (L.all cF = true → L = ctR x y zs lv ∧ ctB x y zs lv = true) ∧ (L.all cF = false → ctR x y zs lv = [] ∧ ctB x y zs lv = false) := by
  refine ct_is ?_ ho
  unfold coX
  rw [if_pos ho]
  exact h

set_option maxHeartbeats 2000000 in
theorem specCtr (x y : Int) (lv : Nat) (A : Option Addr) (c : Nat) (zs : List Nat) (w : World) (hr : RowF w w.heap.size A zs) (hn : zs.length ≤ 1048576) :
    Calls Try.prog 19 #[.agg #[.int .i64 x, .int .i64 y, .slice A zs.length c], .float .f32 lv] w (KPost (ctR x y zs lv) (ctB x y zs lv) w) := by
  have B0 : Below w.heap.size w (w.alloc (.cells #[.int .i64 x, .int .i64 y, .slice A zs.length c] 29)) := (Below.refl _ _).alloc (Nat.le_refl _) _
  have HV := Lib.hid (varT_new w x y A zs.length c 29)
  have HC := Lib.hid (specIs w.heap.size x y A c zs _ HV.out (hr.carry B0) hn)
  have HB := Lib.hid B0
  have HR := Lib.hid (hr.carry B0)
  clear hr B0
  cases h : shB x y zs
  · have N : Hid (coO x y zs lv = false) := by show _ = _; unfold coO; rw [h]; rfl
    have N1 := Lib.hid (ct_no N.out).2
    have H1 := Lib.hid h
    clear h
    go_enter Try.func19, Try.ntmps19
    go_wp2_with fail
    refine HC.out.mono ?_
    rintro e w' ⟨rfl, n, rfl⟩
    rw [H1.out]
    clear HC
    go_wp2_with fail
    go_ret2
    exact kpost_no N1.out.1 N1.out.2 (belowN HB.out)
  · have H1 := Lib.hid h
    cases h2 : finB .f32 lv
    · have N : Hid (coO x y zs lv = false) := by show _ = _; unfold coO; rw [h, h2]; rfl
      have N1 := Lib.hid (ct_no N.out).2
      have H2 := Lib.hid h2
      clear h h2
      go_enter Try.func19, Try.ntmps19
      go_wp2_with fail
      refine HC.out.mono ?_
      rintro e w' ⟨rfl, n, rfl⟩
      rw [H1.out]
      clear HC
      go_wp2_with (go_at_call 47; refine (specFin _ _).mono ?_; rintro e w' ⟨rfl, n2, rfl⟩; rw [H2.out])
      go_ret2
      exact kpost_no N1.out.1 N1.out.2 (belowN HB.out)
    · have N : Hid (coO x y zs lv = true) := by show _ = _; unfold coO; rw [h, h2]; rfl
      have H2 := Lib.hid h2
      clear h h2
      go_enter Try.func19, Try.ntmps19
      go_wp2_with fail
      refine HC.out.mono ?_
      rintro e w' ⟨rfl, n, rfl⟩
      rw [H1.out]
      have HQ := Lib.hid (fun (k : Nat) => specCon w.heap.size x y lv A c zs _ (HV.out.below (belowN (n := k) (Below.refl _ _))) (HR.out.carry (belowN (n := k) (Below.refl _ _))) H1.out H2.out)
      clear HC
      go_wp2_with (go_at_call 47; refine (specFin _ _).mono ?_; rintro e w' ⟨rfl, n2, rfl⟩; rw [H2.out])
      refine (HQ.out _).mono ?_
      rintro e w3 ⟨A3, c3, L, rfl, hT, hO, hb3⟩
      have HE := Lib.hid ((belowN (n := n + n2) HB.out).trans (hb3.out.mono HB.out.size))
      have hl : L.length ≤ 1024 := by rw [hT.out.len]; exact coM_le N.out
      have D := Lib.hid (ct_is2 hT.out N.out)
      have RI := Lib.hid (hO.out.rowCI.lower HB.out.size)
      have RW := Lib.hid hO.out.own.row
      obtain ⟨R, h1, h2, h3, h4⟩ := all_first L
      have HA := Lib.hid h2
      have HZ := Lib.hid h3
      have HD := Lib.hid h4
      clear HQ hb3 hT hO h2 h3 h4 HV HR HB
      go_wp2_with fail
      go_loopw [19] (fun i wr => ∃ k : Nat, k ≤ R ∧ i = .int .i64 k ∧ ∃ n, wr = w3.drewN n) (fun i _ => R - (intOf i).toNat)
      case atStart => exact ⟨0, Nat.zero_le _, rfl, 0, rfl⟩
      case round =>
        obtain ⟨k, hk, rfl, m, rfl⟩ := hrel
        by_cases hkn : k < L.length
        · obtain ⟨b, off, rfl, hb, hcell⟩ := RW.out (by omega)
          have hc := hcell k hkn
          unfold cV at hc
          have HCc := Lib.hid (fun W => specFinX (atC L k) W)
          have hal := fun h => HA.out k h
          have hen : k = R → cF (atC L k) = false := fun h => by rw [h]; exact HZ.out (by omega)
          generalize hq : atC L k = q at *
          clear hq hcell
          by_cases hlt : k < R
          · have h0 := hal hlt
            rw [h0] at HCc
            clear h0 hal hen
            generalize q.1 = q1 at *
            generalize q.2 = q2 at *
            go_wp2_with (go_at_call 50; refine (HCc.out _).mono ?_; rintro e w' ⟨rfl, n3, rfl⟩)
            go_roundw
            case rel => exact ⟨k + 1, by omega, by go_num, _, rfl⟩
            case measure => simp [intOf]; omega
          · have ek : k = R := by omega
            have h0 := hen ek
            rw [h0] at HCc
            have hal2 : L.all cF = false := by rw [HD.out, decide_eq_true (by omega)]; rfl
            have N1 := Lib.hid (D.out.2 hal2)
            clear h0 hal hen ek hal2
            generalize q.1 = q1 at *
            generalize q.2 = q2 at *
            go_wp2_with (go_at_call 50; refine (HCc.out _).mono ?_; rintro e w' ⟨rfl, n3, rfl⟩)
            go_ret2
            exact kpost_no N1.out.1 N1.out.2 (belowN HE.out)
        · have hal2 : L.all cF = true := by rw [HD.out, decide_eq_false (by omega)]; rfl
          have N1 := Lib.hid (D.out.1 hal2)
          clear hal2
          go_wp2_with fail
          go_ret2
          rw [N1.out.2, ← N1.out.1]
          exact ⟨A3, c3, rfl, ⟨RI.out.le, RI.out.inn, RI.out.row⟩, belowN HE.out⟩

theorem ctrBoth (x y : Int) (lv : Nat) (zs : List Nat) (hn : zs.length ≤ 1048576) : ∃ ys b, ys.length ≤ 1024 ∧
    (∀ (w : World) (A : Option Addr) (c : Nat), RowF w w.heap.size A zs → Calls Try.prog 19 #[.agg #[.int .i64 x, .int .i64 y, .slice A zs.length c], .float .f32 lv] w (KPost ys b w)) ∧
    (∀ (w : World) (A : Option Addr) (c : Nat), RowF w w.heap.size A zs → Calls Try.prog 20 #[.agg #[.int .i64 x, .int .i64 y, .slice A zs.length c], .float .f32 lv] w (KPost ys b w)) := by
  refine ⟨ctR x y zs lv, ctB x y zs lv, ?_, fun w A c hr => specCtr x y lv A c zs w hr hn, fun w A c hr => implCtr x y lv A c zs w hr hn⟩
  unfold ctR
  split
  · rename_i h
    unfold ctB at h
    rw [Bool.and_eq_true] at h
    unfold ctL
    rw [List.length_map]
    exact coM_le h.1
  · simp

end Go.Proofs.Ytfjahgojmiednaa
