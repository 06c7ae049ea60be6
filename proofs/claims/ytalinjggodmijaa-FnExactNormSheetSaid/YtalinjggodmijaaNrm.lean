/-
  What is proved here: NormSheet, of both packages, as walks. Conditions: at most 1048576 heights.
-/
import Derived.Test.YtalinjggodmijaaGiv
import Derived.Test.YtalinjggodmijaaDif
namespace Go.Proofs.Ytalinjggodmijaa
open Flt Go.RowKit
attribute [local go_sem] run_store_float

/-- a height less the least one, divided by the difference -/
def normF (zs : List Nat) (l d : Nat) (j : Nat) : Option Nat := fop .quo .f32 (fop .sub .f32 (can .f32 (at0 zs j)) (can .f32 l)) (can .f32 d)
/-- a row that holds so many of what is told, as far as numbers go -/
def Told (f : Nat → Option Nat) (n k : Nat) (ws : List Nat) : Prop := ws.length = n ∧ ∀ j, j < k → can .f32 (at0 ws j) = f j
def toldY (f : Nat → Option Nat) (n : Nat) : List Nat := (List.range n).map fun j => (f j).getD 0
def toldB (f : Nat → Option Nat) (n : Nat) : Bool := (List.range n).all fun j => finO (f j)

theorem Told.step {f : Nat → Option Nat} {n k r : Nat} {ws : List Nat} (h : Told f n k ws) (hk : k < n) (hr : can .f32 r = f k) : Told f n (k + 1) (ws.set k r) := by
  refine ⟨by rw [List.length_set]; exact h.1, fun j hj => ?_⟩
  rw [at0_set (by rw [h.1]; omega)]
  by_cases e : j = k
  · rw [if_pos e, e]; exact hr
  · rw [if_neg e]; exact h.2 j (by omega)
theorem Told.fin {f : Nat → Option Nat} {n : Nat} {ws : List Nat} (h : Told f n n ws) : finAll ws = toldB f n := by
  cases e : toldB f n with
  | true =>
    refine finAll_yes fun j hj => ?_
    rw [h.1] at hj
    rw [← finO_can, h.2 j hj]
    exact List.all_eq_true.1 e j (List.mem_range.2 hj)
  | false =>
    unfold toldB at e
    rw [List.all_eq_false] at e
    obtain ⟨j, hj, hf⟩ := e
    rw [List.mem_range] at hj
    refine finAll_no (k := j) (by rw [h.1]; exact hj) ?_
    rw [← finO_can, h.2 j hj]
    simpa using hf
theorem Told.eq {f : Nat → Option Nat} {n : Nat} {ws : List Nat} (h : Told f n n ws) (hb : toldB f n = true) : ws = toldY f n := by
  apply List.ext_getElem (by rw [h.1]; simp [toldY])
  intro j h1 h2
  have hj : j < n := by rw [h.1] at h1; exact h1
  have hc := h.2 j hj
  have hf : finO (f j) = true := List.all_eq_true.1 hb j (List.mem_range.2 hj)
  have ea : at0 ws j = ws[j] := by simp [at0, List.getD, h1]
  simp only [toldY, List.getElem_map, List.getElem_range]
  cases hv : f j with
  | none => rw [hv] at hf; cases hf
  | some v =>
    rw [hv] at hc
    obtain ⟨_, e⟩ := can_eq_some hc
    rw [← ea, e]; rfl
theorem toldY_length (f : Nat → Option Nat) (n : Nat) : (toldY f n).length = n := by simp [toldY]

theorem shB_len {x y : Int} {zs ws : List Nat} (h : shB x y zs = true) (hl : ws.length = zs.length) : shB x y ws = finAll ws := by
  unfold shB at h ⊢
  simp only [Bool.and_eq_true] at h
  obtain ⟨h1, h2, h3, _⟩ := h
  rw [h1, h2, hl, h3]; rfl
theorem shB_fin {x y : Int} {zs : List Nat} (h : shB x y zs = true) : finAll zs = true := by
  unfold shB at h
  simp only [Bool.and_eq_true] at h
  exact h.2.2.2

theorem lo_fin {zs : List Nat} (h : finAll zs = true) (h0 : 0 < zs.length) : ∀ k, k ≤ zs.length → finB .f32 (loW zs k) = true ∧ finB .f32 (hiW zs k) = true := by
  intro k
  induction k with
  | zero => intro _; exact ⟨finAll_at h h0, finAll_at h h0⟩
  | succ k ih =>
    intro hk
    obtain ⟨a, b⟩ := ih (by omega)
    have hz := finAll_at h (j := k) (by omega)
    constructor
    · show finB .f32 (lessW _ _) = true
      unfold lessW; split <;> assumption
    · show finB .f32 (greatW _ _) = true
      unfold greatW; split <;> assumption

theorem RowIn.wide {w : World} {lo hi lo' hi' : Nat} {A : Option Addr} {zs : List Nat} (r : RowIn w lo hi A zs) (h1 : lo' ≤ lo) (h2 : hi ≤ hi') (h3 : hi' ≤ w.heap.size) : RowIn w lo' hi' A zs :=
  ⟨h3, fun a ha => by have := r.inn a ha; omega, fun h0 => by
    obtain ⟨b, off, hA, g1, g2, hc, hf⟩ := r.row h0
    exact ⟨b, off, hA, by omega, by omega, hc, hf⟩⟩
/-- three stores into a variable change nothing that lies lower -/
theorem store3 {w : World} {X Y : Nat} (h : X ≤ Y) (u0 u1 u2 : Value) : Below X w (((w.setCell ⟨Y, 0, none⟩ u0).setCell ⟨Y, 1, none⟩ u1).setCell ⟨Y, 2, none⟩ u2) := (((Below.refl _ _).setCell h _).setCell h _).setCell h _
def gY (b : Bool) (ys : List Nat) : List Nat := if b = true then ys else []
def gN (b : Bool) (v : Int) : Int := if b = true then v else 0
theorem tpost_no {B : Bool} {x y : Int} {ys : List Nat} {w w' : World} (hb : B = false) (h : Below w.heap.size w w') : TPost (gN B x) (gN B y) (gY B ys) B w (.returned (.tuple #[.agg #[.int .i64 0, .int .i64 0, .slice none 0 0], .bool false])) w' := by
  subst hb
  exact ⟨none, 0, rfl, RowIn.empty (Nat.le_refl _), h⟩
theorem tpost_yes {B : Bool} {x y : Int} {ys : List Nat} {n c : Nat} {A : Option Addr} {w w' : World} (hb : B = true) (hl : ys.length = n) (hr : RowIn w' w.heap.size w'.heap.size A ys) (h : Below w.heap.size w w') : TPost (gN B x) (gN B y) (gY B ys) B w (.returned (.tuple #[.agg #[.int .i64 x, .int .i64 y, .slice A n c], .bool true])) w' := by
  subst hb hl
  exact ⟨A, c, rfl, hr, h⟩
theorem RowIn.store3 {w : World} {lo Y : Nat} {A : Option Addr} {zs : List Nat} (r : RowIn w lo w.heap.size A zs) (hq : Y < lo) (u0 u1 u2 : Value) : RowIn (((w.setCell ⟨Y, 0, none⟩ u0).setCell ⟨Y, 1, none⟩ u1).setCell ⟨Y, 2, none⟩ u2) lo (((w.setCell ⟨Y, 0, none⟩ u0).setCell ⟨Y, 1, none⟩ u1).setCell ⟨Y, 2, none⟩ u2).heap.size A zs :=
  ((r.setLow (q := ⟨Y, 0, none⟩) hq u0).setLow (q := ⟨Y, 1, none⟩) hq u1).setLow (q := ⟨Y, 2, none⟩) hq u2
theorem RowF.at {w : World} {X b off k : Nat} {zs : List Nat} (h : RowF w X (some ⟨b, off, none⟩) zs) (hk : k < zs.length) : w.cell? ⟨b, off + k, none⟩ = some (.float .f32 (at0 zs k)) := by
  obtain ⟨b', off', e, _, hc⟩ := h (by omega)
  injection e with e
  injection e with e1 e2 _
  subst e1 e2
  exact hc k hk

/-- a fresh variable behind another one -/
theorem two_new (w : World) (x y : Int) (A : Option Addr) (n c : Nat) (t u : TypeId) : Two ((w.alloc (.cells #[.int .i64 x, .int .i64 y, .slice A n c] t)).alloc (.cells #[.int .i64 0, .int .i64 0, .slice none 0 0] u)) w.heap.size (w.heap.size + 1) x y A n c ((w.alloc (.cells #[.int .i64 x, .int .i64 y, .slice A n c] t)).alloc (.cells #[.int .i64 0, .int .i64 0, .slice none 0 0] u)) := by
  have e1 : (w.alloc (.cells #[.int .i64 x, .int .i64 y, .slice A n c] t)).heap.size = w.heap.size + 1 := by simp
  obtain ⟨d0, d1, d2, f0, f1, f2⟩ := fresh3 (w.alloc (.cells #[.int .i64 x, .int .i64 y, .slice A n c] t)) (.int .i64 0) (.int .i64 0) (.slice none 0 0) u
  rw [e1] at d0 d1 d2 f0 f1 f2
  have V := (varT_new w x y A n c t).below ((Below.refl _ _).alloc (Nat.le_refl _) (.cells #[.int .i64 0, .int .i64 0, .slice none 0 0] u))
  exact ⟨Nat.lt_succ_self _, by simp, Below.refl _ _, V.c0, V.c1, V.c2, rd_of d0, rd_of d1, rd_of d2, f0, f1, f2⟩
theorem Two.var {b w : World} {X Y n c : Nat} {x y : Int} {A : Option Addr} (h : Two b X Y x y A n c w) : VarT w X x y A n c := ⟨Nat.lt_trans h.xy h.yb, h.c0, h.c1, h.c2⟩
theorem run_f32 {op : BinOp} {x y r : Nat} (h : floatBits op .f32 x y = some r) : ∀ W, (binOp op 32 (.float .f32 x) (.float .f32 y)).run Try.prog W = .ok (.float .f32 r) W :=
  fun W => run_float_arith W op 32 .f32 _ _ _ h

set_option maxHeartbeats 8000000 in
set_option maxRecDepth 1000000 in
theorem specNorm (x y : Int) (A : Option Addr) (c : Nat) (zs : List Nat) (w : World) (hr : RowF w w.heap.size A zs) (hn : zs.length ≤ 1048576) (hs : shB x y zs = true) (d : Nat) (hd : floatBits .sub .f32 (hiW zs zs.length) (loW zs zs.length) = some d) (hg : FloatKind.f32.format.order d 0 = some .gt) :
    Calls Try.prog 37 #[.agg #[.int .i64 x, .int .i64 y, .slice A zs.length c]] w (TPost (gN (toldB (normF zs (loW zs zs.length) d) zs.length) x) (gN (toldB (normF zs (loW zs zs.length) d) zs.length) y) (gY (toldB (normF zs (loW zs zs.length) d) zs.length) (toldY (normF zs (loW zs zs.length) d) zs.length)) (toldB (normF zs (loW zs zs.length) d) zs.length) w) := by
  have h0 := shB_pos hs
  have H0 := Lib.hid h0
  obtain ⟨b0, off, rfl, hbb, hcell⟩ := hr h0
  have HCL := Lib.hid hcell
  have HBB := Lib.hid hbb
  have T0 := Lib.hid (two_new w x y (some ⟨b0, off, none⟩) zs.length c 27 27)
  have B0 : Hid (Below w.heap.size w ((w.alloc (.cells #[.int .i64 x, .int .i64 y, .slice (some ⟨b0, off, none⟩) zs.length c] 27)).alloc (.cells #[.int .i64 0, .int .i64 0, .slice none 0 0] 27))) := ((Below.refl _ _).alloc (Nat.le_refl _) _).alloc (by simp) _
  have R0 : Hid (RowF ((w.alloc (.cells #[.int .i64 x, .int .i64 y, .slice (some ⟨b0, off, none⟩) zs.length c] 27)).alloc (.cells #[.int .i64 0, .int .i64 0, .slice none 0 0] 27)) w.heap.size (some ⟨b0, off, none⟩) zs) := hr.below B0.out
  have HS := Lib.hid hs
  have hrun := run_f32 hd
  clear hr h0 hbb hcell hs hd
  go_enter Try.func37, Try.ntmps37
  go_wp2_with fail
  generalize (w.alloc (.cells #[.int .i64 x, .int .i64 y, .slice (some ⟨b0, off, none⟩) zs.length c] 27)).alloc (.cells #[.int .i64 0, .int .i64 0, .slice none 0 0] 27) = b at *
  generalize hX : w.heap.size = X at *
  have HX := Lib.hid hX
  clear hX
  refine (specIs X x y (some ⟨b0, off, none⟩) c zs b T0.out.var (R0.out.mono (Nat.le_of_lt T0.out.var.lt)) hn).mono ?_
  rintro e w' ⟨rfl, n1, rfl⟩
  rw [HS.out]
  have T1 := Lib.hid (T0.out.below (belowN (n := n1) (Below.refl _ _)))
  have R1 : Hid (RowF (b.drewN n1) X (some ⟨b0, off, none⟩) zs) := R0
  have B1 := Lib.hid (belowN (n := n1) B0.out)
  clear T0 R0 B0
  go_wp2_with fail
  generalize b.drewN n1 = b1 at *
  refine (specRange5 X x y (some ⟨b0, off, none⟩) c zs b1 T1.out.var (R1.out.mono (Nat.le_of_lt T1.out.var.lt)) hn H0.out).mono ?_
  rintro e w' ⟨rfl, rfl⟩
  go_wp2_with fail
  refine (own_is X x y (some ⟨b0, off, none⟩) c zs b1 T1.out.var (R1.out.mono (Nat.le_of_lt T1.out.var.lt)) H0.out hn).mono ?_
  rintro e b2 ⟨g, c', rfl, RO, hb2⟩
  have T2 := Lib.hid (T1.out.below hb2.out)
  have R2 : Hid (RowF b2 X (some ⟨b0, off, none⟩) zs) := R1.out.below (hb2.out.mono (Nat.le_of_lt T1.out.var.lt))
  have B2 := Lib.hid (B1.out.trans (hb2.out.mono (Nat.le_of_lt T1.out.var.lt)))
  obtain ⟨G2', gl, gh, _⟩ := RO.out.toG
  have gX : X + 1 < g := by have := T1.out.yb; omega
  have hbO : Below b2.heap.size b2 (b2.alloc (.cells #[.int .i64 x, .int .i64 y, .slice (some ⟨g, 0, none⟩) zs.length c'] 27)) := (Below.refl _ _).alloc (Nat.le_refl _) _
  have VO := Lib.hid (varT_new b2 x y (some ⟨g, 0, none⟩) zs.length c' 27)
  have T3 := Lib.hid (T2.out.below hbO)
  have R3 : Hid (RowF (b2.alloc (.cells #[.int .i64 x, .int .i64 y, .slice (some ⟨g, 0, none⟩) zs.length c'] 27)) X (some ⟨b0, off, none⟩) zs) := R2.out.below (hbO.mono (Nat.le_of_lt T2.out.var.lt))
  have B3 := Lib.hid (B2.out.trans (hbO.mono (Nat.le_of_lt T2.out.var.lt)))
  have G3 := Lib.hid (G2'.but (ButIn.of hbO) (.inr (Nat.zero_le _)))
  clear T1 R1 B1 T2 R2 B2 RO hb2 G2' gl hbO hrun
  go_wp2_with fail
  generalize b2.alloc (.cells #[.int .i64 x, .int .i64 y, .slice (some ⟨g, 0, none⟩) zs.length c'] 27) = b3 at *
  generalize b2.heap.size = O at *
  go_loopw [27] (fun i wr => ∃ k : Nat, k ≤ zs.length ∧ i = .int .i64 k ∧ ∃ ws, Hid (Told (normF zs (loW zs zs.length) d) zs.length k ws) ∧ Hid (RowG wr g ws) ∧ Hid (ButIn g (g + 1) b3 wr)) (fun i _ => zs.length - (intOf i).toNat)
  case atStart => exact ⟨0, Nat.zero_le _, rfl, zs, ⟨rfl, fun j hj => absurd hj (Nat.not_lt_zero _)⟩, G3, ButIn.refl _ _ _⟩
  case round =>
    obtain ⟨k, hk, rfl, ws, hT, hG, hB⟩ := hrel
    have x2 := (T3.out.var.but hB.out (.inl (by omega))).c2
    have o2 := (VO.out.but hB.out (.inr (by omega))).c2
    by_cases hlt : k < zs.length
    · have he := (R3.out.butIn hB.out (Nat.le_of_lt T3.out.var.lt) (.inl (by omega))).at hlt
      obtain ⟨hg1, hg2⟩ := hG.out.cell (k := k) (by rw [hT.out.1]; exact hlt)
      go_wp2_with fail
      go_region_with ((with_reducible refine upon_bin rfl ?_); intro _ _ _ _)
      all_goals
        rename_i r1 m1 w1 e1 r2 m2 w2 e2
        have N1 := Lib.hid (hT.out.step hlt (show can .f32 r2 = normF zs (loW zs zs.length) d k by rw [e2.out, e1.out]; rfl))
        have N2 := fun n => ((hG.out.but (ButIn.of (belowN (n := n) (Below.refl _ _))) (.inr (Nat.zero_le _))).set (k := k) (u := r2) (by rw [hT.out.1]; exact hlt))
        have N3 := fun n => ((hB.out.drewN (n := n)).set (q := ⟨g, k, none⟩) (Nat.le_refl _) (Nat.lt_succ_self _) (.float .f32 r2))
        have N2' := Lib.hid N2
        have N3' := Lib.hid N3
        clear N2 N3 hT hG hB x2 o2 he hg1 hg2 e1 e2 w1 w2
        go_wp2_with fail
        go_roundw
        case rel => exact ⟨k + 1, by omega, by go_num, _, N1, N2'.out _, N3'.out _⟩
        case measure => simp [intOf]; omega
    · have HK : Hid (k = zs.length) := by show k = zs.length; omega
      have hl := hT.out.1
      have hT' : Hid (Told (normF zs (loW zs zs.length) d) zs.length zs.length ws) := by have := hT.out; rw [HK.out] at this; exact this
      have o0 := (VO.out.but hB.out (.inr (by omega))).c0
      have o1 := (VO.out.but hB.out (.inr (by omega))).c1
      have hgv := specGive x y (some ⟨g, 0, none⟩) c' ws wr hG.out.toRow (by rw [hl]; exact hn) (toldB (normF zs (loW zs zs.length) d) zs.length) (by rw [shB_len HS.out hl, hT'.out.fin])
      rw [hl] at hgv
      have HG := Lib.hid hgv
      have T4 := Lib.hid (T3.out.chg (hB.out.toBelow (by omega) (Nat.succ_le_of_lt T3.out.yb)))
      have B4 := Lib.hid (B3.out.trans (hB.out.toBelow (by omega) (Nat.le_of_lt T3.out.var.lt)))
      have R4 : Hid (RowIn wr g (g + 1) (some ⟨g, 0, none⟩) ws) := hG
      have HL := Lib.hid hl
      clear hgv hT hG hB T3 B3 R3 G3 VO x2 hl HCL HBB
      cases hb : toldB (normF zs (loW zs zs.length) d) zs.length
      · rw [hb] at HG
        have HBF := Lib.hid hb
        clear hb
        go_wp2_with fail
        refine HG.out.mono ?_
        rintro e w5 ⟨_, he5, hb5⟩
        obtain rfl := he5 (by first | rfl | trivial)
        have T5 := Lib.hid (T4.out.below hb5.out)
        have B5 := Lib.hid (B4.out.trans (hb5.out.mono (Nat.le_of_lt T4.out.var.lt)))
        obtain ⟨p0, p1, p2, q0, q1, q2, r0, r1, r2, _⟩ := T5.out.s
        clear he5 hb5 HG o0 o1 o2 T4 B4
        go_wp2_with fail
        refine bodyPost_ret (v := .tuple #[.agg #[.int .i64 0, .int .i64 0, .slice none 0 0], .bool false]) (by simp [results, Try.results37, go_sem, q0, q1, q2]) rfl (tpost_no HBF.out ?_)
        rw [HX.out]
        exact B5.out.trans (store3 (Nat.le_succ X) _ _ _)
      · rw [hb] at HG
        have HBF := Lib.hid hb
        clear hb
        go_wp2_with fail
        refine HG.out.mono ?_
        rintro e w5 ⟨he5, _, hb5⟩
        obtain rfl := he5 (by first | rfl | trivial)
        have T5 := Lib.hid (T4.out.below hb5.out)
        have B5 := Lib.hid (B4.out.trans (hb5.out.mono (Nat.le_of_lt T4.out.var.lt)))
        have R5 := Lib.hid (R4.out.but (ButIn.of hb5.out) (.inr (Nat.zero_le _)))
        obtain ⟨p0, p1, p2, q0, q1, q2, r0, r1, r2, _⟩ := T5.out.s
        have EY := Lib.hid (hT'.out.eq HBF.out)
        clear he5 hb5 HG o0 o1 o2 T4 B4 R4
        go_wp2_with fail
        refine bodyPost_ret (v := .tuple #[.agg #[.int .i64 x, .int .i64 y, .slice (some ⟨g, 0, none⟩) zs.length c'], .bool true]) (by simp [results, Try.results37, go_sem, q0, q1, q2]) rfl (tpost_yes HBF.out (toldY_length _ _) ?_ ?_)
        · have R6 := (R5.out.wide (lo' := X + 2) (hi' := w5.heap.size) (by omega) (by have := R5.out.le; exact this) (Nat.le_refl _))
          rw [EY.out] at R6
          rw [HX.out]
          exact (R6.store3 (Y := X + 1) (Nat.lt_succ_self _) _ _ _).lower (by omega)
        · rw [HX.out]
          exact B5.out.trans (store3 (Nat.le_succ X) _ _ _)

end Go.Proofs.Ytalinjggodmijaa
