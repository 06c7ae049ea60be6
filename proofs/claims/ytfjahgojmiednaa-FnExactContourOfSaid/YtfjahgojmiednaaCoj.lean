/-
  What is proved here: CoastOf, of both packages, as walks. Conditions: at most 1048576 heights.
-/
import Derived.Test.YtfjahgojmiednaaCod
import Derived.Test.YtfjahgojmiednaaCos
namespace Go.Proofs.Ytfjahgojmiednaa
open Flt Go.RowKit
set_option linter.unusedVariables false

theorem GroP.cap {w : World} {G W c g : Nat} {zs : List Nat} {L : List (Nat × Nat × Bool)} (h : GroP w G W zs L (some ⟨g, 0, none⟩) c) : L.length ≤ c := by
  rcases h.2 with ⟨h1, _⟩ | ⟨g1, cap, cur, h0, _, _, h3, _⟩
  · cases h1
  · injection h0 with _ _ e3
    omega
theorem PRow.row {w : World} {lo g W : Nat} {zs : List Nat} {L : List (Nat × Nat × Bool)} (h : PRow w lo g L.length W zs (atP L)) : RowP w w.heap.size W zs L (some ⟨g, 0, none⟩) := fun _ =>
  ⟨g, rfl, h.lt, fun m r hm hr => by rw [h.cell m r hm hr, pcL_at W zs L m r hm hr, atP_is hm]⟩
theorem idxNil (Z c : Nat) (w : World) : Calls Try.prog 100 #[.slice none 0 c, .func (.func 83) #[] #[.pointer (some ⟨Z, 0, none⟩)]] w fun e w' => e = .returned (.int .i64 (-1)) ∧ w = w' := by
  go_enter Try.func100, Try.ntmps100
  go_wp2
  go_loopw [8] (fun i wr => i = .int .i64 0 ∧ w = wr) (fun _ _ => 0)
  case atStart => exact ⟨rfl, rfl⟩
  case round =>
    obtain ⟨rfl, rfl⟩ := hrel
    go_wp2
    go_ret
    exact ⟨rfl, rfl⟩
theorem delNil (Z c : Nat) (w : World) : Calls Try.prog 82 #[.slice none 0 c, .func (.func 83) #[] #[.pointer (some ⟨Z, 0, none⟩)]] w fun e w' => e = .returned (.slice none 0 c) ∧ w = w' := by
  go_enter Try.func82, Try.ntmps82
  go_wp2_with (go_at_call 100; refine (idxNil Z c _).mono ?_; rintro e wq ⟨rfl, rfl⟩)
  go_ret
  exact ⟨rfl, rfl⟩

def coX (x y : Int) (zs : List Nat) (lv : Nat) : List (Nat × Nat × Bool) := if coO x y zs lv = true then coM x y zs lv else []
theorem coX_len (x y : Int) (zs : List Nat) (lv : Nat) : (coX x y zs lv).length = coN x y zs lv := by
  unfold coX coN
  split <;> rfl
def CoPost (x y : Int) (zs : List Nat) (lv : Nat) (w : World) (e : Ending) (w' : World) : Prop := ∃ A' c', e = .returned (.tuple #[.slice A' (coX x y zs lv).length c', .bool (coO x y zs lv)]) ∧ Hid (RowP w' w'.heap.size x.toNat zs (coX x y zs lv) A') ∧ Hid (Below w.heap.size w w')
theorem copost_no {x y : Int} {zs : List Nat} {lv : Nat} {w w' : World} (h : coO x y zs lv = false) (hb : Below w.heap.size w w') : CoPost x y zs lv w (.returned (.tuple #[.slice none 0 0, .bool false])) w' := by
  unfold CoPost coX
  rw [h, if_neg (by decide)]
  exact ⟨none, 0, rfl, fun h0 => absurd h0 (by simp), hb⟩

theorem levV_new (w : World) (lv : Nat) (u : TypeId) : LevV (w.alloc (.cells #[.float .f32 lv] u)) w.heap.size lv := by
  refine ⟨by simp, ?_⟩
  simp [World.cell?, World.alloc, -World.alloc_eq]
/-- a copy of a sheet and one of a level -/
theorem two_lev (w : World) (x y : Int) (A : Option Addr) (n c lv : Nat) (t u : TypeId) :
    Below w.heap.size w ((w.alloc (.cells #[.int .i64 x, .int .i64 y, .slice A n c] t)).alloc (.cells #[.float .f32 lv] u)) ∧ VarT ((w.alloc (.cells #[.int .i64 x, .int .i64 y, .slice A n c] t)).alloc (.cells #[.float .f32 lv] u)) w.heap.size x y A n c ∧ LevV ((w.alloc (.cells #[.int .i64 x, .int .i64 y, .slice A n c] t)).alloc (.cells #[.float .f32 lv] u)) (w.heap.size + 1) lv := by
  refine ⟨((Below.refl _ _).alloc (Nat.le_refl _) _).alloc (by simp) _, (varT_new w x y A n c t).below (World.below_one _ _), ?_⟩
  have e : (w.alloc (.cells #[.int .i64 x, .int .i64 y, .slice A n c] t)).heap.size = w.heap.size + 1 := by simp
  have h := levV_new (w.alloc (.cells #[.int .i64 x, .int .i64 y, .slice A n c] t)) lv u
  rwa [e] at h

set_option maxHeartbeats 4000000 in
theorem implCo (x y : Int) (lv : Nat) (A : Option Addr) (c : Nat) (zs : List Nat) (w : World) (hr : RowF w w.heap.size A zs) (hn : zs.length ≤ 1048576) :
    Calls Try.prog 49 #[.agg #[.int .i64 x, .int .i64 y, .slice A zs.length c], .float .f32 lv] w (CoPost x y zs lv w) := by
  obtain ⟨B0, V0, L0⟩ := two_lev w x y A zs.length c lv 29 26
  have HV := Lib.hid V0
  have HL := Lib.hid L0
  have HC := Lib.hid (implValid x y A c zs _ (hr.carry B0) hn)
  have HB := Lib.hid B0
  have HR := Lib.hid (hr.carry B0)
  have l0 := L0.cell
  clear hr B0 L0
  obtain ⟨v1, v2, v3, v4⟩ := V0
  cases h : shB x y zs
  · have N : Hid (coO x y zs lv = false) := by show _ = _; unfold coO; rw [h]; rfl
    have H1 := Lib.hid h
    clear h
    go_enter Try.func49, Try.ntmps49
    go_wp2_with fail
    refine HC.out.mono ?_
    rintro e w1 ⟨rfl, hb⟩
    rw [H1.out]
    have HE : Hid (Below w.heap.size w w1) := HB.out.trans (hb.out.mono HB.out.size)
    clear HC hb
    go_wp2_with fail
    go_ret2
    exact copost_no N.out HE.out
  · have H1 := Lib.hid h
    cases h2 : finB .f32 lv
    · have N : Hid (coO x y zs lv = false) := by show _ = _; unfold coO; rw [h, h2]; rfl
      have H2 := Lib.hid h2
      clear h h2
      go_enter Try.func49, Try.ntmps49
      go_wp2_with fail
      refine HC.out.mono ?_
      rintro e w1 ⟨rfl, hb⟩
      rw [H1.out]
      have HE : Hid (Below w.heap.size w w1) := HB.out.trans (hb.out.mono HB.out.size)
      have l1 := (HL.out.below hb.out).cell
      clear HC hb
      go_wp2_with (go_at_call 73; refine (implFin _ _).mono ?_; rintro e w' ⟨rfl, n2, rfl⟩; rw [H2.out])
      go_ret2
      exact copost_no N.out (belowN HE.out)
    · have N : Hid (coO x y zs lv = true) := by show _ = _; unfold coO; rw [h, h2]; rfl
      have H2 := Lib.hid h2
      clear h h2
      go_enter Try.func49, Try.ntmps49
      go_wp2_with fail
      refine HC.out.mono ?_
      rintro e w1 ⟨rfl, hb⟩
      rw [H1.out]
      have HE : Hid (Below w.heap.size w w1) := HB.out.trans (hb.out.mono HB.out.size)
      have LV := Lib.hid (HL.out.below hb.out)
      have V1 := HV.out.below hb.out
      have l1 := LV.out.cell
      have c0 := V1.c0
      have c1 := V1.c1
      have c2 := V1.c2
      have hlt := V1.lt
      have HS := Lib.hid (fun (n : Nat) => pairs_own x y 1 A c zs (w1.drewN n) ((HR.out.carry hb.out).carry (belowN (n := n) (Below.refl _ _))) H1.out (by decide))
      clear HC hb HV HR V1 v1 v2 v3 v4 l0
      go_wp2_with (go_at_call 73; refine (implFin _ _).mono ?_; rintro e w' ⟨rfl, n2, rfl⟩; rw [H2.out])
      refine (HS.out n2).mono ?_
      rintro e w2 ⟨A2, c2', rfl, hO, hb2⟩
      have L2 := Lib.hid ((LV.out.below (belowN (n := n2) (Below.refl _ _))).low hb2.out (by show w.heap.size + 1 < w1.heap.size; exact LV.out.lt))
      have HF : Hid (Below w.heap.size w w2) := (belowN (n := n2) HE.out).trans (hb2.out.mono HE.out.size)
      have hs1 : w.heap.size + 1 < w1.heap.size := LV.out.lt
      have hM1 : (pVer x.toNat y.toNat (1 : Int).toNat zs.length zs.length).length ≤ 1048576 := by
        have := pVer_len x.toNat y.toNat (1 : Int).toNat zs.length zs.length
        obtain ⟨_, _, e1, e2⟩ := shB_xy3 H1.out
        omega
      have EX : Hid (coX x y zs lv = (pVer x.toNat y.toNat (1 : Int).toNat zs.length zs.length).filter (cpB zs lv)) := by show _ = _; unfold coX; rw [N.out, if_pos rfl]; rfl
      have hsz : (w1.drewN n2).heap.size = w1.heap.size := rfl
      rw [hsz] at hO
      generalize pVer x.toNat y.toNat (1 : Int).toNat zs.length zs.length = M at *
      clear HS hb2 HE LV l1 c0 c1 c2 hlt hsz
      rcases hO.out.cases with ⟨rfl, rfl, rfl⟩ | ⟨g, rfl⟩
      · clear hO
        go_wp2_with (go_at_call 82; refine (delNil _ _ _).mono ?_; rintro e w3 ⟨rfl, rfl⟩)
        go_ret2
        unfold CoPost
        rw [EX.out, N.out]
        exact ⟨none, 0, rfl, fun h0 => absurd h0 (by simp), HF⟩
      · have HD := Lib.hid (delP (w.heap.size + 1) lv w1.heap.size g c2' x.toNat zs M w2 L2.out hs1 (by have := (hO.out.lt _ rfl); exact Nat.le_of_lt (Nat.lt_of_le_of_lt this.1 this.2)) hO.out.prow hM1 hO.out.cap)
        clear hO
        go_wp2_with (go_at_call 82; refine HD.out.mono ?_; rintro e w3 ⟨c3, rfl, hP, hb3⟩)
        go_ret2
        unfold CoPost
        rw [EX.out, N.out]
        exact ⟨_, c3, rfl, hP.out.row, HF.out.trans (hb3.out.mono (by omega))⟩

theorem implCoast (x y : Int) (lv : Nat) (A : Option Addr) (c : Nat) (zs : List Nat) (w : World) (hr : RowF w w.heap.size A zs) (hn : zs.length ≤ 1048576) :
    Calls Try.prog 18 #[.agg #[.int .i64 x, .int .i64 y, .slice A zs.length c], .float .f32 lv] w fun e w' => e = .returned (.tuple #[.int .i64 (coN x y zs lv : Nat), .bool (coO x y zs lv)]) ∧ Hid (Below w.heap.size w w') := by
  have B0 : Below w.heap.size w (w.alloc (.cells #[.int .i64 x, .int .i64 y, .slice A zs.length c] 29)) := (Below.refl _ _).alloc (Nat.le_refl _) _
  have HC := Lib.hid (implCo x y lv A c zs _ (hr.carry B0) hn)
  have HB := Lib.hid B0
  clear hr B0
  go_enter Try.func18, Try.ntmps18
  go_wp2_with fail
  refine HC.out.mono ?_
  rintro e w1 ⟨A1, c1, rfl, _, hb⟩
  rw [coX_len]
  have HE : Hid (Below w.heap.size w w1) := HB.out.trans (hb.out.mono HB.out.size)
  clear HC hb
  go_wp2
  go_ret2
  exact ⟨rfl, HE⟩

set_option maxHeartbeats 800000 in
theorem specCoast (x y : Int) (lv : Nat) (A : Option Addr) (c : Nat) (zs : List Nat) (w : World) (hr : RowF w w.heap.size A zs) (hn : zs.length ≤ 1048576) :
    Calls Try.prog 17 #[.agg #[.int .i64 x, .int .i64 y, .slice A zs.length c], .float .f32 lv] w fun e w' => e = .returned (.tuple #[.int .i64 (coN x y zs lv : Nat), .bool (coO x y zs lv)]) ∧ Hid (Below w.heap.size w w') := by
  have B0 : Below w.heap.size w (w.alloc (.cells #[.int .i64 x, .int .i64 y, .slice A zs.length c] 29)) := (Below.refl _ _).alloc (Nat.le_refl _) _
  have HV := Lib.hid (varT_new w x y A zs.length c 29)
  have HC := Lib.hid (specIs w.heap.size x y A c zs _ HV.out (hr.carry B0) hn)
  have HB := Lib.hid B0
  have HR := Lib.hid (hr.carry B0)
  clear hr B0
  cases h : shB x y zs
  · have N : Hid (coO x y zs lv = false) := by show _ = _; unfold coO; rw [h]; rfl
    have N1 := Lib.hid (ct_no N.out).1
    have H1 := Lib.hid h
    clear h
    go_enter Try.func17, Try.ntmps17
    go_wp2_with fail
    refine HC.out.mono ?_
    rintro e w' ⟨rfl, n, rfl⟩
    rw [H1.out]
    clear HC
    go_wp2_with fail
    go_ret2
    exact ⟨by rw [N.out, N1.out]; rfl, belowN HB.out⟩
  · have H1 := Lib.hid h
    cases h2 : finB .f32 lv
    · have N : Hid (coO x y zs lv = false) := by show _ = _; unfold coO; rw [h, h2]; rfl
      have N1 := Lib.hid (ct_no N.out).1
      have H2 := Lib.hid h2
      clear h h2
      go_enter Try.func17, Try.ntmps17
      go_wp2_with fail
      refine HC.out.mono ?_
      rintro e w' ⟨rfl, n, rfl⟩
      rw [H1.out]
      clear HC
      go_wp2_with (go_at_call 47; refine (specFin _ _).mono ?_; rintro e w' ⟨rfl, n2, rfl⟩; rw [H2.out])
      go_ret2
      exact ⟨by rw [N.out, N1.out]; rfl, belowN HB.out⟩
    · have N : Hid (coO x y zs lv = true) := by show _ = _; unfold coO; rw [h, h2]; rfl
      have N1 : Hid (coN x y zs lv = (coM x y zs lv).length) := by show _ = _; unfold coN; rw [N.out, if_pos rfl]
      have H2 := Lib.hid h2
      clear h h2
      go_enter Try.func17, Try.ntmps17
      go_wp2_with fail
      refine HC.out.mono ?_
      rintro e w' ⟨rfl, n, rfl⟩
      rw [H1.out]
      have HQ := Lib.hid (fun (k : Nat) => specCon w.heap.size x y lv A c zs _ (HV.out.below (belowN (n := k) (Below.refl _ _))) (HR.out.carry (belowN (n := k) (Below.refl _ _))) H1.out H2.out)
      clear HC
      go_wp2_with (go_at_call 47; refine (specFin _ _).mono ?_; rintro e w' ⟨rfl, n2, rfl⟩; rw [H2.out])
      refine (HQ.out _).mono ?_
      rintro e w' ⟨A3, c3, L3, rfl, hT, _, hb3⟩
      have HE := Lib.hid ((belowN (n := n + n2) HB.out).trans (hb3.out.mono HB.out.size))
      have hl := hT.out.len
      rw [hl]
      clear HQ hb3
      go_wp2
      go_ret2
      exact ⟨by rw [N.out, N1.out]; rfl, HE⟩

end Go.Proofs.Ytfjahgojmiednaa
