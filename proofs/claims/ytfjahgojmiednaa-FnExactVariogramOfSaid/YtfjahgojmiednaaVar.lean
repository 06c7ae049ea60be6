/-
  What is proved here: VariogramOf, of the program, as a walk. Conditions: at most 1048576 heights.
-/
import Derived.Test.YtfjahgojmiednaaVas
import Derived.Test.YtfjahgojmiednaaVai
import Derived.Test.YtfjahgojmiednaaPof
namespace Go.Proofs.Ytfjahgojmiednaa
open Flt Go.RowKit
set_option linter.unusedVariables false

theorem var_len (x y lg : Int) (zs : List Nat) : (pVer x.toNat y.toNat lg.toNat zs.length zs.length).length = varN x y lg zs := by
  unfold pVer pHor varN
  rw [List.length_append, List.length_map, List.length_map]
theorem var_sum (x y lg : Int) (zs : List Nat) : sqS zs (can .f32 0) ((pVer x.toNat y.toNat lg.toNat zs.length zs.length).map fun p => (p.1, p.2.1)) = varS x y lg zs := by
  unfold pVer pHor varS
  rw [List.map_append, List.map_map, List.map_map, sqS_app]
  congr 1
  · congr 1
    exact List.map_id' _
  · exact List.map_id' _

set_option maxHeartbeats 2000000 in
theorem implVar (x y lg : Int) (A : Option Addr) (c : Nat) (zs : List Nat) (w : World) (hr : RowF w w.heap.size A zs) (hn : zs.length ≤ 1048576) :
    Calls Try.prog 12 #[.agg #[.int .i64 x, .int .i64 y, .slice A zs.length c], .int .i64 lg] w (MPost (varC x y zs lg) (varB x y zs lg) w) := by
  have B0 : Below w.heap.size w (w.alloc (.cells #[.int .i64 x, .int .i64 y, .slice A zs.length c] 29)) := (Below.refl _ _).alloc (Nat.le_refl _) _
  have HV := Lib.hid (varT_new w x y A zs.length c 29)
  have HC := Lib.hid (implValid x y A c zs _ (hr.carry B0) hn)
  have HB := Lib.hid B0
  have HR := Lib.hid (hr.carry B0)
  clear hr B0
  cases h : shB x y zs
  · have N := Lib.hid (var_no (x := x) (y := y) (zs := zs) (lg := lg) (by rw [h]; rfl))
    have H1 := Lib.hid h
    clear h
    go_enter Try.func12, Try.ntmps12
    go_wp2_with fail
    refine HC.out.mono ?_
    rintro e w1 ⟨rfl, hb⟩
    rw [H1.out]
    have HE : Hid (Below w.heap.size w w1) := HB.out.trans (hb.out.mono HB.out.size)
    clear HC hb
    go_wp2_with fail
    go_ret2
    exact mpost_no N.out.1 N.out.2 HE.out
  · have H1 := Lib.hid h
    cases h2 : inB lg 1 17
    · have N := Lib.hid (var_no (x := x) (y := y) (zs := zs) (lg := lg) (by rw [h, h2]; rfl))
      have H2 := Lib.hid h2
      clear h h2
      go_enter Try.func12, Try.ntmps12
      go_wp2_with fail
      refine HC.out.mono ?_
      rintro e w1 ⟨rfl, hb⟩
      rw [H1.out]
      have HE : Hid (Below w.heap.size w w1) := HB.out.trans (hb.out.mono HB.out.size)
      clear HC hb
      go_wp2_with (go_at_call 38; refine (within_any _ _ _ _).mono ?_; rintro e w' ⟨rfl, rfl⟩; rw [H2.out])
      go_ret2
      exact mpost_no N.out.1 N.out.2 HE.out
    · have H2 := Lib.hid h2
      clear h h2
      go_enter Try.func12, Try.ntmps12
      go_wp2_with fail
      refine HC.out.mono ?_
      rintro e w1 ⟨rfl, hb⟩
      rw [H1.out]
      have HE : Hid (Below w.heap.size w w1) := HB.out.trans (hb.out.mono HB.out.size)
      have V1 := HV.out.below hb.out
      have c0 := V1.c0
      have c1 := V1.c1
      have c2 := V1.c2
      have hlt := V1.lt
      have HS := Lib.hid (pairs_of x y lg A c zs w1 (HR.out.carry hb.out) H1.out H2.out)
      clear HC hb HV HR V1
      go_wp2_with (go_at_call 38; refine (within_any _ _ _ _).mono ?_; rintro e w' ⟨rfl, rfl⟩; rw [H2.out])
      refine HS.out.mono ?_
      rintro e w2 ⟨A2, c2', rfl, hP, hb2⟩
      have HF : Hid (Below w.heap.size w w2) := HE.out.trans (hb2.out.mono HE.out.size)
      have hsz : varN x y lg zs ≤ 1048576 := by
        rw [← var_len]
        have := pVer_len x.toNat y.toNat lg.toNat zs.length zs.length
        obtain ⟨_, _, e1, e2⟩ := shB_xy3 H1.out
        omega
      have HQ := Lib.hid (sum_pairs w2.heap.size x.toNat A2 c2' zs _ w2 hP.out (Nat.le_refl _) (by rw [var_len]; exact hsz))
      rw [var_len, var_sum] at HQ
      rw [var_len]
      have EY : Hid (varY x y lg zs = !(varN x y lg zs == 0)) := Lib.hid rfl
      have EQ : Hid (varQ x y lg zs = fop .quo .f32 (fop .quo .f32 (varS x y lg zs) (can .f32 (fI (varN x y lg zs)))) (can .f32 1073741824)) := Lib.hid rfl
      clear HS hb2 hP c0 c1 c2 hlt HE
      generalize varN x y lg zs = M at *
      by_cases h0 : M = 0
      · have N := Lib.hid (var_no (x := x) (y := y) (zs := zs) (lg := lg) (by rw [H1.out, H2.out, EY.out, h0]; rfl))
        go_wp2_with fail
        go_ret2
        exact mpost_no N.out.1 N.out.2 HF.out
      · have N := Lib.hid (var_yes (x := x) (y := y) (zs := zs) (lg := lg) (by rw [H1.out, H2.out, EY.out]; simp [h0]))
        go_wp2_with fail
        refine HQ.out.mono ?_
        rintro e w3 ⟨g, rfl, hg, hgw, hb3⟩
        have HG : Hid (Below w.heap.size w w3) := HF.out.trans (hb3.out.mono HF.out.size)
        clear HQ HF hb3
        go_wp2_with ((with_reducible refine upon_bin rfl ?_); intro _ _ _ _)
        rename_i r1 m1 w1 er1 r2 m2 w2 er2 KK hKK
        have HH : can .f32 r2 = varQ x y lg zs := by rw [er2.out, EQ.out, er1.out, hg.out]; rfl
        refine (implNumber r2 _ HH w2 _).mono ?_
        rintro e w' ⟨g3, n3, rfl, rfl, hg3, hgw3⟩
        clear HH
        go_wp2_with fail
        go_ret2
        rw [N.out.1, N.out.2]
        exact ⟨g3, rfl, hg3, hgw3, belowN HG.out⟩

end Go.Proofs.Ytfjahgojmiednaa
