/-
  What is proved here: MiddleOf, of the program, as a walk; both contracts. Conditions: at most 1048576 cells.
-/
import Derived.Test.YtgiblioilpedfaaMdi
namespace Go.Proofs.Ytgiblioilpedfaa
open Flt Go.RowKit
set_option linter.unusedVariables false

theorem run_store_cx (P : Program) (w : World) (a : Addr) (m : Mode) (u v : Nat) : (store a (.complex .f32 u v) m).run P w = stored P w a (.complex .f32 u v) m := run_store P w a _ m rfl
attribute [local go_sem] run_store_cx

theorem implMidNo (x y : Int) (A : Option Addr) (n c : Nat) (p : Nat → Bool) (w : World) (hr : RowV w w.heap.size A n (bo p)) (hn : n ≤ 1048576) (h : fvB x y n = false ∨ fulN p n = 0) :
    Calls Try.prog 34 #[.agg #[.int .i64 x, .int .i64 y, .slice A n c]] w (MdPost 0 0 (can .f32 0) false w) := by
  have B0 := below_var w x y A n c 40
  have V0 := varT_new w x y A n c 40
  have HC := Lib.hid (implValid x y A n c (w.alloc (.cells #[.int .i64 x, .int .i64 y, .slice A n c] 40)) hn)
  have HR := Lib.hid (hr.carry B0)
  have HB0 := Lib.hid B0
  have HV := Lib.hid V0
  have c0 := V0.c0
  have c1 := V0.c1
  have c2 := V0.c2
  have hl := V0.lt
  clear hr V0 B0
  cases hv : fvB x y n
  · rw [hv] at HC
    clear hv h
    go_enter Try.func34, Try.ntmps34
    go_wp2_with fail
    refine HC.out.mono ?_
    rintro e w1 ⟨rfl, hb⟩
    have HE := Lib.hid (HB0.out.trans (hb.out.mono HB0.out.size))
    clear HC hb
    go_wp2_with fail
    go_ret3
    exact mdpost_no HE.out
  · have hz : fulN p n = 0 := by
      rcases h with h | h
      · rw [hv] at h; cases h
      · exact h
    obtain ⟨⟨⟨hx1, hx2⟩, hy⟩, hxy, hn1, hn2⟩ := fvB_yes hv
    rw [hv] at HC
    have HZ := Lib.hid hz
    clear hv h hz hxy hy
    go_enter Try.func34, Try.ntmps34
    go_wp2_with fail
    generalize w.alloc (.cells #[.int .i64 x, .int .i64 y, .slice A n c] 40) = wa at *
    refine HC.out.mono ?_
    rintro e w1 ⟨rfl, hb⟩
    have HB1 := Lib.hid (HB0.out.trans (hb.out.mono HB0.out.size))
    have V1 := HV.out.below hb.out
    have c0 := V1.c0
    have c1 := V1.c1
    have c2 := V1.c2
    have hl := V1.lt
    have HF := Lib.hid (implFpl x y A n c p w1 (HR.out.carry hb.out) hn2 hx1 hx2)
    rw [HZ.out] at HF
    clear HC hb HR HV V1
    go_wp2_with fail
    refine HF.out.mono ?_
    rintro e w2 ⟨A', c', G, rfl, _, hb2⟩
    have HE := Lib.hid (HB1.out.trans (hb2.out.mono HB1.out.size))
    clear HF hb2 c0 c1 c2 hl
    go_wp2_with fail
    go_ret3
    exact mdpost_no HE.out

set_option maxHeartbeats 4000000 in
theorem implMidYes (x y : Int) (A : Option Addr) (n c : Nat) (p : Nat → Bool) (w : World) (hr : RowV w w.heap.size A n (bo p)) (hn : n ≤ 1048576) (hv : fvB x y n = true) (h1 : 1 ≤ fulN p n)
    {SA SB TA TB : Nat → Nat} {mx my : Nat} {dx dy q : Int → Nat} (M : MidF x n p SA SB TA TB mx my dx dy q) :
    Calls Try.prog 34 #[.agg #[.int .i64 x, .int .i64 y, .slice A n c]] w (MdPost mx my (rootM (fop .quo .f32 (smO q (fulL p n)) (can .f32 (floatOfInt .f32 ((fulN p n : Nat) : Int))))) true w) := by
  have B0 := below_var w x y A n c 40
  have V0 := varT_new w x y A n c 40
  have HC := Lib.hid (implValid x y A n c (w.alloc (.cells #[.int .i64 x, .int .i64 y, .slice A n c] 40)) hn)
  have HR := Lib.hid (hr.carry B0)
  have HB0 := Lib.hid B0
  have HV := Lib.hid V0
  have HM := Lib.hid M
  have c0 := V0.c0
  have c1 := V0.c1
  have c2 := V0.c2
  have hl := V0.lt
  obtain ⟨⟨⟨hx1, hx2⟩, hy⟩, hxy, hn1, hn2⟩ := fvB_yes hv
  have hle := fulN_le p n
  have hz : (((fulN p n : Nat) : Int) == 0) = false := by rw [beq_eq_false_iff_ne]; omega
  rw [hv] at HC
  clear hr V0 B0 hv hxy hy M
  go_enter Try.func34, Try.ntmps34
  go_wp2_with fail
  generalize w.alloc (.cells #[.int .i64 x, .int .i64 y, .slice A n c] 40) = wa at *
  refine HC.out.mono ?_
  rintro e w1 ⟨rfl, hb⟩
  have HB1 := Lib.hid (HB0.out.trans (hb.out.mono HB0.out.size))
  have V1 := HV.out.below hb.out
  have c0 := V1.c0
  have c1 := V1.c1
  have c2 := V1.c2
  have hl := V1.lt
  have HF := Lib.hid (implFpl x y A n c p w1 (HR.out.carry hb.out) hn2 hx1 hx2)
  clear HC hb HR HV V1
  go_wp2_with fail
  refine HF.out.mono ?_
  rintro e w2 ⟨A', c', G, rfl, hO, hb2⟩
  have HE := Lib.hid (HB1.out.trans (hb2.out.mono HB1.out.size))
  have HMe := Lib.hid (implMean x n p G A' c' w2 hO.out hn2 HM.out)
  clear HF hb2 c0 c1 c2 hl HB1
  go_wp2_with fail
  refine HMe.out.mono ?_
  rintro e w' ⟨rfl, rfl⟩
  have B3 : Below w2.heap.size w2 (w2.alloc (.cells #[.complex .f32 mx my] 51)) := (Below.refl _ _).alloc (Nat.le_refl _) _
  have HB3 := Lib.hid B3
  have hc3 : (w2.alloc (.cells #[.complex .f32 mx my] 51)).cell? ⟨w2.heap.size, 0, none⟩ = some (.complex .f32 mx my) := by simp [World.cell?, World.alloc, -World.alloc_eq]
  have hs3 : w2.heap.size < (w2.alloc (.cells #[.complex .f32 mx my] 51)).heap.size := by simp
  have HSu := Lib.hid (implSumM x n p G A' c' w2.heap.size _ (hO.out.below B3) hn2 hs3 HM.out hc3)
  clear HMe B3 HM
  go_wp2_with fail
  generalize w2.alloc (.cells #[.complex .f32 mx my] 51) = w3 at *
  refine HSu.out.mono ?_
  rintro e w' ⟨g, m, rfl, rfl, hg, hgw⟩
  clear HSu hO
  go_wp2_with fail
  go_region_with (first | (go_at_call 98; refine (implRoot _ _).mono ?_; rintro e w' ⟨g2, m3, rfl, rfl, hg2, hgw2⟩) | ((with_reducible refine upon_bin rfl ?_); intro r n2 wf er))
  all_goals
    go_wp2_with fail
    go_ret3
    exact ⟨g2, rfl, hgw2, by show _ = _; rw [hg2.out, er.out, hg.out]; rfl, belowN (HE.out.trans (HB3.out.mono HE.out.size))⟩

theorem midBoth (x y : Int) (n : Nat) (p : Nat → Bool) (hn : n ≤ 1048576) : ∃ (cx cy : Nat) (g : Option Nat) (b : Bool), (∃ X, floatToFloatBits .f32 cx .f64 = some X) ∧ (∃ Y, floatToFloatBits .f32 cy .f64 = some Y) ∧
    (∀ (W : World) (A : Option Addr) (c : Nat), RowV W W.heap.size A n (bo p) → Calls Try.prog 33 #[.agg #[.int .i64 x, .int .i64 y, .slice A n c]] W (MdPost cx cy g b W)) ∧
    (∀ (W : World) (A : Option Addr) (c : Nat), RowV W W.heap.size A n (bo p) → Calls Try.prog 34 #[.agg #[.int .i64 x, .int .i64 y, .slice A n c]] W (MdPost cx cy g b W)) := by
  by_cases h : fvB x y n = true ∧ 1 ≤ fulN p n
  · obtain ⟨hv, h1⟩ := h
    obtain ⟨SA, SB, TA, TB, mx, my, dx, dy, q, M⟩ := mid_is x y n p hv h1
    exact ⟨mx, my, _, true, M.wd.1, M.wd.2, fun W A c hr => specMidYes x y A n c p W hr hn hv h1 M, fun W A c hr => implMidYes x y A n c p W hr hn hv h1 M⟩
  · have h2 : fvB x y n = false ∨ fulN p n = 0 := by
      cases hv : fvB x y n with
      | false => exact .inl rfl
      | true => right; rw [hv] at h; have : ¬ 1 ≤ fulN p n := fun h1 => h ⟨rfl, h1⟩; omega
    exact ⟨0, 0, can .f32 0, false, ⟨0, by decide⟩, ⟨0, by decide⟩, fun W A c hr => specMidNo x y A n c p W hr hn h2, fun W A c hr => implMidNo x y A n c p W hr hn h2⟩

end Go.Proofs.Ytgiblioilpedfaa
