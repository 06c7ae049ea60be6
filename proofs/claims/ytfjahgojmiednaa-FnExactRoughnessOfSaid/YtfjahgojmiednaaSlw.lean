/-
  What is proved here: SlopeOf, of both packages, as walks. Conditions: at most 1048576 numbers.
-/
import Derived.Test.YtfjahgojmiednaaSlo
namespace Go.Proofs.Ytfjahgojmiednaa
open Flt Go.RowKit
set_option linter.unusedVariables false

theorem sumT_at {f : Nat → Option Nat} {k : Nat} : sumT f (k + 1) = fop .add .f32 (sumT f k) (f k) := rfl
theorem sloIn_yes {xs ys : List Nat} (h : sloIn xs ys = true) : lisB xs = true ∧ lisB ys = true ∧ xs.length = ys.length ∧ 2 ≤ xs.length ∧ xs.length ≤ 256 := by
  unfold sloIn at h
  simp only [Bool.and_eq_true] at h
  obtain ⟨h1, h2, h3, h4⟩ := h
  exact ⟨h1, h2, eq_of_beq h3, of_decide_eq_true h4, (lisB_yes h1).1⟩

/-- what is told of a slope -/
def SlPost (xs ys : List Nat) (w : World) (e : Ending) (w' : World) : Prop :=
  ∃ f g b n, e = .returned (.tuple #[.float .f32 f, .float .f32 g, .bool b]) ∧ w' = w.drewN n ∧ Hid (can .f32 f = sloS xs ys) ∧ Hid (can .f32 g = sloB xs ys) ∧ Hid (b = sloOk xs ys) ∧ WF .f32 f ∧ WF .f32 g


set_option maxHeartbeats 4000000 in
theorem implSlt (A B : Option Addr) (c d : Nat) (xs ys : List Nat) (w : World) (Z : Nat) (hr : RowF w Z A xs) (hq : RowF w Z B ys) (hl : xs.length = ys.length) (h5 : xs.length ≤ 256) :
    Calls Try.prog 81 #[.slice A xs.length c, .slice B ys.length d] w (FPost .f32 (sloS xs ys) w) := by
  have HX := Lib.hid (fun n => implSumN A c xs (w.drewN n) Z hr.drewN (by omega))
  have HX0 := Lib.hid (implSumN A c xs w Z hr (by omega))
  have HY := Lib.hid (fun n => implSumN B d ys (w.drewN n) Z hq.drewN (by omega))
  have HXX := Lib.hid (fun n => implDotN A A c c xs xs (w.drewN n) Z hr.drewN hr.drewN (by omega))
  have HXY := Lib.hid (fun n => implDotN A B c d xs ys (w.drewN n) Z hr.drewN hq.drewN (by omega))
  have fx : Fit xs xs := ⟨h5, rfl⟩
  have fy : Fit xs ys := ⟨h5, hl⟩
  have ly : ys.length ≤ 256 := by omega
  simp only [if_pos h5, decide_eq_true h5] at HX HX0
  simp only [if_pos ly, decide_eq_true ly] at HY
  simp only [if_pos fx, decide_eq_true fx] at HXX
  simp only [if_pos fy, decide_eq_true fy] at HXY
  have ex : Hid (sumF xs = sumT (selfF xs) xs.length) := sumF_self xs
  have ey : Hid (sumF ys = sumT (selfF ys) xs.length) := by show _ = _; rw [hl]; exact sumF_self ys
  have exx : Hid (dotF xs xs xs.length = sumT (mulF xs xs) xs.length) := dotF_tl (Tl.self xs) (Tl.self xs) _ (Nat.le_refl _)
  have exy : Hid (dotF xs ys xs.length = sumT (mulF xs ys) xs.length) := dotF_tl (Tl.self xs) (by have := Tl.self ys; rwa [← hl] at this) _ (Nat.le_refl _)
  clear hr hq hl fx fy ly
  go_enter Try.func81, Try.ntmps81
  go_wp2_with (first | ((with_reducible refine upon_bin rfl ?_); intro _ _ _ _) | (go_at_call 98; (first | (with_reducible refine HX0.out.mono ?_) | (with_reducible refine (HX.out _).mono ?_) | (with_reducible refine (HY.out _).mono ?_)); rintro e w' ⟨g, n, rfl, rfl, hc⟩) | (go_at_call 99; (first | (with_reducible refine (HXX.out _).mono ?_) | (with_reducible refine (HXY.out _).mono ?_)); rintro e w' ⟨g, n, rfl, rfl, hc⟩))
  rename_i g1 n1 c1 g2 n2 c2 g3 n3 c3 r1 m1 w1 e1 r2 m2 w2 e2 r3 m3 w3 e3 r4 m4 w4 e4 r5 m5 w5 e5 r6 m6 w6 e6 r7 m7 w7 e7
  go_ret
  exact fpost (by rw [e7.out, e6.out, e5.out, e4.out, e3.out, e2.out, e1.out, hc.out, c1.out, c2.out, c3.out, ex.out, ey.out, exx.out, exy.out]; rfl) w7


/-- the lists do not go together: neither package gives a slope -/
def NoPost (w : World) (e : Ending) (w' : World) : Prop := ∃ n, e = .returned (.tuple #[.float .f32 0, .float .f32 0, .bool false]) ∧ w' = w.drewN n


/-- what SlopeOf gives -/
def SLP (cs cb : Option Nat) (b : Bool) (w : World) (e : Ending) (w' : World) : Prop := ∃ f g, e = .returned (.tuple #[.float .f32 f, .float .f32 g, .bool b]) ∧ Hid (can .f32 f = cs) ∧ Hid (can .f32 g = cb) ∧ Hid (Below w.heap.size w w')
def orNo (b : Bool) (c : Option Nat) : Option Nat := if b = true then c else some 0
def sloAll (xs ys : List Nat) : Bool := sloIn xs ys && sloOk xs ys


end Go.Proofs.Ytfjahgojmiednaa
