/-
  What is proved here: ReadMap of both packages, as walks. Conditions: the text has at most 1048576 bytes; the library's variables hold what it lays.
-/
import Derived.Test.YtegbclfjcckglaaDoorPnt
import Derived.Test.YtegbclfjcckglaaDoorCuc
import Derived.Test.YtegbclfjcckglaaDoorShelfF
import Derived.Test.YtegbclfjcckglaaDoorLiC
namespace Go.Proofs.YtegbclfjcckglaaDoor
open Flt Go.RowKit
attribute [local go_sem] run_store_complex

def rdM (x y : ByteArray) : Bool := rdB x && (ptB y && mapB (rdN x) (ptN y).1 (ptN y).2)
def rmO (x y : ByteArray) : Int × (Nat × Nat) := if rdM x y = true then (rdN x, ptN y) else (0, (0, 0))
def rmB (s : ByteArray) : Bool := match cutBd 58 s with | [x, y] => rdM x y | _ => false
def rmV (s : ByteArray) : Int × (Nat × Nat) := match cutBd 58 s with | [x, y] => rmO x y | _ => (0, (0, 0))

def RMP (b : Bool) (v : Int × (Nat × Nat)) (w : World) (e : Ending) (w' : World) : Prop :=
  e = .returned (.tuple #[.agg #[.int .i64 v.1, .complex .f32 v.2.1 v.2.2], .bool b]) ∧ Hid (Below w.heap.size w w')

theorem rmO_no {x y : ByteArray} (h : rdM x y = false) : rmO x y = (0, (0, 0)) := by unfold rmO; rw [h]; rfl
theorem rmO_yes {x y : ByteArray} (h : rdM x y = true) : rmO x y = (rdN x, ptN y) := if_pos h

theorem pt_colon {y : ByteArray} (h : (58 : UInt8) ∈ y.data.toList) : ptB y = false := by
  cases hp : ptB y
  · rfl
  · exact absurd (by decide : valH 58 = none) (pt_hex hp 58 h)
theorem pt_empty : ptB ⟨#[]⟩ = false := by
  unfold ptB oneB
  have h : clB ⟨#[]⟩ = false := by
    unfold clB
    rw [if_neg (by decide)]
    rw [show rdOkC (cutB ⟨#[]⟩) = false from rfl, Bool.and_false]
  rw [h]; rfl

/-- the text of a map is two parts, or none that can be read behind the first colon -/
theorem rm_cases (s : ByteArray) :
    (¬ (cutBd 58 s).length = 2 ∧ rmB s = false ∧ rmV s = (0, (0, 0)) ∧ ∃ x y : ByteArray, Lib.cut s.data.toList [58] = (x.data.toList, y.data.toList, (Lib.cut s.data.toList [58]).2.2) ∧ x.size ≤ s.size ∧ y.size ≤ s.size ∧ rdM x y = false) ∨
    ∃ x y : ByteArray, cutBd 58 s = [x, y] ∧ Lib.cut s.data.toList [58] = (x.data.toList, y.data.toList, (Lib.cut s.data.toList [58]).2.2) ∧ x.size ≤ s.size ∧ y.size ≤ s.size ∧ rmB s = rdM x y ∧ rmV s = rmO x y := by
  rcases cut_cases 58 s with ⟨_, h2, h3⟩ | ⟨x, y, h1, _, h3, h4⟩
  · left
    refine ⟨by rw [h2]; simp, by unfold rmB; rw [h2], by unfold rmV; rw [h2], s, ⟨#[]⟩, by rw [h3], Nat.le_refl _, Nat.zero_le _, ?_⟩
    unfold rdM
    rw [pt_empty, Bool.false_and, Bool.and_false]
  · have hz := size_of_split h1
    rcases cut_cases 58 y with ⟨_, g2, _⟩ | ⟨x2, y2, g1, _, g3, _⟩
    · right
      rw [g2] at h3
      exact ⟨x, y, h3, by rw [h4], by omega, by omega, by unfold rmB; rw [h3], by unfold rmV; rw [h3]⟩
    · left
      obtain ⟨p, ps, hp⟩ := cutBd_cons 58 y2
      have hc : cutBd 58 s = x :: x2 :: p :: ps := by rw [h3, g3, hp]
      refine ⟨by rw [hc]; simp, by unfold rmB; rw [hc], by unfold rmV; rw [hc], x, y, by rw [h4], by omega, by omega, ?_⟩
      unfold rdM
      rw [pt_colon (by rw [g1]; simp), Bool.false_and, Bool.and_false]

theorem setCell_sizeQ (w : World) (q : Addr) (u : Value) : (w.setCell q u).heap.size = w.heap.size := by simp [World.setCell]

theorem rmp_of {b b2 : Bool} {v v2 : Int × (Nat × Nat)} {w : World} {e : Ending} {w' : World} (h : RMP b v w e w') (hb : b = b2) (hv : v = v2) : RMP b2 v2 w e w' := by subst hb hv; exact h

set_option maxHeartbeats 2000000 in
theorem specRMno (s : ByteArray) (hs : s.size ≤ 1048576) (hl : ¬ (cutBd 58 s).length = 2) (w : World) : Calls Tryd.prog 51 #[.string s] w (RMP false (0, (0, 0)) w) := by
  have HC : Hid (∀ W, Calls Tryd.prog 95 #[.string s, .int .u8 58] W fun e w' => ∃ g c, e = .returned (.slice (some ⟨g, 0, none⟩) (cutBd 58 s).length c) ∧ Hid (Below W.heap.size W w')) := fun W => (specCutD 58 58 rfl s hs W).mono fun e w' ⟨g, c, h1, _, h2⟩ => ⟨g, c, h1, h2⟩
  have e0 : (((cutBd 58 s).length : Int) != 2) = true := by simp; omega
  have e1 : (((cutBd 58 s).length : Int) == 2) = false := by simp; omega
  clear hl
  generalize (cutBd 58 s).length = n at *
  go_enter Tryd.func51, Tryd.ntmps51
  go_wp2_with fail
  refine (HC.out _).mono ?_
  rintro e w1 ⟨g, c, rfl, B1⟩
  have hx : w.heap.size < w1.heap.size := by have := B1.out.size; simp at this; omega
  have hc := fun o => (varq B1.out o).1
  have hf := fun o => (varq B1.out o).2
  have c0 := (hc 0).trans rfl; have c1 := (hc 1).trans rfl
  have HB : Hid (Below w.heap.size w w1) := ((Below.refl _ _).alloc (Nat.le_refl _) _).trans (B1.out.mono (by simp))
  clear B1 hc
  go_wp2_with fail
  refine bodyPost_ret (v := .tuple #[.agg #[.int .i64 0, .complex .f32 0 0], .bool false]) (by simp [results, Tryd.results51, go_sem, c0, c1]) rfl ⟨rfl, ?_⟩
  iterate 2 (refine Below.setCell ?_ (by exact Nat.le_refl _) _)
  exact HB.out

set_option maxHeartbeats 4000000 in
theorem specRMtwo (s x y : ByteArray) (hs : s.size ≤ 1048576) (hl : cutBd 58 s = [x, y]) (hx : x.size ≤ s.size) (hy : y.size ≤ s.size) (w : World) : Calls Tryd.prog 51 #[.string s] w (RMP (rdM x y) (rmO x y) w) := by
  have HC : Hid (∀ W, Calls Tryd.prog 95 #[.string s, .int .u8 58] W fun e w' => ∃ g c, e = .returned (.slice (some ⟨g, 0, none⟩) 2 c) ∧ w'.cell? ⟨g, 0, none⟩ = some (.string x) ∧ w'.cell? ⟨g, 1, none⟩ = some (.string y) ∧ Hid (g < w'.heap.size) ∧ Hid (Below W.heap.size W w')) := fun W => (specCutD 58 58 rfl s hs W).mono fun e w' ⟨g, c, h1, hS, h2⟩ => by
    rw [hl] at h1 hS
    exact ⟨g, c, h1, hS.out.cell rfl, hS.out.cell rfl, (World.ownsRow.lt hS.out g rfl).2, h2⟩
  have HX : Hid (∀ W, Calls Tryd.prog 96 #[.string x] W fun e w' => e = .returned (.tuple #[.int .i64 (rdN x), .bool (rdB x)]) ∧ Below W.heap.size W w') := fun W => specRd2 x (by omega) W
  have HY : Hid (∀ W, Calls Tryd.prog 97 #[.string y] W fun e w' => e = .returned (.tuple #[.complex .f32 (ptN y).1 (ptN y).2, .bool (ptB y)]) ∧ Below W.heap.size W w') := fun W => specPt y (by omega) W
  have HM := fun W => specMap (rdN x) (ptN y).1 (ptN y).2 24 W
  have N : Hid (rdM x y = (rdB x && (ptB y && mapB (rdN x) (ptN y).1 (ptN y).2))) := rfl
  have O : Hid ((rdM x y = false → rmO x y = (0, (0, 0))) ∧ (rdM x y = true → rmO x y = (rdN x, ptN y))) := ⟨rmO_no, rmO_yes⟩
  have HP : Hid (ptN y = ((ptN y).1, (ptN y).2)) := rfl
  clear hl hx hy hs
  generalize rdM x y = bb at *
  generalize rmO x y = vv at *
  generalize rdN x = kk at *
  generalize ptN y = pq at *
  obtain ⟨p, q⟩ := pq
  rcases Bool.eq_false_or_eq_true (rdB x) with h1 | h1 <;> rcases Bool.eq_false_or_eq_true (ptB y) with h2 | h2 <;> rcases Bool.eq_false_or_eq_true (mapB kk p q) with h3 | h3
  all_goals
    rw [h1] at HX N
    rw [h2] at HY N
    rw [h3] at HM N
    have H3 := Lib.hid HM
    clear HM h1 h2 h3
    go_enter Tryd.func51, Tryd.ntmps51
    go_wp2_with fail
    refine (HC.out _).mono ?_
    rintro e w1 ⟨g, c, rfl, t0, t1, hg, B1⟩
    have T1 := Lib.hid t1
    clear t1
    go_wp2_with fail
    refine (HX.out _).mono ?_
    rintro e w2 ⟨rfl, b2⟩
    have t1 : w2.cell? ⟨g, 1, none⟩ = some (.string y) := by rw [b2.cell (p := ⟨g, 1, none⟩) hg.out]; exact T1.out
    have B2 := Lib.hid (B1.out.trans (b2.mono B1.out.size))
    clear t0 b2 B1 T1 hg
    go_wp2_with fail
    refine (HY.out _).mono ?_
    rintro e w3 ⟨rfl, b3⟩
    have B3 := Lib.hid (B2.out.trans (b3.mono B2.out.size))
    have hx : w.heap.size < w3.heap.size := by have := B3.out.size; simp at this; omega
    have hc := fun o => (varq B3.out o).1
    have hf := fun o => (varq B3.out o).2
    have c0 := (hc 0).trans rfl; have c1 := (hc 1).trans rfl
    have HB : Hid (Below w.heap.size w w3) := ((Below.refl _ _).alloc (Nat.le_refl _) _).trans (B3.out.mono (by simp))
    clear t1 b3 B2 B3 hc
    go_wp2_with (go_at_call 98; refine (H3.out _).mono ?_; rintro e w4 ⟨rfl, rfl⟩)
    have HE : ∀ (u v : Value) (o : Obj), Below w.heap.size w (((w3.setCell ⟨w.heap.size, 0, none⟩ u).setCell ⟨w.heap.size, 1, none⟩ v).alloc o) := fun u v o => ((HB.out.setCell (Nat.le_refl _) _).setCell (Nat.le_refl _) _).alloc (by rw [setCell_sizeQ, setCell_sizeQ]; exact Nat.le_of_lt hx) _
    first
      | exact bodyPost_ret (v := .tuple #[.agg #[.int .i64 kk, .complex .f32 p q], .bool true]) (by simp [results, Tryd.results51, go_sem, c0, c1, hx]) rfl ⟨by rw [O.out.2 N.out, show bb = true from N.out], HE _ _ _⟩
      | exact bodyPost_ret (v := .tuple #[.agg #[.int .i64 0, .complex .f32 0 0], .bool false]) (by simp [results, Tryd.results51, go_sem, c0, c1, hx]) rfl ⟨by rw [O.out.1 N.out, show bb = false from N.out], HE _ _ _⟩

theorem specRM (s : ByteArray) (hs : s.size ≤ 1048576) (w : World) : Calls Tryd.prog 13 #[.string s] w (RMP (rmB s) (rmV s) w) := by
  have H : Hid (∀ W, Calls Tryd.prog 51 #[.string s] W (RMP (rmB s) (rmV s) W)) := fun W => by
    rcases rm_cases s with ⟨h1, h2, h3, _⟩ | ⟨x, y, h1, _, h3, h4, h5, h6⟩
    · rw [h2, h3]; exact specRMno s hs h1 W
    · rw [h5, h6]; exact specRMtwo s x y hs h1 h3 h4 W
  unfold RMP at H
  generalize rmB s = bb at *
  generalize rmV s = vv at *
  obtain ⟨kk, p, q⟩ := vv
  go_enter Tryd.func13, Tryd.ntmps13
  go_wp2_with fail
  refine (H.out _).mono ?_
  rintro e w3 ⟨rfl, B3⟩
  have hx : w.heap.size < w3.heap.size := by have := B3.out.size; simp at this; omega
  have hc := fun o => (varq B3.out o).1
  have hf := fun o => (varq B3.out o).2
  have c0 := (hc 0).trans rfl; have c1 := (hc 1).trans rfl
  have HB : Hid (Below w.heap.size w w3) := ((Below.refl _ _).alloc (Nat.le_refl _) _).trans (B3.out.mono (by simp))
  clear B3 hc
  go_wp2_with fail
  exact bodyPost_ret (v := .tuple #[.agg #[.int .i64 kk, .complex .f32 p q], .bool bb]) (by simp [results, Tryd.results13, go_sem, c0, c1]) rfl ⟨rfl, (HB.out.setCell (Nat.le_refl _) _).setCell (Nat.le_refl _) _⟩

set_option maxHeartbeats 4000000 in
theorem implRMtwo (s x y : ByteArray) (hs : s.size ≤ 1048576) (hl : Lib.cut s.data.toList [58] = (x.data.toList, y.data.toList, (Lib.cut s.data.toList [58]).2.2)) (hx : x.size ≤ s.size) (hy : y.size ≤ s.size) (w : World) (hv : VarsM w) : Calls Tryd.prog 14 #[.string s] w (RMP (rdM x y) (rmO x y) w) := by
  have HV := Lib.hid hv
  have HC : Hid (∀ W, VarsM W → Calls Tryd.prog 52 #[.string s, .string ⟨#[58]⟩] W fun e w' => ∃ b, e = .returned (.tuple #[.string x, .string y, .bool b]) ∧ Hid (Below W.heap.size W w')) := fun W hW => by
    obtain ⟨m, hm⟩ := hW.most
    refine (Tryd.strings_Cut s ⟨#[58]⟩ m W (by omega) hm).mono ?_
    rintro e w' ⟨rfl, n, rfl⟩
    refine ⟨(Lib.cut s.data.toList [58]).2.2, ?_, ⟨rfl, rfl, rfl, Nat.le_refl _, fun _ _ => rfl⟩⟩
    show Ending.returned (.tuple #[.string ⟨(Lib.cut s.data.toList [58]).1.toArray⟩, .string ⟨(Lib.cut s.data.toList [58]).2.1.toArray⟩, .bool (Lib.cut s.data.toList [58]).2.2]) = _
    rw [hl]
  have HX : Hid (∀ W, VarsM W → Calls Tryd.prog 53 #[.string x] W fun e w' => e = .returned (.tuple #[.int .i64 (rdN x), .bool (rdB x)]) ∧ Below W.heap.size W w') := fun W hW => implRd x (by omega) W hW.vars
  have HY : Hid (∀ W, VarsM W → Calls Tryd.prog 55 #[.string y] W (CLPost (clL y) (clB y) W)) := fun W hW => implCl y (by omega) W hW.most
  have HO := Lib.hid (fun A c B W h => onlyC2 A c B y W h)
  have HM := fun W => implMap (rdN x) (ptN y).1 (ptN y).2 W
  have N : Hid (rdM x y = (rdB x && (ptB y && mapB (rdN x) (ptN y).1 (ptN y).2))) := rfl
  have O : Hid ((rdM x y = false → rmO x y = (0, (0, 0))) ∧ (rdM x y = true → rmO x y = (rdN x, ptN y))) := ⟨rmO_no, rmO_yes⟩
  unfold CLPost at HY
  clear hl hx hy hs hv
  generalize rdM x y = bb at *
  generalize rmO x y = vv at *
  generalize rdN x = kk at *
  generalize clL y = cl at *
  generalize clB y = cb at *
  generalize ptN y = pq at *
  obtain ⟨p, q⟩ := pq
  rcases Bool.eq_false_or_eq_true (rdB x) with h1 | h1 <;> rcases Bool.eq_false_or_eq_true (ptB y) with h2 | h2 <;> rcases Bool.eq_false_or_eq_true (mapB kk p q) with h3 | h3
  all_goals
    rw [h1] at HX N
    rw [h2] at HO N
    rw [h3] at HM N
    have H3 := Lib.hid HM
    clear HM h1 h2 h3
    have B0 : Hid (Below w.heap.size w (w.alloc (.cells #[.int .i64 0, .complex .f32 0 0] 24))) := (Below.refl _ _).alloc (Nat.le_refl _) _
    go_enter Tryd.func14, Tryd.ntmps14
    go_wp2_with fail
    refine (HC.out _ (HV.out.below B0.out)).mono ?_
    rintro e w1 ⟨b, rfl, B1⟩
    go_wp2_with fail
    refine (HX.out _ (HV.out.below (B0.out.trans (B1.out.mono (by simp))))).mono ?_
    rintro e w2 ⟨rfl, b2⟩
    have B2 := Lib.hid (B1.out.trans (b2.mono B1.out.size))
    clear b2 B1
    go_wp2_with fail
    refine (HY.out _ (HV.out.below (B0.out.trans (B2.out.mono (by simp))))).mono ?_
    rintro e w3 ⟨A, c, rfl, hO, b3⟩
    have B3 := Lib.hid (B2.out.trans (b3.out.mono B2.out.size))
    clear b3 B2
    go_wp2_with fail
    refine (HO.out _ _ _ _ hO.out).mono ?_
    rintro e w4 ⟨rfl, rfl⟩
    have hx : w.heap.size < w3.heap.size := by have := B3.out.size; simp at this; omega
    have hc := fun o => (varq B3.out o).1
    have hf := fun o => (varq B3.out o).2
    have c0 := (hc 0).trans rfl; have c1 := (hc 1).trans rfl
    have HB : Hid (Below w.heap.size w w3) := ((Below.refl _ _).alloc (Nat.le_refl _) _).trans (B3.out.mono (by simp))
    have HE : ∀ (u v : Value) (o : Obj), Below w.heap.size w (((w3.setCell ⟨w.heap.size, 0, none⟩ u).setCell ⟨w.heap.size, 1, none⟩ v).alloc o) := fun u v o => ((HB.out.setCell (Nat.le_refl _) _).setCell (Nat.le_refl _) _).alloc (by rw [setCell_sizeQ, setCell_sizeQ]; exact Nat.le_of_lt hx) _
    clear hO hc
    go_wp2_with fail
    first
      | exact bodyPost_ret (v := .tuple #[.agg #[.int .i64 0, .complex .f32 0 0], .bool false]) (by simp [results, Tryd.results14, go_sem, c0, c1, hx]) rfl ⟨by rw [O.out.1 N.out, show bb = false from N.out], HE _ _ _⟩
      | (refine (H3.out _).mono ?_
         rintro e w5 ⟨rfl, b5⟩
         have B5 := (B3.out.alloc B3.out.size (.cells #[.int .i64 kk, .complex .f32 p q] 24)).trans (b5.mono (by have := B3.out.size; simp at this ⊢; omega))
         have hm := fun o => (varq b5 o).1
         have d0 := (hm 0).trans rfl; have d1 := (hm 1).trans rfl
         have hx5 : w.heap.size < w5.heap.size := by have := B5.size; simp at this; omega
         have hc := fun o => (varq B5 o).1
         have hf5 := fun o => (varq B5 o).2
         clear c0 c1 hf HE hx
         have c0 := (hc 0).trans rfl; have c1 := (hc 1).trans rfl
         have HB5 : Hid (Below w.heap.size w w5) := ((Below.refl _ _).alloc (Nat.le_refl _) _).trans (B5.mono (by simp))
         have HE5 : ∀ (u v : Value), Below w.heap.size w ((w5.setCell ⟨w.heap.size, 0, none⟩ u).setCell ⟨w.heap.size, 1, none⟩ v) := fun u v => (HB5.out.setCell (Nat.le_refl _) _).setCell (Nat.le_refl _) _
         clear B3 B5 b5 hm hc HB5
         go_wp2_with fail
         first
           | exact bodyPost_ret (v := .tuple #[.agg #[.int .i64 kk, .complex .f32 p q], .bool true]) (by simp [results, Tryd.results14, go_sem, c0, c1]) rfl ⟨by rw [O.out.2 N.out, show bb = true from N.out], HE5 _ _⟩
           | exact bodyPost_ret (v := .tuple #[.agg #[.int .i64 0, .complex .f32 0 0], .bool false]) (by simp [results, Tryd.results14, go_sem, c0, c1]) rfl ⟨by rw [O.out.1 N.out, show bb = false from N.out], HE5 _ _⟩)

theorem implRM (s : ByteArray) (hs : s.size ≤ 1048576) (w : World) (hv : VarsM w) : Calls Tryd.prog 14 #[.string s] w (RMP (rmB s) (rmV s) w) := by
  rcases rm_cases s with ⟨_, h2, h3, x, y, h4, h5, h6, h7⟩ | ⟨x, y, _, h2, h3, h4, h5, h6⟩
  · rw [h2, h3, ← h7, ← rmO_no h7]; exact implRMtwo s x y hs h4 h5 h6 w hv
  · rw [h5, h6]; exact implRMtwo s x y hs h2 h3 h4 w hv

end Go.Proofs.YtegbclfjcckglaaDoor
