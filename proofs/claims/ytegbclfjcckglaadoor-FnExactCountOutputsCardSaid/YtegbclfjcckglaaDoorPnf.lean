/-
  What is proved here: the only number of a list, and the number with a text, of both packages; texts that the library cuts wholly. Conditions: the text has at most 1048576 bytes.
-/
import Derived.Test.YtegbclfjcckglaaDoorNrq
import Derived.Test.YtegbclfjcckglaaDoorCuc
import Derived.Lib.SplitLaws
namespace Go.Proofs.YtegbclfjcckglaaDoor
open Flt Go.RowKit

def oneFB (b : Bool) (L : List Nat) : Bool := b && decide (L.length = 1)
def oneFV (b : Bool) (L : List Nat) : Nat := if oneFB b L = true then at0 L 0 else 0
def nmB (s : ByteArray) : Bool := oneFB (nlB s) (nlL s)
def nmN (s : ByteArray) : Nat := oneFV (nlB s) (nlL s)

theorem oneF_no {b : Bool} {L : List Nat} (h : oneFB b L = false) : oneFV b L = 0 := by unfold oneFV; rw [h]; rfl

/-- what a list with one number gives -/
theorem onlyF (A : Option Addr) (c B : Nat) (b : Bool) (L : List Nat) (w : World) (hO : OwnF w B A L) :
    Calls Tryd.prog 60 #[.slice A L.length c, .bool b] w fun e w' => e = .returned (.tuple #[.float .f32 (oneFV b L), .bool (oneFB b L)]) ∧ w = w' := by
  cases b
  · have N := Lib.hid (oneF_no (b := false) (L := L) rfl)
    have N2 : Hid (oneFB false L = false) := rfl
    go_enter Tryd.func60, Tryd.ntmps60
    go_wp2_with fail
    go_ret2
    exact ⟨by rw [N.out, N2.out]; rfl, rfl⟩
  by_cases h1 : L.length = 1
  · have hb : oneFB true L = true := by unfold oneFB; rw [decide_eq_true h1]; rfl
    have N : Hid (oneFV true L = at0 L 0) := if_pos hb
    have N2 := Lib.hid hb
    obtain ⟨x, off, rfl, _, _, hc, _⟩ := hO (by omega)
    have c0 : w.cell? ⟨x, off, none⟩ = some (.float .f32 (at0 L 0)) := hc 0 (by omega)
    rw [h1]
    have e0 : (((1 : Nat) : Int) != 1) = false := by decide
    clear hO hb h1 hc
    go_enter Tryd.func60, Tryd.ntmps60
    go_wp2_with fail
    go_ret2
    exact ⟨by rw [N.out, N2.out]; rfl, rfl⟩
  · have hb : oneFB true L = false := by unfold oneFB; rw [decide_eq_false h1]; rfl
    have N := Lib.hid (oneF_no hb)
    have N2 := Lib.hid hb
    have e0 : ((L.length : Int) != 1) = true := by simp; omega
    have e1 : ((L.length : Int) == 1) = false := by simp; omega
    clear hO hb h1
    generalize L.length = n at *
    go_enter Tryd.func60, Tryd.ntmps60
    go_wp2_with fail
    go_ret2
    exact ⟨by rw [N.out, N2.out]; rfl, rfl⟩

theorem specNm (s : ByteArray) (hs : s.size ≤ 1048576) (w : World) :
    Calls Tryd.prog 105 #[.string s] w fun e w' => e = .returned (.tuple #[.float .f32 (nmN s), .bool (nmB s)]) ∧ Below w.heap.size w w' := by
  have HC : ∀ W, Calls Tryd.prog 92 #[.string s] W (NLPost (nlL s) (nlB s) W) := fun W => specNl s hs W
  unfold nmB nmN
  unfold NLPost at HC
  generalize nlL s = L at *
  cases hb : nlB s
  · rw [hb] at HC
    have H := Lib.hid HC
    have N := Lib.hid (oneF_no (b := false) (L := L) rfl)
    have N2 : Hid (oneFB false L = false) := rfl
    clear HC hb
    go_enter Tryd.func105, Tryd.ntmps105
    go_wp2_with (go_at_call 92; refine (H.out _).mono ?_; rintro e w1 ⟨A, c, rfl, hO, hB⟩)
    go_ret2
    exact ⟨by rw [N.out, N2.out]; rfl, hB.out⟩
  rw [hb] at HC
  by_cases h1 : L.length = 1
  · have hb : oneFB true L = true := by unfold oneFB; rw [decide_eq_true h1]; rfl
    have N : Hid (oneFV true L = at0 L 0) := if_pos hb
    have N2 := Lib.hid hb
    have H : Hid (∀ W, Calls Tryd.prog 92 #[.string s] W fun e w' => ∃ x off c, e = .returned (.tuple #[.slice (some ⟨x, off, none⟩) 1 c, .bool true]) ∧ w'.cell? ⟨x, off, none⟩ = some (.float .f32 (at0 L 0)) ∧ Hid (Below W.heap.size W w')) := fun W => (HC W).mono fun e w' ⟨A, c, h2, hO, hB⟩ => by
      obtain ⟨x, off, rfl, _, _, hc, _⟩ := hO.out (by omega)
      exact ⟨x, off, c, by rw [h2, h1], hc 0 (by omega), hB⟩
    have e0 : (((1 : Nat) : Int) != 1) = false := by decide
    clear HC hb h1
    go_enter Tryd.func105, Tryd.ntmps105
    go_wp2_with (go_at_call 92; refine (H.out _).mono ?_; rintro e w1 ⟨x, off, c, rfl, c0, hB⟩)
    go_ret2
    exact ⟨by rw [N.out, N2.out]; rfl, hB.out⟩
  · have hb : oneFB true L = false := by unfold oneFB; rw [decide_eq_false h1]; rfl
    have N := Lib.hid (oneF_no hb)
    have N2 := Lib.hid hb
    have e0 : ((L.length : Int) != 1) = true := by simp; omega
    have e1 : ((L.length : Int) == 1) = false := by simp; omega
    have H := Lib.hid HC
    clear HC hb h1
    go_enter Tryd.func105, Tryd.ntmps105
    go_wp2_with (go_at_call 92; refine (H.out _).mono ?_; rintro e w1 ⟨A, c, rfl, hO, hB⟩)
    go_ret2
    exact ⟨by rw [N.out, N2.out]; rfl, hB.out⟩

theorem onlyF2 (A : Option Addr) (c B : Nat) (s : ByteArray) (w : World) (hO : OwnF w B A (nlL s)) :
    Calls Tryd.prog 60 #[.slice A (nlL s).length c, .bool (nlB s)] w fun e w' => e = .returned (.tuple #[.float .f32 (nmN s), .bool (nmB s)]) ∧ w = w' := onlyF A c B (nlB s) (nlL s) w hO

theorem split_allD (d : UInt8) : ∀ (k : Nat) (l : List UInt8), Lib.count l [d] = k → Lib.splitK [d] 0 k l = cutD d l
  | 0, l, h => by
    show [l] = cutD d l
    rcases index_sep d l with ⟨_, h2⟩ | ⟨p, r, _, _, h3⟩
    · exact (cutD_end h2).symm
    · have := Lib.count_hit (by simp) h3
      omega
  | k + 1, l, h => by
    rcases index_sep d l with ⟨h1, _⟩ | ⟨p, r, h1, h2, h3⟩
    · have := Lib.count_miss h1
      omega
    · have hc := Lib.count_hit (by simp) h3
      have hd : l.drop (p.length + [d].length) = r := by
        rw [h1, show p ++ d :: r = (p ++ [d]) ++ r by simp, List.drop_left' (by simp)]
      rw [hd] at hc
      have ih := split_allD d k r (by omega)
      rw [Lib.splitK, h3, if_neg (by simp), Int.toNat_natCast, Nat.add_zero, hd, ih, h1, cutD_hit h2, List.take_left]

theorem splitB_allD (d : UInt8) (s : ByteArray) : Lib.splitB ⟨#[d]⟩ 0 (Lib.countB s ⟨#[d]⟩) s = cutBd d s ∧ (cutBd d s).length = Lib.countB s ⟨#[d]⟩ + 1 := by
  have e : Lib.splitB ⟨#[d]⟩ 0 (Lib.countB s ⟨#[d]⟩) s = cutBd d s := by
    rw [← list_backD (Lib.splitB ⟨#[d]⟩ 0 (Lib.countB s ⟨#[d]⟩) s), Lib.splitB_data]
    show (Lib.splitK [d] 0 (Lib.count s.data.toList [d]) s.data.toList).map bytesD = _
    rw [split_allD d _ _ rfl]; rfl
  refine ⟨e, ?_⟩
  rw [← e]
  exact Lib.splitB_all ⟨#[d]⟩ (Nat.le_refl 1) 0 _ s rfl

theorem splitWhole (d : UInt8) (s : ByteArray) (hs : s.size ≤ 1048576) (w : World) (hm : Most w) :
    Calls Tryd.prog 59 #[.string s, .string ⟨#[d]⟩] w fun e w' => ∃ g c, e = .returned (.slice (some ⟨g, 0, none⟩) (cutBd d s).length c) ∧ Hid (TextsF w' w.heap.size g (cutBd d s)) ∧ Hid (Below w.heap.size w w') := by
  obtain ⟨m, hm⟩ := hm
  obtain ⟨e1, e2⟩ := splitB_allD d s
  refine (Tryd.strings_Split s ⟨#[d]⟩ m w (by omega) hm (Nat.le_refl 1)).mono ?_
  rintro e w' ⟨rfl, rfl⟩
  refine ⟨w.heap.size, Lib.countB s ⟨#[d]⟩ + 1, by rw [e2], ⟨Nat.le_refl _, by simp, fun j x hx => ?_⟩, (Below.refl _ _).alloc (Nat.le_refl _) _⟩
  rw [e1]
  have h : ((cutBd d s).map Value.string).toArray[j]? = some (.string x) := by rw [List.getElem?_toArray, List.getElem?_map, hx]; rfl
  show (w.alloc (.cells ((cutBd d s).map Value.string).toArray 9)).cell? _ = _
  simp [World.cell?, World.alloc, -World.alloc_eq, h]

end Go.Proofs.YtegbclfjcckglaaDoor
