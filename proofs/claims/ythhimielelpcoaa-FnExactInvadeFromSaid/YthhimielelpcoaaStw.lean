/-
  What is proved here: whether a side of a cell is full, of both packages, as walks; how a walker goes. Conditions: a valid field, a cell of it.
-/
import Derived.Test.YthhimielelpcoaaStp
import Derived.Test.YthhimielelpcoaaFem
namespace Go.Proofs.Ythhimielelpcoaa
open Go.RowKit
set_option linter.unusedVariables false

/-- how a walker goes: the seed and the cell where it ends -/
def walkS (p : Nat → Bool) (x y : Int) : Nat → Int → Int → Int × Int
  | 0, s, i => (s, i)
  | m + 1, s, i => if fulS p x y i = 0 then walkS p x y m (nextS s) (nxtC x y i (drawS s 4).toNat) else (s, i)
theorem walkS_go {p : Nat → Bool} {x y : Int} {m : Nat} {s i : Int} (h : fulS p x y i = 0) : walkS p x y (m + 1) s i = walkS p x y m (nextS s) (nxtC x y i (drawS s 4).toNat) := by
  show (if _ then _ else _) = _
  rw [if_pos h]
theorem walkS_end {p : Nat → Bool} {x y : Int} {m : Nat} {s i : Int} (h : 0 < fulS p x y i) : walkS p x y m s i = (s, i) := by
  cases m with
  | zero => rfl
  | succ m => show (if _ then _ else _) = _; rw [if_neg (by omega)]
def endS (p : Nat → Bool) (x y : Int) (n m : Nat) (s : Int) : Int × Int := walkS p x y m (nextS s) (drawS s n)
def stkB (p : Nat → Bool) (x y : Int) (n m : Nat) (s : Int) : Bool := !p (drawS s n).toNat && decide (0 < fulS p x y (endS p x y n m s).2)
def stkS (p : Nat → Bool) (x y : Int) (n m : Nat) (s : Int) : Int := if p (drawS s n).toNat = true then nextS s else (endS p x y n m s).1
def stkF (p : Nat → Bool) (x y : Int) (n m : Nat) (s : Int) : Nat → Bool := fun j => if stkB p x y n m s = true ∧ j = (endS p x y n m s).2.toNat then true else p j
theorem kepL_mono (p : Nat → Bool) (L : List Int) (j : Nat) : ∀ k, (kepL p L j).length ≤ (kepL p L (j + k)).length
  | 0 => Nat.le_refl _
  | k + 1 => by
    refine Nat.le_trans (kepL_mono p L j k) ?_
    show _ ≤ (kepL p L (j + k + 1)).length
    cases e : fulD p L (j + k) with
    | true => rw [kepL_yes e, List.length_append]; exact Nat.le_add_right _ _
    | false => rw [kepL_no e]; exact Nat.le_refl _
theorem kepL_full {p : Nat → Bool} {L : List Int} {t : Nat} (ht : t < L.length) (h : fulD p L t = true) : 0 < (kepL p L L.length).length := by
  have h1 := kepL_mono p L (t + 1) (L.length - (t + 1))
  rw [show t + 1 + (L.length - (t + 1)) = L.length by omega, kepL_yes h, List.length_append] at h1
  have : 1 ≤ [atI L t].length := Nat.le_refl _
  omega


set_option maxHeartbeats 2000000 in
theorem specTou (x y i : Int) (v : Nat) (A : Option Addr) (n c : Nat) (p : Nat → Bool) (hv : fvB x y n = true) (h0 : 0 ≤ i) (hi : i < x * y) (w : World) (V : VarT w v x y A n c) (hr : RowV w w.heap.size A n (bo p)) :
    Calls Try.prog 49 #[.pointer (some ⟨v, 0, none⟩), .int .i64 i] w fun e w' => e = .returned (.bool (decide (0 < fulS p x y i))) ∧ Hid (Below w.heap.size w w') := by
  obtain ⟨⟨hx, hy⟩, hnn, hn1, hn2⟩ := fvB_yes hv
  have hsd : sidB x y = true := by
    cases e : sidB x y with
    | true => rfl
    | false => rw [fvB_1 e] at hv; cases hv
  have HBE := Lib.hid (fun (W : World) => specBes x y i hsd h0 hi W)
  have HLC := Lib.hid (sidL_cells (n := n) hx.1 h0 hi hnn)
  have hL4 := sidL_len x y i
  have v0 := V.c0
  have v1 := V.c1
  have v2 := V.c2
  have vlt := V.lt
  clear hv hx hy hsd hnn
  unfold fulS
  generalize sidL x y i = L at *
  go_enter Try.func49, Try.ntmps49
  go_wp2_with fail
  have K0 : Hid (Below w.heap.size w w.drew) := (Below.refl _ _).drew
  go_region_held3 (fun w' => w'.cell? ⟨v, 0, none⟩ = some (.int .i64 x) ∧ w'.cell? ⟨v, 1, none⟩ = some (.int .i64 y) ∧ w'.cell? ⟨v, 2, none⟩ = some (.slice A n c) ∧ Hid (Below w.heap.size w w')) (first | (exact ⟨by assumption, by assumption, by assumption, by assumption⟩) | go_keep)
    (((go_at_call 104; refine (HBE.out _).mono ?_; rintro e w8 ⟨X, cx, rfl, HO, hb8⟩; have K8 := Lib.hid ((‹Hid (Below w.heap.size w _)›).out.trans (hb8.out.mono (‹Hid (Below w.heap.size w _)›).out.size)); obtain ⟨g0, g1, g2⟩ := keepT (v := v) hb8.out (by assumption) (by assumption) (by assumption) (by assumption) vlt)))
  have HW4 : Hid (Below w.heap.size w w8) := (‹Hid (Below w.heap.size w w8)›).out
  have HL := Lib.hid HO.out.rowW.toRow
  have HR4 := Lib.hid (hr.below HW4.out)
  have V4 := Lib.hid (V.below HW4.out)
  clear K0 K8 hb8 HO HBE g0 g1 g2 v0 v1 v2 hr V
  go_wp2_with fail
  go_loopw [19] (fun j wr => ∃ (t : Nat), t ≤ L.length ∧ j = .int .i64 t ∧ (kepL p L t).length = 0 ∧ ∃ m, wr = w8.drewN m) (fun j _ => L.length - (intOf j).toNat)
  case atStart => exact ⟨0, Nat.zero_le _, rfl, rfl, 0, rfl⟩
  case round =>
    obtain ⟨t, ht, rfl, hkl, m, rfl⟩ := hrel
    by_cases htl : t < L.length
    · obtain ⟨b2, off2, rfl, hb2, hcell2⟩ := HL.out (by omega)
      obtain ⟨b3, off3, rfl, hb3, hcell3⟩ := HR4.out (by omega)
      have hcl := hcell2 t htl
      unfold iv at hcl
      obtain ⟨s0, s1⟩ := HLC.out t htl
      obtain ⟨s, hs⟩ : ∃ s : Nat, atI L t = (s : Int) := ⟨(atI L t).toNat, by omega⟩
      rw [hs] at hcl
      have hsn : s < n := by omega
      have hfs : fulD p L t = p s := by unfold fulD; rw [hs]; rfl
      have hc3 := hcell3 s hsn
      unfold bo at hc3
      have d2 := V4.out.c2
      have hsn2 : (s : Int) < n := by omega
      have hb2' : b2 < w8.heap.size := hb2
      clear hcell2 hcell3 hs s0 s1
      cases hp : p s
      · rw [hp] at hc3 hfs
        have EK : Hid ((kepL p L (t + 1)).length = 0) := by show _ = _; rw [kepL_no hfs]; exact hkl
        clear hp hfs
        go_wp2_with fail
        go_quiet (fail)
        go_wp2
        go_roundw
        case rel => exact ⟨t + 1, by omega, by go_num, EK.out, _, rfl⟩
        case measure => simp [intOf]; omega
      · rw [hp] at hc3 hfs
        have EK : Hid (0 < (kepL p L L.length).length) := kepL_full htl hfs
        clear hp hfs
        go_wp2_with fail
        go_quiet (fail)
        go_wp2
        go_ret
        exact ⟨by rw [decide_eq_true EK.out]; rfl, belowN (belowN HW4.out)⟩
    · obtain rfl : t = L.length := by omega
      have E : Hid (decide (0 < (kepL p L L.length).length) = false) := decide_eq_false (by omega)
      go_wp2_with fail
      go_ret
      exact ⟨by rw [E.out]; rfl, belowN HW4.out⟩

end Go.Proofs.Ythhimielelpcoaa
