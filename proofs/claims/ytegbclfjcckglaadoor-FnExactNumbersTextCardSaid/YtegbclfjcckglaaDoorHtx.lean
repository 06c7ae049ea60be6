/-
  What is proved here: the texts of lists of 32-bit numbers, and the law NumbersText, as walks. Conditions: the list is one that a machine can hold; the library's table holds what it lays.
-/
import Derived.Test.YtegbclfjcckglaaDoorHexC
import Derived.Test.YtegbclfjcckglaaDoorRep
import Derived.Test.YtegbclfjcckglaaDoorSumB
import Derived.Test.YtegbclfjcckglaaDoorShelfC
import Derived.Lib.Join
import Derived.Laws.Concat
namespace Go.Proofs.YtegbclfjcckglaaDoor
open Flt Go.RowKit

/-- words of 32 bits, all of them -/
def AllW (zs : List Nat) : Prop := ∀ z ∈ zs, WF .f32 z
theorem at0_mem {zs : List Nat} {j : Nat} (h : j < zs.length) : at0 zs j ∈ zs := by
  rw [show at0 zs j = zs[j] by simp [at0, List.getD, h]]; exact List.getElem_mem h

/-- a number's text -/
def hexB (z : Nat) : List UInt8 := hexN 8 (bitsN z)
theorem hexB_length (z : Nat) : (hexB z).length = 8 := hexN_length 8 _

def joinH (zs : List Nat) : List UInt8 := Lib.join (zs.map hexB) [44]
def ntB (zs : List Nat) : Bool := decide (zs.length ≤ 256)
def ntT (zs : List Nat) : List UInt8 := if ntB zs = true then (if zs.length = 0 then [110, 111, 110, 101] else joinH zs) else []

theorem joinH_one (z : Nat) : joinH [z] = hexB z := Lib.join_one _ _
theorem joinH_snoc (zs : List Nat) (z : Nat) (h : zs ≠ []) : joinH (zs ++ [z]) = joinH zs ++ (44 :: hexB z) := by
  cases zs with
  | nil => exact absurd rfl h
  | cons x r =>
    unfold joinH
    rw [List.cons_append, List.map_cons, List.map_cons, Lib.join_cons, Lib.join_cons]
    unfold Lib.joinTail
    simp
theorem joinH_len (zs : List Nat) : (joinH zs).length ≤ 9 * zs.length := by
  have key : ∀ (r : List Nat), (Lib.joinTail [44] (r.map hexB)).length ≤ 9 * r.length := by
    intro r
    induction r with
    | nil => simp [Lib.joinTail]
    | cons z r ih =>
      have h1 := hexB_length z
      unfold Lib.joinTail at ih ⊢
      simp at ih ⊢
      omega
  cases zs with
  | nil => simp [joinH, Lib.join_nil]
  | cons z r =>
    have h1 := hexB_length z
    have h2 := key r
    unfold joinH
    rw [List.map_cons, Lib.join_cons, List.length_append, List.length_cons]
    omega

theorem take_snoc0 (zs : List Nat) (k : Nat) (h : k < zs.length) : zs.take (k + 1) = zs.take k ++ [at0 zs k] := by
  rw [List.take_succ_eq_append_getElem h]; simp [at0, List.getD, h]

/-- the text of the first of them -/
def hexTo (zs : List Nat) (k : Nat) : ByteArray := ⟨(joinH (zs.take k)).toArray⟩

theorem add_commaH (z : Nat) (W : World) : (Op.stringOp .add ⟨#[44]⟩ ⟨(hexB z).toArray⟩).run Tryd.prog W = .ok (.string ⟨(44 :: hexB z).toArray⟩) W := by
  have h := hexB_length z
  rw [run_string_add_sum W _ _ (by show (#[(44 : UInt8)]).size + (hexB z).toArray.size ≤ _; simp; omega)]
  congr 2

theorem add_nextH (zs : List Nat) (k : Nat) (h0 : 0 < k) (h : k < zs.length) (h64 : zs.length ≤ 256) (W : World) :
    (Op.stringOp .add (hexTo zs k) ⟨(44 :: hexB (at0 zs k)).toArray⟩).run Tryd.prog W = .ok (.string (hexTo zs (k + 1))) W := by
  have h1 := hexB_length (at0 zs k)
  have h2 := joinH_len (zs.take k)
  have h3 : (zs.take k).length ≤ 256 := Nat.le_trans (List.length_take_le' _ _) h64
  rw [run_string_add_sum W _ _ (by show (joinH (zs.take k)).toArray.size + (44 :: hexB (at0 zs k)).toArray.size ≤ _; simp; omega)]
  congr 2
  unfold hexTo
  rw [ByteArray.mk_append_mk, take_snoc0 zs k h, joinH_snoc _ _ (by intro e; have := congrArg List.length e; rw [List.length_take, List.length_nil] at this; omega)]

theorem specHex2 (z : Nat) (hz : WF .f32 z) (w : World) : Calls Tryd.prog 122 #[.float .f32 z] w fun e w' => e = .returned (.string ⟨(hexB z).toArray⟩) ∧ Below w.heap.size w w' := specHex z hz w

theorem specNT (A : Option Addr) (c : Nat) (zs : List Nat) (w : World) (hr : RowF w w.heap.size A zs) (hz : AllW zs) (h64 : zs.length ≤ 256) :
    Calls Tryd.prog 89 #[.slice A zs.length c] w fun e w' => e = .returned (.string (if zs.length = 0 then ⟨#[110, 111, 110, 101]⟩ else hexTo zs zs.length)) ∧ Below w.heap.size w w' := by
  have HR := Lib.hid hr
  have HZ := Lib.hid hz
  clear hr hz
  by_cases h0 : zs.length = 0
  · have hb0 : ((zs.length : Int) == 0) = true := by simpa using h0
    have H0 := Lib.hid h0
    clear h0
    go_enter Tryd.func89, Tryd.ntmps89
    go_wp2
    go_ret
    exact ⟨by first | rfl | (rw [if_pos H0.out]; rfl), Below.refl _ _⟩
  · have hb0 : ((zs.length : Int) == 0) = false := by simpa using h0
    have hlen : 1 ≤ zs.length := by omega
    have H0 := Lib.hid h0
    obtain ⟨b, off, rfl, hb, hcell⟩ := HR.out (by omega)
    have hc0 := hcell 0 (by omega)
    have hz0 := HZ.out _ (at0_mem (zs := zs) (j := 0) (by omega))
    have S1 : Hid ((⟨(hexB (at0 zs 0)).toArray⟩ : ByteArray) = hexTo zs 1) := by
      show _ = hexTo zs 1
      unfold hexTo
      rw [take_snoc0 zs 0 (by omega), List.take_zero, List.nil_append, joinH_one]
    have HZ0 := Lib.hid hz0
    have HC := Lib.hid hcell
    rw [Nat.add_zero] at hc0
    clear h0 hz0 hcell
    go_enter Tryd.func89, Tryd.ntmps89
    go_wp2_with (go_at_call 122; refine (specHex2 _ HZ0.out _).mono ?_; rintro e w1 ⟨rfl, hb1⟩; have HB1 := Lib.hid hb1; clear hb1; rw [S1.out])
    clear hc0
    go_loopw [3, 4] (fun o i wr => ∃ k : Nat, 1 ≤ k ∧ k ≤ zs.length ∧ i = .int .i64 k ∧ o = .string (hexTo zs k) ∧ Hid (Below w.heap.size w wr)) (fun _ i _ => zs.length - (intOf i).toNat)
    case atStart => exact ⟨1, Nat.le_refl _, hlen, rfl, rfl, HB1⟩
    case round =>
      obtain ⟨k, h1k, hk, rfl, rfl, hB⟩ := hrel
      by_cases hlt : k < zs.length
      · have hc := HC.out k hlt
        rw [← hB.out.cell (p := ⟨b, off + k, none⟩) hb] at hc
        have HK := Lib.hid (HZ.out _ (at0_mem hlt))
        have hadd1 := add_commaH (at0 zs k)
        have hadd2 := add_nextH zs k (by omega) hlt h64
        go_wp2_with (go_at_call 122; refine (specHex2 _ HK.out _).mono ?_; rintro e w2 ⟨rfl, hb2⟩; have HB2 := Lib.hid hb2; clear hb2)
        go_roundw
        case rel => exact ⟨k + 1, by omega, by omega, by go_num, rfl, hB.out.trans (HB2.out.mono hB.out.size)⟩
        case measure => simp [intOf]; omega
      · have HK : Hid (k = zs.length) := by show k = zs.length; omega
        go_wp2
        go_ret
        exact ⟨by first | rfl | (rw [if_neg H0.out, ← HK.out]; rfl) | (rw [← HK.out]; rfl), hB.out⟩

/-- what both functions give -/
def NPost (zs : List Nat) (w : World) (e : Ending) (w' : World) : Prop := e = .returned (.tuple #[.string ⟨(ntT zs).toArray⟩, .bool (ntB zs)]) ∧ Below w.heap.size w w'

theorem npost_no {zs : List Nat} {w w' : World} (h : ntB zs = false) (hb : Below w.heap.size w w') : NPost zs w (.returned (.tuple #[.string ⟨#[]⟩, .bool false])) w' := by
  refine ⟨?_, hb⟩
  unfold ntT
  rw [h]; rfl
theorem npost_none {zs : List Nat} {w w' : World} (h : ntB zs = true) (h0 : zs.length = 0) (hb : Below w.heap.size w w') : NPost zs w (.returned (.tuple #[.string ⟨#[110, 111, 110, 101]⟩, .bool true])) w' := by
  refine ⟨?_, hb⟩
  unfold ntT
  rw [if_pos h, if_pos h0, h]
theorem npost_yes {zs : List Nat} {w w' : World} (h : ntB zs = true) (h0 : ¬ zs.length = 0) (hb : Below w.heap.size w w') : NPost zs w (.returned (.tuple #[.string (hexTo zs zs.length), .bool true])) w' := by
  refine ⟨?_, hb⟩
  unfold ntT hexTo
  rw [if_pos h, if_neg h0, h, List.take_length]

theorem specNTx (A : Option Addr) (c : Nat) (zs : List Nat) (w : World) (hr : RowF w w.heap.size A zs) (hz : AllW zs) (hn : zs.length ≤ 1048576) :
    Calls Tryd.prog 43 #[.slice A zs.length c] w (NPost zs w) := by
  have HR := Lib.hid hr
  have HZ := Lib.hid hz
  clear hr hz
  cases hb : ntB zs
  · have N := Lib.hid hb
    have hd : decide (zs.length ≤ 256) = false := hb
    go_enter Tryd.func43, Tryd.ntmps43
    go_wp2_with (go_at_call 88; refine (few_any _ _ _ hn _).mono ?_; rintro e w' ⟨rfl, rfl⟩)
    go_ret2
    exact npost_no N.out (Below.refl _ _)
  · have N := Lib.hid hb
    have hd : decide (zs.length ≤ 256) = true := hb
    have h64 : zs.length ≤ 256 := of_decide_eq_true hb
    by_cases h0 : zs.length = 0
    · have H0 := Lib.hid h0
      clear h0
      go_enter Tryd.func43, Tryd.ntmps43
      go_wp2_with (first | (go_at_call 88; refine (few_any _ _ _ hn _).mono ?_; rintro e w' ⟨rfl, rfl⟩) | (go_at_call 89; refine (specNT _ _ zs _ HR.out HZ.out h64).mono ?_; rw [if_pos H0.out]; rintro e w1 ⟨rfl, hb1⟩; have HB1 := Lib.hid hb1; clear hb1))
      go_ret2
      exact npost_none N.out H0.out HB1.out
    · have H0 := Lib.hid h0
      clear h0
      go_enter Tryd.func43, Tryd.ntmps43
      go_wp2_with (first | (go_at_call 88; refine (few_any _ _ _ hn _).mono ?_; rintro e w' ⟨rfl, rfl⟩) | (go_at_call 89; refine (specNT _ _ zs _ HR.out HZ.out h64).mono ?_; rw [if_neg H0.out]; rintro e w1 ⟨rfl, hb1⟩; have HB1 := Lib.hid hb1; clear hb1))
      go_ret2
      exact npost_yes N.out H0.out HB1.out

end Go.Proofs.YtegbclfjcckglaaDoor
