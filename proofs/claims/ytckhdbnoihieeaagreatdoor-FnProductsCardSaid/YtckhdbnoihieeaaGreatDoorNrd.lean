/-
  What is proved here: how the program reads the text of a number, as a walk. Conditions: the text has at most 1048576 bytes.
-/
import Derived.Test.YtckhdbnoihieeaaGreatDoorHexB
import Derived.Test.YtckhdbnoihieeaaGreatDoorSimA
import Derived.Laws.RangeString
import Derived.Laws.RangeAny
import Derived.LoopTactic
namespace Go.Proofs.YtckhdbnoihieeaaGreatDoor
open Flt Go.RowKit

/-- the number with a text -/
def rdF (p : List UInt8) : Option Nat := if p.length = 8 then (hexR p).bind fun n => if bitsN n = n then some n else none else none
def rdFB (s : ByteArray) : Bool := (rdF s.data.toList).isSome
def rdFN (s : ByteArray) : Nat := (rdF s.data.toList).getD 0

theorem rdF_long {s : ByteArray} (h : ¬ s.size = 8) : rdFN s = 0 ∧ rdFB s = false := by
  have e : rdF s.data.toList = none := by unfold rdF; rw [if_neg (by simpa using h)]
  unfold rdFN rdFB
  rw [e]; exact ⟨rfl, rfl⟩
theorem rdF_bad {s : ByteArray} (h : hexR s.data.toList = none) : rdFN s = 0 ∧ rdFB s = false := by
  have e : rdF s.data.toList = none := by unfold rdF; rw [h]; split <;> rfl
  unfold rdFN rdFB
  rw [e]; exact ⟨rfl, rfl⟩
theorem rdF_not {s : ByteArray} {n : Nat} (h : hexR s.data.toList = some n) (hb : ¬ bitsN n = n) : rdFN s = 0 ∧ rdFB s = false := by
  have e : rdF s.data.toList = none := by unfold rdF; rw [h]; split <;> simp [hb]
  unfold rdFN rdFB
  rw [e]; exact ⟨rfl, rfl⟩
theorem rdF_is {s : ByteArray} {n : Nat} (h8 : s.size = 8) (h : hexR s.data.toList = some n) (hb : bitsN n = n) : rdFN s = n ∧ rdFB s = true := by
  have e : rdF s.data.toList = some n := by unfold rdF; rw [if_pos (by simpa using h8), h]; simp [hb]
  unfold rdFN rdFB
  rw [e]; exact ⟨rfl, rfl⟩

/-- a byte further -/
theorem takeH_next (s : ByteArray) (k : Nat) (h : k < s.size) : s.data.toList.take (k + 1) = s.data.toList.take k ++ [s[k]'h] := by
  rw [List.take_succ_eq_append_getElem (by simpa using h)]; rfl
theorem hexR_take {s : ByteArray} {k n : Nat} (h : k < s.size) (hr : hexR (s.data.toList.take k) = some n) : hexR (s.data.toList.take (k + 1)) = (valH (s[k]'h)).map fun d => 16 * n + d := by
  rw [takeH_next s k h, hexR_snoc, hr]; rfl
theorem hexR_end {s : ByteArray} {k : Nat} (hr : hexR (s.data.toList.take (k + 1)) = none) : hexR s.data.toList = none := by
  have e := (List.take_append_drop (k + 1) s.data.toList).symm
  rw [e]
  unfold hexR at hr ⊢
  rw [List.foldl_append, hr]
  exact hexR_none _
theorem hexR_bd {s : ByteArray} {k n : Nat} (hr : hexR (s.data.toList.take k) = some n) : n < 16 ^ k := by
  have := hexR_lt _ _ _ hr
  have hl : (s.data.toList.take k).length ≤ k := List.length_take_le _ _
  have : 16 ^ (s.data.toList.take k).length ≤ 16 ^ k := Nat.pow_le_pow_right (by decide) hl
  omega

/-- a digit's value, and whether there is one -/
def hvI (r : Int) : Int := if 48 ≤ r ∧ r ≤ 57 then r - 48 else if 97 ≤ r ∧ r ≤ 102 then r - 97 + 10 else 0
def hbI (r : Int) : Bool := decide (48 ≤ r ∧ r ≤ 57) || decide (97 ≤ r ∧ r ≤ 102)
theorem hbI_val (c : UInt8) : (valH c = none ∧ hbI c.toNat = false) ∨ ∃ d, valH c = some d ∧ d < 16 ∧ hbI c.toNat = true ∧ hvI c.toNat = d := by
  cases hv : valH c with
  | none =>
    left
    refine ⟨rfl, ?_⟩
    unfold valH at hv
    split at hv
    · cases hv
    · split at hv
      · cases hv
      · unfold hbI
        rw [decide_eq_false (by omega), decide_eq_false (by omega)]; rfl
  | some d =>
    right
    refine ⟨d, rfl, valH_lt hv, ?_⟩
    unfold valH at hv
    split at hv
    · injection hv with hv
      unfold hbI hvI
      rw [decide_eq_true (by omega), if_pos (by omega)]
      exact ⟨rfl, by omega⟩
    · split at hv
      · injection hv with hv
        unfold hbI hvI
        rw [decide_eq_true (p := 97 ≤ (c.toNat : Int) ∧ (c.toNat : Int) ≤ 102) (by omega), Bool.or_true, if_neg (by omega), if_pos (by omega)]
        exact ⟨rfl, by omega⟩
      · cases hv

theorem hexDig (r : Int) (h0 : 0 ≤ r) (h1 : r ≤ 2147483647) (w : World) :
    Calls Tryz.prog 72 #[.int .i32 r] w fun e w' => e = .returned (.tuple #[.int .i64 (hvI r), .bool (hbI r)]) ∧ w = w' := by
  by_cases a : 48 ≤ r ∧ r ≤ 57
  · obtain ⟨a1, a2⟩ := a
    have V : Hid (hvI r = r - 48 ∧ hbI r = true) := ⟨by unfold hvI; rw [if_pos ⟨a1, a2⟩], by unfold hbI; rw [decide_eq_true ⟨a1, a2⟩]; rfl⟩
    go_enter Tryz.func72, Tryz.ntmps72
    go_wp2
    go_ret2
    exact ⟨by rw [V.out.1, V.out.2]; rfl, rfl⟩
  · by_cases b : 97 ≤ r ∧ r ≤ 102
    · obtain ⟨b1, b2⟩ := b
      have V : Hid (hvI r = r - 97 + 10 ∧ hbI r = true) := ⟨by unfold hvI; rw [if_neg a, if_pos ⟨b1, b2⟩], by unfold hbI; rw [decide_eq_true (p := 97 ≤ r ∧ r ≤ 102) ⟨b1, b2⟩, Bool.or_true]⟩
      have a2 : 57 < r := by omega
      clear a
      go_enter Tryz.func72, Tryz.ntmps72
      go_wp2
      go_ret2
      exact ⟨by rw [V.out.1, V.out.2]; rfl, rfl⟩
    · have V : Hid (hvI r = 0 ∧ hbI r = false) := ⟨by unfold hvI; rw [if_neg a, if_neg b], by unfold hbI; rw [decide_eq_false a, decide_eq_false b]; rfl⟩
      rcases (show r < 48 ∨ (57 < r ∧ r < 97) ∨ 102 < r by omega) with c | ⟨c, c2⟩ | c
      all_goals
        clear a b
        go_enter Tryz.func72, Tryz.ntmps72
        go_wp2
        go_ret2
        exact ⟨by rw [V.out.1, V.out.2]; rfl, rfl⟩

/-- 'FromBits(n)' -/
theorem fromN (n : Nat) (h : (n : Int) ≤ 4294967295) (w : World) :
    Calls Tryz.prog 19 #[.int .i64 n] w fun e w' => e = .returned (.tuple #[.float .f32 n, .bool true]) ∧ w = w' :=
  (implFrom_yes (n : Int) (by omega) h w).mono fun e w' ⟨h1, h2⟩ => ⟨by rw [h1, Int.toNat_natCast], h2.symm⟩
theorem bitsN_call (n : Nat) (h : (n : Int) ≤ 4294967295) (w : World) :
    Calls Tryz.prog 20 #[.float .f32 n] w fun e w' => e = .returned (.int .i64 (bitsN n)) ∧ ∃ k, w' = w.drewN k := by
  have := implBits n ⟨by show n < 2 ^ 32; omega⟩ w
  rwa [bitsV_N] at this

/-- what readNumber gives -/
def NumPost (s : ByteArray) (w : World) (e : Ending) (w' : World) : Prop := e = .returned (.tuple #[.float .f32 (rdFN s), .bool (rdFB s)]) ∧ Below w.heap.size w w'
theorem numpost_no {s : ByteArray} {w w' : World} (h : rdFN s = 0 ∧ rdFB s = false) (hb : Below w.heap.size w w') : NumPost s w (.returned (.tuple #[.float .f32 0, .bool false])) w' := by
  refine ⟨?_, hb⟩
  rw [h.1, h.2]
theorem numpost_yes {s : ByteArray} {n : Nat} {w w' : World} (h : rdFN s = n ∧ rdFB s = true) (hb : Below w.heap.size w w') : NumPost s w (.returned (.tuple #[.float .f32 n, .bool true])) w' := by
  refine ⟨?_, hb⟩
  rw [h.1, h.2]
theorem below_iter (w : World) (s : ByteArray) (pos : Nat) : Below w.heap.size w (w.iter s pos) := (Below.refl _ _).alloc (Nat.le_refl _) _
theorem below_iterN (w : World) (s : ByteArray) (pos k : Nat) : Below w.heap.size w ((w.iter s pos).drewN k) :=
  let h := below_iter w s pos
  ⟨h.os, h.tape, h.output, h.size, h.block⟩

theorem decode_hi2 (s : ByteArray) (pos : Nat) (h : pos < s.size) (ha : ¬ (s[pos]'h).toNat < 128) : (128 : Int) ≤ ((Utf8.decode s pos).1 : Int) ∧ ((Utf8.decode s pos).1 : Int) ≤ 2147483647 := by
  have h1 := (decode_high s pos h (by omega)).1
  have h2 := decode_le s pos
  omega

set_option maxHeartbeats 1000000 in
theorem implNum (s : ByteArray) (w : World) :
    Calls Tryz.prog 60 #[.string s] w (NumPost s w) := by
  by_cases h8 : s.size = 8
  rotate_left 1
  · have N := Lib.hid (rdF_long h8)
    have hb0 : ((s.size : Int) == 8) = false := by simp; omega
    have hb1 : ((s.size : Int) != 8) = true := by simp; omega
    clear h8
    go_enter Tryz.func60, Tryz.ntmps60
    go_wp2_with fail
    go_ret2
    exact numpost_no N.out (Below.refl _ _)
  have hb0 : ((s.size : Int) == 8) = true := by simp; omega
  have hb1 : ((s.size : Int) != 8) = false := by simp; omega
  have H8 := Lib.hid h8
  have h8a : s.size ≤ 8 := by omega
  clear h8
  go_enter Tryz.func60, Tryz.ntmps60
  go_wp2_with fail
  clear hb0 hb1
  go_loopw [4] (fun b w' => ∃ pos n : Nat, pos ≤ s.size ∧ w' = w.iter s pos ∧ b = .int .i64 n ∧ Hid (hexR (s.data.toList.take pos) = some n)) (fun _ w' => s.size - w'.iterPos w.heap.size)
  case atStart => exact ⟨0, 0, Nat.zero_le _, rfl, rfl, rfl⟩
  case round =>
    obtain ⟨pos, n, hpos, rfl, rfl, hR⟩ := hrel
    have hbd := hexR_bd hR.out
    by_cases hlt : pos < s.size
    · have hn7 : n ≤ 268435455 := by
        have : 16 ^ pos ≤ 16 ^ 7 := Nat.pow_le_pow_right (by decide) (by omega)
        omega
      clear hbd
      by_cases ha : (s[pos]'hlt).toNat < 128
      · have hnx : ∀ ty, (Instr.next (.pointer (some ⟨w.heap.size, 0, none⟩)) true ty).run Tryz.prog (w.iter s pos) = _ := fun ty => run_next_ascii w s pos ty hlt ha
        have HT := Lib.hid (hexR_take hlt hR.out)
        have HX : Hid (∀ W, Calls Tryz.prog 72 #[.int .i32 ((s[pos]'hlt).toNat : Int)] W fun e w' => e = .returned (.tuple #[.int .i64 (hvI (s[pos]'hlt).toNat), .bool (hbI (s[pos]'hlt).toNat)]) ∧ W = w') := fun W => hexDig _ (by omega) (by omega) W
        rcases hbI_val (s[pos]'hlt) with ⟨h1, h2⟩ | ⟨d, h1, h2, h3, h4⟩
        · have N := Lib.hid (rdF_bad (hexR_end (k := pos) (by rw [HT.out, h1]; rfl)))
          rw [h2] at HX
          clear h1 h2 HT hR
          go_wp2_with (go_at_call 72; refine (HX.out _).mono ?_; rintro e w' ⟨rfl, rfl⟩)
          go_ret2
          exact numpost_no N.out (below_iter _ _ _)
        · have N : Hid (hexR (s.data.toList.take (pos + 1)) = some (16 * n + d)) := by show _ = _; rw [HT.out, h1]; rfl
          rw [h3, h4] at HX
          clear h1 h3 h4 HT hR
          go_wp2_with (go_at_call 72; refine (HX.out _).mono ?_; rintro e w' ⟨rfl, rfl⟩)
          go_roundw
          case rel => exact ⟨pos + 1, 16 * n + d, by omega, rfl, by go_num, N⟩
          case measure => simp; omega
      · have hnx : ∀ ty, (Instr.next (.pointer (some ⟨w.heap.size, 0, none⟩)) true ty).run Tryz.prog (w.iter s pos) = _ := fun ty => run_next_any w s pos ty hlt
        obtain ⟨d1, d2⟩ := decode_hi2 s pos hlt ha
        have HT := Lib.hid (hexR_take hlt hR.out)
        have hv : valH (s[pos]'hlt) = none := by unfold valH; rw [if_neg (by omega), if_neg (by omega)]
        have N := Lib.hid (rdF_bad (hexR_end (k := pos) (by rw [HT.out, hv]; rfl)))
        have hnb : hbI ((Utf8.decode s pos).1 : Int) = false := by unfold hbI; rw [decide_eq_false (by omega), decide_eq_false (by omega)]; rfl
        have HX : Hid (∀ W, Calls Tryz.prog 72 #[.int .i32 ((Utf8.decode s pos).1 : Int)] W fun e w' => e = .returned (.tuple #[.int .i64 (hvI ((Utf8.decode s pos).1 : Int)), .bool false]) ∧ W = w') := fun W => by
          have := hexDig ((Utf8.decode s pos).1 : Int) (by omega) d2 W
          rwa [hnb] at this
        clear hv HT hnb hR
        go_wp2_with (go_at_call 72; refine (HX.out _).mono ?_; rintro e w' ⟨rfl, rfl⟩)
        go_ret2
        exact numpost_no N.out (below_iter _ _ _)
    · have hnx : ∀ ty, (Instr.next (.pointer (some ⟨w.heap.size, 0, none⟩)) true ty).run Tryz.prog (w.iter s pos) = _ := fun ty => run_next_end w s pos ty hlt
      have hn8 : (n : Int) ≤ 4294967295 := by
        have : 16 ^ pos ≤ 16 ^ 8 := Nat.pow_le_pow_right (by decide) (by omega)
        omega
      have HE : Hid (hexR s.data.toList = some n) := by
        show _ = _
        rw [← hR.out, List.take_of_length_le (by simp; omega)]
      clear hbd hR
      by_cases hbn : bitsN n = n
      · have N := Lib.hid (rdF_is H8.out HE.out hbn)
        have HB : Hid (∀ W, Calls Tryz.prog 20 #[.float .f32 n] W fun e w' => e = .returned (.int .i64 (n : Nat)) ∧ ∃ k, w' = W.drewN k) := fun W => by
          have := bitsN_call n hn8 W
          rwa [hbn] at this
        clear hbn HE
        go_wp2_with (first | (go_at_call 19; refine (fromN _ hn8 _).mono ?_; rintro e w' ⟨rfl, rfl⟩) | (go_at_call 20; refine (HB.out _).mono ?_; rintro e w' ⟨rfl, k, rfl⟩))
        go_ret2
        exact numpost_yes N.out (below_iterN _ _ _ _)
      · have N := Lib.hid (rdF_not HE.out hbn)
        have hne : ((bitsN n : Int) == (n : Int)) = false := by simp; omega
        have hne2 : ((bitsN n : Int) != (n : Int)) = true := by simp; omega
        clear hbn HE
        go_wp2_with (first | (go_at_call 19; refine (fromN _ hn8 _).mono ?_; rintro e w' ⟨rfl, rfl⟩) | (go_at_call 20; refine (bitsN_call _ hn8 _).mono ?_; rintro e w' ⟨rfl, k, rfl⟩))
        go_ret2
        exact numpost_no N.out (below_iterN _ _ _ _)

end Go.Proofs.YtckhdbnoihieeaaGreatDoor
