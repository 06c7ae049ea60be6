/-
  What is proved here: the model's digits of a number, as a walk. Conditions: the word is a 32-bit one.
-/
import Derived.Test.YtegbclfjcckglaaDoorHex
import Derived.Test.YtegbclfjcckglaaDoorDec
import Derived.Test.YtegbclfjcckglaaDoorNum
namespace Go.Proofs.YtegbclfjcckglaaDoor
open Flt Go.RowKit

/-- a number's bits, those of not-a-numbers as one -/
def bitsN (x : Nat) : Nat := if nanW .f32 x = true then 2143289344 else x
theorem bitsV_N (x : Nat) : bitsV x = (bitsN x : Int) := by unfold bitsV bitsN; split <;> rfl
theorem bitsN_lt {x : Nat} (h : WF .f32 x) : bitsN x < 4294967296 := by
  have := h.lt32
  unfold bitsN; split <;> omega

theorem digH_at (m : Nat) (h : m < 16) (h2 : m < (⟨#[48, 49, 50, 51, 52, 53, 54, 55, 56, 57, 97, 98, 99, 100, 101, 102]⟩ : ByteArray).size) :
    ((⟨#[48, 49, 50, 51, 52, 53, 54, 55, 56, 57, 97, 98, 99, 100, 101, 102]⟩ : ByteArray)[m]'h2).toNat = (digH m).toNat := by
  have e : (((⟨#[48, 49, 50, 51, 52, 53, 54, 55, 56, 57, 97, 98, 99, 100, 101, 102]⟩ : ByteArray)[m]'h2).toNat : Int) = Lib.hexDigit m := Lib.lowerhex_at m h2
  have e2 := digH_val h
  unfold Lib.hexDigit at e
  split at e <;> split at e2 <;> omega

theorem mask15 (a : Nat) (h : a < 9223372036854775808) : bits .and .i64 (a : Int) 15 = ((a % 16 : Nat) : Int) := by
  have h2 : a &&& 15 ≤ a := Nat.and_le_left
  show IntKind.i64.wrap ((BitVec.ofInt 64 (a : Int) &&& BitVec.ofInt 64 (15 : Int)).toNat : Int) = _
  have e1 : (BitVec.ofInt 64 (a : Int)).toNat = a := by rw [BitVec.ofInt_natCast, BitVec.toNat_ofNat]; exact Nat.mod_eq_of_lt (by omega)
  have e2 : (BitVec.ofInt 64 (15 : Int)).toNat = 15 := by decide
  rw [BitVec.toNat_and, e1, e2, IntWalk.i64_in _ (by omega)]
  rw [show 15 = 2 ^ 4 - 1 from rfl, Nat.and_two_pow_sub_one_eq_mod]

theorem specHex (x : Nat) (hx : WF .f32 x) (w : World) :
    Calls Tryd.prog 122 #[.float .f32 x] w fun e w' => e = .returned (.string ⟨(hexN 8 (bitsN x)).toArray⟩) ∧ Below w.heap.size w w' := by
  obtain ⟨i0, hi, hz0, hz1, hz2⟩ := info_parts info_u8
  have HI := Lib.hid (And.intro hi (And.intro hz0 (And.intro hz1 hz2)))
  have O0 : Hid (OwnB (w.alloc (.cells #[] 5)) w.heap.size [] w.heap.size 0) := World.ownsRow_lit w #[] 0 (Nat.le_refl _) (by decide) rfl
  have B0 : Hid (Below w.heap.size w (w.alloc (.cells #[] 5))) := (Below.refl _ _).alloc (Nat.le_refl _) _
  have HB : Hid (Calls Tryd.prog 126 #[.float .f32 x] w fun e w' => e = .returned (.int .i64 (bitsN x)) ∧ w = w') := by
    have := specBits x hx w
    rw [bitsV_N] at this
    exact this.mono fun _ _ ⟨h1, h2⟩ => ⟨h1, h2.symm⟩
  have hN := bitsN_lt hx
  generalize bitsN x = N at *
  clear hi hz0 hz1 hz2
  go_enter Tryd.func122, Tryd.ntmps122
  go_wp2_with (go_at_call 126; refine HB.out.mono ?_; rintro e w' ⟨rfl, rfl⟩)
  generalize w.alloc (.cells #[] 5) = w1 at *
  have hZ : Hid (w.heap.size ≤ w1.heap.size) := B0.out.size
  generalize hG : w.heap.size = G at *
  have HG := Lib.hid hG
  clear hG HB hZ
  go_loopw [4, 5] (fun o q wr => ∃ (L : List UInt8) (g c : Nat), o = .slice (some ⟨g, 0, none⟩) L.length c ∧ q = .int .i64 (28 - 4 * (L.length : Int)) ∧ L.length ≤ 8 ∧ Hid (L = hexN L.length (N / 16 ^ (8 - L.length))) ∧ Hid (OwnB wr G L g c) ∧ Hid (Below G w wr)) (fun _ q _ => (intOf q + 4).toNat)
  case atStart => exact ⟨[], _, _, rfl, rfl, by decide, rfl, O0, B0⟩
  case round =>
    obtain ⟨L, g, c, rfl, rfl, hL, hE, hO, hB⟩ := hrel
    have hsz : Hid (G ≤ wr.heap.size) := by show G ≤ wr.heap.size; rw [← HG.out]; exact hB.out.size
    by_cases hlt : L.length < 8
    · obtain ⟨K, hK, hK28⟩ : ∃ K : Nat, (28 - 4 * (L.length : Int)) = K ∧ K ≤ 28 := ⟨28 - 4 * L.length, by omega, by omega⟩
      obtain ⟨m, hm⟩ : ∃ m : Nat, m = N / 16 ^ (7 - L.length) % 16 := ⟨_, rfl⟩
      have hm16 : m < 16 := by omega
      have hm0 : (0 : Int) ≤ (m : Int) := by omega
      have hm1 : (m : Int) < 16 := by omega
      have hq : bits BinOp.and IntKind.i64 ((N : Int) / 2 ^ K) 15 = ((m : Nat) : Int) := by
        have hp : (2 : Nat) ^ K = 16 ^ (7 - L.length) := by
          rw [show (16 : Nat) = 2 ^ 4 from rfl, ← Nat.pow_mul]; congr 1; omega
        have e : ((N : Int) / 2 ^ K) = ((N / 16 ^ (7 - L.length) : Nat) : Int) := by
          rw [← hp]; simp
        have := Nat.div_le_self N (16 ^ (7 - L.length))
        rw [e, mask15 _ (by omega), hm]
      have hd := digH_at m hm16
      have HN : Hid (L ++ [digH m] = hexN (L ++ [digH m]).length (N / 16 ^ (8 - (L ++ [digH m]).length))) := by
        show _ = _
        rw [List.length_append, List.length_singleton, show 8 - (L.length + 1) = 7 - L.length by omega, hexN_step _ _ hlt, ← hm, ← hE.out]
      have hl : (L ++ [digH m]).length = L.length + 1 := by simp
      have HLn := Lib.hid hl
      rw [hK]
      have HK := Lib.hid hK
      clear hK hm hl hE
      go_wp2_with (at_builtin; refine wpList_append_own _ rfl _ _ 104 rfl G 5 i0 (.int .u8 0) 1 1 Tryd.underlying104 HI.out.1 HI.out.2.1 HI.out.2.2.1 HI.out.2.2.2 rfl (by decide) _ L.length (bytesV L) rfl (World.ownsRow.alloc hO.out _) ⟨wr.heap.size, 0, none⟩ 1 1 (bytesV [digH m]) rfl rfl (World.ownsRow.cells (own_lit1 hsz.out rfl) rfl) (bytesV_one [digH m]) (by unfold maxLen; omega) (by omega) (by simp; exact Nat.le_succ_of_le hsz.out) ?_)
      intro v' w2 h2 hg2 hv2
      obtain ⟨g2, c2, rfl, O2⟩ := OwnB.of (L := L ++ [digH m]) (by unfold bytesV at h2 ⊢; rw [List.map_append]; exact h2) (by rw [HLn.out]) hv2
      have HB2 := Lib.hid ((hB.out.alloc hsz.out _).grown hg2 (by simp; exact Nat.le_succ_of_le hsz.out) (fun q hq => by obtain rfl := Option.some.inj hq; exact (World.ownsRow.lt hO.out g rfl).1))
      have HO2 := Lib.hid O2
      clear hv2 hg2 h2 O2 hq hd hO hB
      go_wp2_with fail
      go_roundw
      case rel => exact ⟨L ++ [digH m], g2, c2, by first | rfl | simp, by rw [HLn.out, ← HK.out]; go_num, by rw [HLn.out]; omega, HN, HO2, HB2⟩
      case measure => simp [intOf]; omega
    · have hl8 : L.length = 8 := by omega
      have HN : Hid (L = hexN 8 N) := by
        show L = _
        have := hE.out
        rw [hl8, Nat.sub_self, Nat.pow_zero, Nat.div_one] at this
        exact this
      have hstr := hO.out.str
      have HL8 := Lib.hid hl8
      rw [show (28 - 4 * (L.length : Int)) = -4 by omega]
      clear hl8 hN
      go_wp2_with fail
      go_ret
      exact ⟨by rw [HN.out]; rfl, by rw [← HG.out] at hB; exact hB.out⟩

end Go.Proofs.YtegbclfjcckglaaDoor
