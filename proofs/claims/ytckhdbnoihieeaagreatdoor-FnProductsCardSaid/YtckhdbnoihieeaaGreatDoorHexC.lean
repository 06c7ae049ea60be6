/-
  What is proved here: the program's digits of a number, as a walk: the library's FormatInt in base 16, Repeat, and what is made of both. Conditions: the word is a 32-bit one; the library's table holds what it lays.
-/
import Derived.Test.YtckhdbnoihieeaaGreatDoorHexB
import Derived.WalkKit
import Derived.Lib.ItoaWalk
import Derived.OpenShut
namespace Go.Proofs.YtckhdbnoihieeaaGreatDoor
open Flt Go.RowKit

/-- the table's place that is read for 16 -/
def Tz (w : World) : Prop := w.cell? ⟨6, 15, none⟩ = some (.int .u8 4)

theorem tz_key : IntKind.u64.wrap (bits BinOp.and IntKind.u64 16 (IntKind.u64.wrap (-16)) * 285870213051353865) / 288230376151711744 = 15 := by decide

theorem tz64 (w : World) (ht : Tz w) : Calls Tryz.prog 109 #[.int .u64 16] w fun e w' => e = .returned (.int .i64 4) ∧ w = w' := by
  unfold Tz at ht
  have hk := tz_key
  go_enter Tryz.func109, Tryz.ntmps109
  go_wp2_with fail
  go_ret
  exact ⟨rfl, rfl⟩

theorem tz (w : World) (ht : Tz w) : Calls Tryz.prog 102 #[.int .u64 16] w fun e w' => e = .returned (.int .i64 4) ∧ w = w' := by
  have HT := Lib.hid (tz64 w ht)
  clear ht
  go_enter Tryz.func102, Tryz.ntmps102
  go_wp2_with (go_at_call 109; refine HT.out.mono ?_; rintro e w' ⟨rfl, rfl⟩)
  go_ret
  exact ⟨rfl, rfl⟩

theorem pow2 (w : World) : Calls Tryz.prog 101 #[.int .i64 16] w fun e w' => e = .returned (.bool true) ∧ w = w' := by
  go_enter Tryz.func101, Tryz.ntmps101
  go_wp2
  go_ret
  exact ⟨rfl, rfl⟩

/-- the end of the array, written -/
structure Tail (w : World) (G i : Nat) (L : List UInt8) : Prop where
  size : G < w.heap.size
  len : i + L.length = 65
  cell : ∀ j, j < L.length → w.cell? ⟨G, i + j, none⟩ = some (.int .u8 ((L.getD j 0).toNat : Int))
  all : ∀ j, j < 65 → ∃ v, w.cell? ⟨G, j, none⟩ = some v
  free : ∀ j, w.frozen? ⟨G, j, none⟩ = false

theorem Tail.step {w : World} {G i : Nat} {L : List UInt8} {c : UInt8} {x : Int} (h : Tail w G (i + 1) L) (hx : x = (c.toNat : Int)) : Tail (w.setCell ⟨G, i, none⟩ (.int .u8 x)) G i (c :: L) := by
  subst hx
  have hl := h.len
  obtain ⟨v, hv⟩ := h.all i (by omega)
  refine ⟨by have := h.size; simpa [World.setCell] using this, by rw [List.length_cons]; omega, fun j hj => ?_, fun j hj => ?_, fun j => by rw [World.frozen?_setCell]; exact h.free j⟩
  · cases j with
    | zero => rw [Nat.add_zero, World.cell?_setCell_same w _ _ hv]; rfl
    | succ j =>
      rw [World.cell?_setCell_other w _ _ _ (by intro h; injection h with _ h2 _; omega), show i + (j + 1) = i + 1 + j by omega, h.cell j (by simp at hj; omega)]
      rfl
  · by_cases e : j = i
    · subst e; exact ⟨_, World.cell?_setCell_same w _ _ hv⟩
    · obtain ⟨u, hu⟩ := h.all j hj
      exact ⟨u, by rw [World.cell?_setCell_other w _ _ _ (by intro h; injection h with _ h2 _; omega)]; exact hu⟩

theorem mask15u (a : Nat) (h : a < 18446744073709551616) : bits .and .u64 (a : Int) 15 = ((a % 16 : Nat) : Int) := by
  rw [show (15 : Int) = ((15 : Nat) : Int) from rfl, bits_and_u64_nat a 15 h (by decide)]
  rw [show 15 = 2 ^ 4 - 1 from rfl, Nat.and_two_pow_sub_one_eq_mod]

theorem Tz.lt {w : World} (h : Tz w) : 6 < w.heap.size := by
  rcases Nat.lt_or_ge 6 w.heap.size with h1 | h1
  · exact h1
  · exfalso; unfold Tz at h; simp [World.cell?, Array.getElem?_eq_none h1] at h
theorem Tz.below {w w' : World} (h : Tz w) (hb : Below w.heap.size w w') : Tz w' := by
  unfold Tz; rw [hb.cell h.lt]; exact h
theorem Tz.alloc {w : World} (h : Tz w) (o : Obj) : Tz (w.alloc o) := h.below ((Below.refl _ _).alloc (Nat.le_refl _) _)

theorem zc65 : Tryz.zeroCells131.size = 65 := by kernel_rfl
theorem tail_start (w : World) : Tail (w.alloc (.cells Tryz.zeroCells131 131)) w.heap.size 65 [] := by
  refine ⟨by simp, rfl, fun j hj => absurd hj (Nat.not_lt_zero _), fun j hj => ?_, fun j => ?_⟩
  · have hz : j < Tryz.zeroCells131.size := by rw [zc65]; exact hj
    have h : Tryz.zeroCells131[j]? = some (Tryz.zeroCells131[j]'hz) := Array.getElem?_eq_getElem hz
    exact ⟨_, by simp [World.cell?, World.alloc, -World.alloc_eq, h]; rfl⟩
  · simp [World.frozen?, World.alloc, -World.alloc_eq]

theorem dig36_at : ∀ (m : Nat), m < 16 → ∀ (h2 : m < (⟨#[48, 49, 50, 51, 52, 53, 54, 55, 56, 57, 97, 98, 99, 100, 101, 102, 103, 104, 105, 106, 107, 108, 109, 110, 111, 112, 113, 114, 115, 116, 117, 118, 119, 120, 121, 122]⟩ : ByteArray).size), ((⟨#[48, 49, 50, 51, 52, 53, 54, 55, 56, 57, 97, 98, 99, 100, 101, 102, 103, 104, 105, 106, 107, 108, 109, 110, 111, 112, 113, 114, 115, 116, 117, 118, 119, 120, 121, 122]⟩ : ByteArray)[m]'h2).toNat = (digH m).toNat
  | 0, _, _ => rfl
  | 1, _, _ => rfl
  | 2, _, _ => rfl
  | 3, _, _ => rfl
  | 4, _, _ => rfl
  | 5, _, _ => rfl
  | 6, _, _ => rfl
  | 7, _, _ => rfl
  | 8, _, _ => rfl
  | 9, _, _ => rfl
  | 10, _, _ => rfl
  | 11, _, _ => rfl
  | 12, _, _ => rfl
  | 13, _, _ => rfl
  | 14, _, _ => rfl
  | 15, _, _ => rfl
  | (x + 16), h, _ => absurd h (by omega)

theorem al65 : Tryz.prog.arrayLen 131 = 65 := by kernel_rfl
theorem ul65 : Tryz.prog.underlying 131 = some (.array (Tryz.prog.arrayLen 131) (Tryz.prog.elem 131)) := by kernel_rfl
theorem el65 : Tryz.prog.elem 131 = 5 := by kernel_rfl
theorem sl65 (W : World) (G i n : Nat) (h : i + n = 65) (h0 : 1 ≤ n) : (Instr.sliceAt 131 (.pointer (some ⟨G, 0, none⟩)) (some (.int .i64 (i : Int))) none none).run Tryz.prog W = .ok (.slice (some ⟨G, i, none⟩) n n) W := by
  have hz : (sizeOf (Tryz.prog.elem 131)).run Tryz.prog W = .ok 1 W := by rw [el65]; exact Tryz.sizeOf5 W
  rw [run_sliceAt_array_l W _ _ ul65 .i64 (i : Int) (by omega) (by rw [al65]; omega), hz, al65]
  show Result.ok (slicedAt ⟨G, 0, none⟩ (Int.toNat (i : Int)) 65 65 1) W = _
  unfold slicedAt
  rw [Int.toNat_natCast, if_neg (by omega), show 65 - i = n by omega]
  simp [Addr.add]
  try omega

/-- so many digits are left -/
theorem hex_room {n u : Nat} {L : List UInt8} (hn : n < 4294967296) (h : hexMin n = hexMin u ++ L) (hu : u < 4294967296) : L.length ≤ 7 := by
  have h1 := hexMin_length 7 n (by simpa using hn)
  have h2 := hexMin_length 7 u (by simpa using hu)
  have := congrArg List.length h
  rw [List.length_append] at this
  omega

set_option maxRecDepth 100000 in
set_option maxHeartbeats 2000000 in
theorem fmtBits (n : Nat) (hn : n < 4294967296) (w : World) (ht : Tz w) :
    Calls Tryz.prog 90 #[.slice none 0 0, .int .u64 n, .int .i64 16, .bool false, .bool false] w fun e w' => e = .returned (.tuple #[.slice none 0 0, .string ⟨(hexMin n).toArray⟩]) ∧ Below w.heap.size w w' := by
  have HT := Lib.hid ht
  have T0 := Lib.hid (tail_start w)
  have B0 : Hid (Below w.heap.size w (w.alloc (.cells Tryz.zeroCells131 131))) := (Below.refl _ _).alloc (Nat.le_refl _) _
  have HN := Lib.hid hn
  clear ht hn
  go_enter Tryz.func90, Tryz.ntmps90
  go_wp2_with (first | (go_at_call 101; refine (pow2 _).mono ?_; rintro e w' ⟨rfl, rfl⟩) | (go_at_call 102; refine (tz _ (HT.out.alloc _)).mono ?_; rintro e w' ⟨rfl, rfl⟩))
  generalize w.alloc (.cells Tryz.zeroCells131 131) = w1 at *
  generalize hG : w.heap.size = G at *
  have HG := Lib.hid hG
  clear hG
  go_loopw [1, 13] (fun q i wr => ∃ (u k : Nat) (L : List UInt8), q = .int .u64 u ∧ i = .int .i64 k ∧ u ≤ 4294967295 ∧ 58 ≤ k ∧ k ≤ 65 ∧ Hid (hexMin n = hexMin u ++ L) ∧ Hid (Tail wr G k L) ∧ Hid (Below G w wr)) (fun q _ _ => (intOf q).toNat)
  case atStart => exact ⟨n, 65, [], rfl, rfl, by have := HN.out; omega, by omega, by omega, by show _ = _; rw [List.append_nil], T0, B0⟩
  case round =>
    obtain ⟨u, k, L, rfl, rfl, hu, hk1, hk2, hE, hT, hB⟩ := hrel
    have hlen := hT.out.len
    obtain ⟨i, rfl⟩ : ∃ i, k = i + 1 := ⟨k - 1, by omega⟩
    have hd : ∃ v, wr.cell? ⟨G, i, none⟩ = some v := hT.out.all i (by omega)
    obtain ⟨v, hd⟩ := hd
    have hf := hT.out.free i
    have hi64 : i ≤ 64 := by omega
    by_cases hbig : 16 ≤ u
    · obtain ⟨m, hm⟩ : ∃ m : Nat, m = u % 16 := ⟨_, rfl⟩
      have hm16 : m < 16 := by omega
      have hE2 : Hid (hexMin n = hexMin (u / 16) ++ (digH m :: L)) := by
        show _ = _
        rw [hE.out, hexMin_big (by omega), hm, List.append_assoc]; rfl
      have hroom := hex_room HN.out hE2.out (by omega)
      have hq : bits BinOp.and IntKind.u64 (u : Int) 15 = ((m : Nat) : Int) := by rw [mask15u _ (by omega), hm]
      have hm0 : (0 : Int) ≤ (m : Int) := by omega
      have hm1 : (m : Int) < 36 := by omega
      have hdg := dig36_at m hm16
      have hT2 : Hid (Tail (wr.setCell ⟨G, i, none⟩ (.int .u8 ((digH m).toNat : Int))) G i (digH m :: L)) := hT.out.step rfl
      have hB2 : Hid (Below G w (wr.setCell ⟨G, i, none⟩ (.int .u8 ((digH m).toNat : Int)))) := hB.out.setCell (Nat.le_refl _) _
      have hlen2 := hT2.out.len
      simp only [List.length_cons] at hroom hlen2
      clear hm hE hT hB
      go_wp2_with fail
      go_roundw
      case rel => exact ⟨u / 16, i, digH m :: L, by go_num, by go_num, by omega, by omega, by omega, hE2, hT2, hB2⟩
      case measure => simp [intOf]; omega
    · have hu16 : u < 16 := by omega
      have hE2 : Hid (hexMin n = digH u :: L) := by
        show _ = _
        rw [hE.out, hexMin_small hu16]; rfl
      have hm0 : (0 : Int) ≤ (u : Int) := by omega
      have hm1 : (u : Int) < 36 := by omega
      have hdg := dig36_at u hu16
      have hT2 : Hid (Tail (wr.setCell ⟨G, i, none⟩ (.int .u8 ((digH u).toNat : Int))) G i (digH u :: L)) := hT.out.step rfl
      have hB2 : Hid (Below G w (wr.setCell ⟨G, i, none⟩ (.int .u8 ((digH u).toNat : Int)))) := hB.out.setCell (Nat.le_refl _) _
      have hlen2 := hT2.out.len
      obtain ⟨D, hD⟩ : ∃ D, D = digH u :: L := ⟨_, rfl⟩
      rw [← hD] at hT2 hE2 hlen2
      have hD1 : 1 ≤ D.length := by rw [hD]; simp
      clear hD
      have hsl := sl65 (wr.setCell ⟨G, i, none⟩ (.int .u8 ((digH u).toNat : Int))) G i D.length hlen2 hD1
      have hstr := run_convert_bytes_back (P := Tryz.prog) (wr.setCell ⟨G, i, none⟩ (.int .u8 ((digH u).toNat : Int))) _ _ _ ⟨G, i, none⟩ D.length D Tryz.underlying22 Tryz.underlying5 Tryz.underlying9 (fun j hj => by
        have := hT2.out.cell j hj
        rw [Go.WideShapes.add_plain, this, List.getD, List.getElem?_eq_getElem hj]; rfl)
      clear hE hT hB hlen2 hlen
      go_wp2_with fail
      go_ret2
      exact ⟨by rw [hE2.out]; rfl, by rw [HG.out]; exact hB2.out⟩

/-- 'strconv.FormatInt(n, 16)' -/
theorem fmt16 (n : Nat) (hn : n < 4294967296) (w : World) (ht : Tz w) :
    Calls Tryz.prog 69 #[.int .i64 n, .int .i64 16] w fun e w' => e = .returned (.string ⟨(hexMin n).toArray⟩) ∧ Below w.heap.size w w' := by
  have HF := Lib.hid (fmtBits n hn w ht)
  have h1 : (0 : Int) ≤ n := by omega
  have h2 : (n : Int) ≤ 4294967295 := by omega
  clear ht hn
  go_enter Tryz.func69, Tryz.ntmps69
  go_wp2_with (first | (go_at_call 90; refine HF.out.mono ?_; rintro e w' ⟨rfl, hb⟩; have HB := Lib.hid hb; clear hb) | go_in)
  go_ret
  exact ⟨rfl, HB.out⟩

end Go.Proofs.YtckhdbnoihieeaaGreatDoor
