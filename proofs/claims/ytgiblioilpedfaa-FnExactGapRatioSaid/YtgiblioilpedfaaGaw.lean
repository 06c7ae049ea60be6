/-
  What is proved here: the sum of masses, of both packages, and the program's row of masses as 32-bit numbers, as walks. Conditions: at most 1048576 masses.
-/
import Derived.Test.YtgiblioilpedfaaGap
import Derived.Test.YtgiblioilpedfaaInb
import Derived.Test.YtgiblioilpedfaaGrg
namespace Go.Proofs.Ytgiblioilpedfaa
open Flt Go.RowKit
set_option linter.unusedVariables false

def msS (z : List Int) : Nat → Int
  | 0 => 0
  | k + 1 => msS z k + atI z k
def msK (z : List Int) : Nat → Bool
  | 0 => true
  | k + 1 => msK z k && inB (atI z k) 0 1000000
def msB (z : List Int) : Bool := inB (z.length : Int) 1 256 && msK z z.length && decide (0 < msS z z.length)
theorem msK_at {z : List Int} {n : Nat} (h : msK z n = true) : ∀ j, j < n → 0 ≤ atI z j ∧ atI z j ≤ 1000000 := by
  induction n with
  | zero => intro j hj; exact absurd hj (Nat.not_lt_zero _)
  | succ n ih =>
    intro j hj
    have h2 : (msK z n && inB (atI z n) 0 1000000) = true := h
    rw [Bool.and_eq_true] at h2
    by_cases e : j = n
    · subst e; exact inB_yes h2.2
    · exact ih h2.1 j (by omega)
theorem msK_no {z : List Int} {k n : Nat} (hk : k < n) (h : inB (atI z k) 0 1000000 = false) : msK z n = false := by
  cases e : msK z n with
  | false => rfl
  | true => have := msK_at e k hk; rw [inB_in this.1 this.2] at h; cases h
theorem msS_bd {z : List Int} {n : Nat} (h : msK z n = true) : 0 ≤ msS z n ∧ msS z n ≤ 1000000 * n := by
  induction n with
  | zero => exact ⟨Int.le_refl 0, by show (0 : Int) ≤ _; simp⟩
  | succ n ih =>
    have h2 : (msK z n && inB (atI z n) 0 1000000) = true := h
    rw [Bool.and_eq_true] at h2
    obtain ⟨a, b⟩ := ih h2.1
    obtain ⟨c, d⟩ := inB_yes h2.2
    show 0 ≤ msS z n + atI z n ∧ msS z n + atI z n ≤ _
    omega
theorem msS_pos {z : List Int} {n : Nat} (h : 0 < msS z n) : ∃ j, j < n ∧ 1 ≤ atI z j := by
  induction n with
  | zero => exact absurd h (Int.lt_irrefl 0)
  | succ n ih =>
    have h2 : 0 < msS z n + atI z n := h
    by_cases e : 0 < msS z n
    · obtain ⟨j, a, b⟩ := ih e; exact ⟨j, by omega, b⟩
    · exact ⟨n, by omega, by omega⟩

theorem specSm (A : Option Addr) (c : Nat) (z : List Int) (w : World) (Z : Nat) (hr : RowV w Z A z.length (iv (atI z))) (hn : z.length ≤ 1048576) :
    Calls Try.prog 141 #[.slice A z.length c] w fun e w' => ∃ s, e = .returned (.tuple #[.int .i64 s, .bool (msB z)]) ∧ w = w' := by
  by_cases h1 : 1 ≤ z.length
  rotate_left
  · have N : Hid (msB z = false) := by show _ = _; unfold msB; rw [inB_out (by omega)]; rfl
    have h2 : (z.length : Int) < 1 := by omega
    go_enter Try.func141, Try.ntmps141
    go_wp2_with fail
    go_ret2
    exact ⟨0, by rw [N.out]; rfl, rfl⟩
  by_cases h2 : z.length ≤ 256
  rotate_left
  · have N : Hid (msB z = false) := by show _ = _; unfold msB; rw [inB_out (by omega)]; rfl
    have h3 : 256 < z.length := by omega
    go_enter Try.func141, Try.ntmps141
    go_wp2_with fail
    go_ret2
    exact ⟨0, by rw [N.out]; rfl, rfl⟩
  have HR := Lib.hid hr
  have HI := Lib.hid (inB_in (n := (z.length : Int)) (lo := 1) (hi := 256) (by omega) (by omega))
  clear hr
  go_enter Try.func141, Try.ntmps141
  go_wp2_with fail
  go_loopw [4, 5] (fun o i wr => ∃ (k : Nat), k ≤ z.length ∧ i = .int .i64 k ∧ o = .int .i64 (msS z k) ∧ Hid (msK z k = true) ∧ wr = w) (fun _ i _ => z.length - (intOf i).toNat)
  case atStart => exact ⟨0, Nat.zero_le _, rfl, rfl, rfl, rfl⟩
  case round =>
    obtain ⟨k, hk, rfl, rfl, hK, rfl⟩ := hrel
    obtain ⟨b0, b1⟩ := msS_bd hK.out
    by_cases hlt : k < z.length
    · obtain ⟨b, off, rfl, hb, hcell⟩ := HR.out (by omega)
      have hc := hcell k hlt
      unfold iv at hc
      have HD := Lib.hid (fun W => inS_any (atI z k) 0 1000000 W)
      clear hcell
      cases hin : inB (atI z k) 0 1000000
      · have N : Hid (msB z = false) := by show _ = _; unfold msB; rw [msK_no hlt hin, Bool.and_false]; rfl
        rw [hin] at HD
        clear hin
        go_wp2_with (go_at_call 105; refine (HD.out _).mono ?_; rintro e w' ⟨rfl, rfl⟩)
        go_ret2
        exact ⟨0, by rw [N.out]; rfl, rfl⟩
      · obtain ⟨d0, d1⟩ := inB_yes hin
        have K2 : Hid (msK z (k + 1) = true) := by show (msK z k && inB (atI z k) 0 1000000) = true; rw [hK.out, hin]; rfl
        have S2 : Hid (msS z (k + 1) = msS z k + atI z k) := rfl
        rw [hin] at HD
        clear hin
        generalize atI z k = a at *
        generalize msS z k = s at *
        go_wp2_with (go_at_call 105; refine (HD.out _).mono ?_; rintro e w' ⟨rfl, rfl⟩)
        go_roundw
        case rel => exact ⟨k + 1, by omega, by go_num, by rw [S2.out], K2, by trivial⟩
        case measure => simp [intOf]; omega
    · have ek : Hid (k = z.length) := by show _ = _; omega
      have N : Hid (decide (0 < msS z k) = msB z) := by show _ = _; unfold msB; rw [← ek.out, hK.out]; rw [← ek.out] at HI; rw [HI.out]; rfl
      go_wp2_with fail
      go_ret2
      exact ⟨msS z k, by rw [← N.out]; rfl, rfl⟩

theorem implSm (A : Option Addr) (c : Nat) (z : List Int) (w : World) (Z : Nat) (hr : RowV w Z A z.length (iv (atI z))) (hn : z.length ≤ 1048576) :
    Calls Try.prog 144 #[.slice A z.length c] w fun e w' => ∃ s : Int, e = .returned (.int .i64 s) ∧ Hid ((s == 0) = !msB z) ∧ w = w' := by
  by_cases h2 : z.length ≤ 256
  rotate_left
  · have N : Hid (msB z = false) := by show _ = _; unfold msB; rw [inB_out (by omega)]; rfl
    have h3 : 256 < z.length := by omega
    go_enter Try.func144, Try.ntmps144
    go_wp2_with fail
    go_ret
    exact ⟨0, rfl, by show _ = _; rw [N.out]; rfl, rfl⟩
  have HR := Lib.hid hr
  clear hr
  go_enter Try.func144, Try.ntmps144
  go_wp2_with fail
  go_loopw [3, 11] (fun o i wr => ∃ (k : Nat), k ≤ z.length ∧ i = .int .i64 k ∧ o = .int .i64 (msS z k) ∧ Hid (msK z k = true) ∧ wr = w) (fun _ i _ => z.length - (intOf i).toNat)
  case atStart => exact ⟨0, Nat.zero_le _, rfl, rfl, rfl, rfl⟩
  case round =>
    obtain ⟨k, hk, rfl, rfl, hK, rfl⟩ := hrel
    obtain ⟨b0, b1⟩ := msS_bd hK.out
    by_cases hlt : k < z.length
    · obtain ⟨b, off, rfl, hb, hcell⟩ := HR.out (by omega)
      have hc := hcell k hlt
      unfold iv at hc
      have HD := Lib.hid (fun W => within_any (atI z k) 0 1000000 W)
      clear hcell
      cases hin : inB (atI z k) 0 1000000
      · have N : Hid (msB z = false) := by show _ = _; unfold msB; rw [msK_no hlt hin, Bool.and_false]; rfl
        rw [hin] at HD
        clear hin
        go_wp2_with (go_at_call 110; refine (HD.out _).mono ?_; rintro e w' ⟨rfl, rfl⟩)
        go_ret
        exact ⟨0, rfl, by show _ = _; rw [N.out]; rfl, rfl⟩
      · obtain ⟨d0, d1⟩ := inB_yes hin
        have K2 : Hid (msK z (k + 1) = true) := by show (msK z k && inB (atI z k) 0 1000000) = true; rw [hK.out, hin]; rfl
        have S2 : Hid (msS z (k + 1) = msS z k + atI z k) := rfl
        rw [hin] at HD
        clear hin
        generalize atI z k = a at *
        generalize msS z k = s at *
        go_wp2_with (go_at_call 110; refine (HD.out _).mono ?_; rintro e w' ⟨rfl, rfl⟩)
        go_roundw
        case rel => exact ⟨k + 1, by omega, by go_num, by rw [S2.out], K2, by trivial⟩
        case measure => simp [intOf]; omega
    · have ek : Hid (k = z.length) := by show _ = _; omega
      have N : Hid ((msS z k == 0) = !msB z) := by
        show _ = _
        by_cases h0 : z.length = 0
        · have : k = 0 := by omega
          subst this
          unfold msB
          rw [inB_out (by omega)]; rfl
        · unfold msB
          rw [inB_in (by omega) (by omega), ← ek.out, hK.out]
          by_cases hp : 0 < msS z k
          · rw [decide_eq_true hp, beq_eq_false_iff_ne.2 (by omega)]; rfl
          · rw [decide_eq_false hp, show msS z k = 0 by omega]; rfl
      go_wp2_with fail
      go_ret
      exact ⟨_, rfl, N, rfl⟩

/-- masses as words -/
def wzL (z : List Int) : List Nat := z.map fun a => floatOfInt .f32 a
theorem wzL_len (z : List Int) : (wzL z).length = z.length := by unfold wzL; rw [List.length_map]
theorem wzL_at {z : List Int} {j : Nat} (h : j < z.length) : at0 (wzL z) j = floatOfInt .f32 (atI z j) := by
  unfold wzL at0 atI
  rw [List.getD_eq_getElem?_getD, List.getElem?_map, List.getD_eq_getElem?_getD, List.getElem?_eq_getElem h]; rfl
theorem info_f32G : (Try.prog.info? 25).map (fun i => (i.zero, i.size, i.bytes)) = some (some (.float .f32 0), 1, 4) := by kernel_rfl
theorem run_mkFG (n : Nat) (hn : n ≤ 1048576) : ∀ W : World, (Instr.makeSlice 22 (.int .i64 (n : Int)) (.int .i64 (n : Int))).run Try.prog W = .ok (.slice (some ⟨W.heap.size, 0, none⟩) n n) (W.alloc (.cells (madeCells #[.float .f32 0] n) 25)) := by
  obtain ⟨i0, hi, hz0, hz1, hz2⟩ := info_parts info_f32G
  have hmk := fun W => run_make_rowN (P := Try.prog) 22 25 i0 (.float .f32 0) Try.underlying22 hi hz0 .i64 .i64 n n (Nat.le_refl _) (by rw [hz2]; omega) (by omega) W
  rw [hz1, Nat.mul_one] at hmk
  exact hmk
def fwV (z : List Int) (k : Nat) : Nat → Value := fun j => if j < k then .float .f32 (floatOfInt .f32 (atI z j)) else .float .f32 0
theorem fwV_put (z : List Int) (k : Nat) : ∀ j, put (fwV z k) k (.float .f32 (floatOfInt .f32 (atI z k))) j = fwV z (k + 1) j := fun j => by
  unfold put fwV
  by_cases e : j = k
  · subst e; rw [if_pos rfl, if_pos (by omega)]
  · rw [if_neg e]
    by_cases h : j < k
    · rw [if_pos h, if_pos (by omega)]
    · rw [if_neg h, if_neg (by omega)]
theorem run_store_fl (P : Program) (w : World) (a : Addr) (m : Mode) (v : Nat) : (store a (.float .f32 v) m).run P w = stored P w a (.float .f32 v) m := run_store P w a _ m rfl
attribute [local go_sem] run_store_fl
theorem implNums (A : Option Addr) (c : Nat) (z : List Int) (w : World) (hr : RowV w w.heap.size A z.length (iv (atI z))) (hn : z.length ≤ 256) :
    Calls Try.prog 145 #[.slice A z.length c] w fun e w' => e = .returned (.slice (some ⟨w.heap.size, 0, none⟩) z.length z.length) ∧ Hid (RowF w' w'.heap.size (some ⟨w.heap.size, 0, none⟩) (wzL z)) ∧ Hid (Below w.heap.size w w') := by
  have hmk := run_mkFG z.length (by omega)
  have HR := Lib.hid hr
  have C0 : Hid (RowM _ _ z.length (fwV z 0)) := (rowM_new w z.length (.float .f32 0) 25).ext fun j _ => by simp [fwV]
  have B0 : Hid (Below w.heap.size w (w.alloc (.cells (madeCells #[.float .f32 0] z.length) 25))) := (Below.refl _ _).alloc (Nat.le_refl _) _
  clear hr
  go_enter Try.func145, Try.ntmps145
  go_wp2_with fail
  clear hmk
  generalize w.alloc (.cells (madeCells #[.float .f32 0] z.length) 25) = w1 at *
  generalize hG : w.heap.size = G at *
  have HG := Lib.hid hG
  clear hG
  go_loopw [11] (fun i wr => ∃ k : Nat, k ≤ z.length ∧ i = .int .i64 k ∧ Hid (RowM wr G z.length (fwV z k)) ∧ Hid (Below G w wr)) (fun i _ => z.length - (intOf i).toNat)
  case atStart => exact ⟨0, Nat.zero_le _, rfl, C0, B0⟩
  case round =>
    clear C0 B0
    obtain ⟨k, hk, rfl, hC, hB⟩ := hrel
    by_cases hlt : k < z.length
    · obtain ⟨b, off, rfl, hb, hcell⟩ := (HR.out.below hB.out) (by omega)
      have hc := hcell k hlt
      unfold iv at hc
      have hg := hC.out.lt
      have hc2 := hC.out.cell k hlt
      have hf2 := hC.out.free k hlt
      have R2 := Lib.hid ((hC.out.set (k := k) (u := .float .f32 (floatOfInt .f32 (atI z k))) hlt).ext fun j _ => fwV_put z k j)
      have B2 := Lib.hid (Below.setCell (p := ⟨G, k, none⟩) hB.out (Nat.le_refl _) (.float .f32 (floatOfInt .f32 (atI z k))))
      clear hcell
      generalize atI z k = a at *
      generalize fwV z k k = v0 at *
      go_wp2_with fail
      go_roundw
      case rel => exact ⟨k + 1, by omega, by go_num, R2, B2⟩
      case measure => simp [intOf]; omega
    · have ek : k = z.length := by omega
      subst ek
      go_wp2_with fail
      go_ret
      refine ⟨by rw [HG.out]; rfl, fun h0 => ⟨G, 0, by rw [HG.out], hC.out.lt, fun j hj => ?_⟩, by rw [HG.out]; exact hB⟩
      rw [wzL_len] at hj
      rw [Nat.zero_add, hC.out.cell j hj, wzL_at hj]
      unfold fwV
      rw [if_pos hj]

end Go.Proofs.Ytgiblioilpedfaa
