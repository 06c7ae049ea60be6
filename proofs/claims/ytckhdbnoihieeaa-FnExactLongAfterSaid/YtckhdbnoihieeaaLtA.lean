/-
  What is proved here: how many letters a word has, by the model, as a walk. Conditions: a word of at most 1048576 letters.
-/
import Derived.Test.YtckhdbnoihieeaaRwA
import Derived.Test.YtckhdbnoihieeaaInts
namespace Go.Proofs.Ytckhdbnoihieeaa
open Go.RowKit

/-- where a letter is counted -/
def ltI (b : UInt8) : Nat := if 65 ≤ b.toNat ∧ b.toNat ≤ 90 then b.toNat - 65 else 26
theorem ltI_lt (b : UInt8) : ltI b < 27 := by unfold ltI; split <;> omega
/-- how many of them there are -/
def ltC (l : List UInt8) (j : Nat) : Int := ((l.filter fun b => ltI b = j).length : Nat)
theorem ltC_le (l : List UInt8) (j : Nat) : 0 ≤ ltC l j ∧ ltC l j ≤ l.length := by
  unfold ltC
  have := List.length_filter_le (fun b => decide (ltI b = j)) l
  omega
theorem ltC_step (t : ByteArray) (k : Nat) (h : k < t.size) : ltC (t.data.toList.take (k + 1)) = fun j => if j = ltI (t[k]'h) then ltC (t.data.toList.take k) (ltI (t[k]'h)) + 1 else ltC (t.data.toList.take k) j := by
  have h' : k < t.data.toList.length := by simpa using h
  have e : t.data.toList.take (k + 1) = t.data.toList.take k ++ [t[k]'h] := by rw [List.take_succ_eq_append_getElem h']; rfl
  funext j
  unfold ltC
  rw [e, List.filter_append]
  by_cases hj : j = ltI (t[k]'h)
  · subst hj; simp
  · rw [if_neg hj]
    have : ¬ ltI (t[k]'h) = j := fun g => hj g.symm
    simp [this]

/-- the counts of a word, as a list -/
def ltL (l : List UInt8) : List Int := (List.range 27).map (ltC l)
theorem ltL_length (l : List UInt8) : (ltL l).length = 27 := by simp [ltL]
theorem at_ltL {l : List UInt8} {j : Nat} (h : j < 27) : atI (ltL l) j = ltC l j := by simp [atI, ltL, List.getD, h]

theorem specLt (t : ByteArray) (ht : t.size ≤ 1048576) (w : World) :
    Calls Try.prog 97 #[.string t] w fun e w' => e = .returned (.slice (some ⟨w.heap.size, 0, none⟩) 27 27) ∧ Hid (OneRow w' w.heap.size 27 (ltC t.data.toList)) ∧ Hid (Below w.heap.size w w') := by
  obtain ⟨i0, hi, hz0, hz1, hz2⟩ := info_parts info_i64
  have hmk := fun W => run_make_rowN (P := Try.prog) 51 2 i0 (.int .i64 0) Try.underlying51 hi hz0 .i64 .i64 27 27 (Nat.le_refl _) (by rw [hz2]; omega) (by omega) W
  rw [hz1, Nat.mul_one] at hmk
  have hmk2 : ∀ W : World, (Instr.makeSlice 51 (.int .i64 27) (.int .i64 27)).run Try.prog W = _ := hmk
  clear hmk
  have C0 : Hid (OneRow _ _ _ (ltC (t.data.toList.take 0))) := (oneRow_start w 27).ext fun j _ => by simp [ltC]
  have B0 : Hid (Below w.heap.size w (w.alloc (.cells (madeCells #[.int .i64 0] 27) 2))) := (Below.refl _ _).alloc (Nat.le_refl _) _
  clear hi hz0 hz1 hz2
  go_enter Try.func97, Try.ntmps97
  go_wp2_with fail
  clear hmk2
  generalize w.alloc (.cells (madeCells #[.int .i64 0] 27) 2) = w1 at *
  generalize hG : w.heap.size = G at *
  have HG := Lib.hid hG
  clear hG
  go_loopw [4] (fun i wr => ∃ k : Nat, k ≤ t.size ∧ i = .int .i64 k ∧ Hid (OneRow wr G 27 (ltC (t.data.toList.take k))) ∧ Hid (Below G w wr)) (fun i _ => t.size - (intOf i).toNat)
  case atStart => exact ⟨0, Nat.zero_le _, rfl, C0, B0⟩
  case round =>
    obtain ⟨k, hk, rfl, hC, hB⟩ := hrel
    by_cases hlt : k < t.size
    · have hst := ltC_step t k hlt
      have hx := ltC_le (t.data.toList.take k) (ltI (t[k]'hlt))
      have hxl : (t.data.toList.take k).length ≤ 1048576 := by simp; omega
      by_cases hcap : 65 ≤ (t[k]'hlt).toNat ∧ (t[k]'hlt).toNat ≤ 90
      · have hI : ltI (t[k]'hlt) = (t[k]'hlt).toNat - 65 := if_pos hcap
        rw [hI] at hst hx
        generalize hm : (t[k]'hlt).toNat - 65 = m at *
        have hm2 : m < 27 := by omega
        have e1 : ((t[k]'hlt).toNat : Int) - 65 = (m : Int) := by omega
        obtain ⟨c1, c2⟩ := hcap
        have hc := hC.out.cell m hm2
        have hf := hC.out.free m
        have hs := Lib.hid (hC.out.step hm2 hst)
        have hs2 : Hid (Below G w (wr.setCell ⟨G, m, none⟩ (.int .i64 (ltC (t.data.toList.take k) m + 1)))) := hB.out.setCell (Nat.le_refl _) _
        have h0 := hx.1
        have h1 : ltC (t.data.toList.take k) m ≤ 1048576 := by omega
        clear hst hI hm hC hB hx
        go_wp2_with fail
        go_roundw
        case rel => exact ⟨k + 1, by omega, by go_num, hs, hs2⟩
        case measure => simp [intOf]; omega
      · have hI : ltI (t[k]'hlt) = 26 := if_neg hcap
        rw [hI] at hst hx
        have hc := hC.out.cell 26 (by omega)
        have hf := hC.out.free 26
        have hs := Lib.hid (hC.out.step (by omega : 26 < 27) hst)
        have hs2 : Hid (Below G w (wr.setCell ⟨G, 26, none⟩ (.int .i64 (ltC (t.data.toList.take k) 26 + 1)))) := hB.out.setCell (Nat.le_refl _) _
        have h0 := hx.1
        have h1 : ltC (t.data.toList.take k) 26 ≤ 1048576 := by omega
        clear hst hI hC hB hx
        by_cases c1 : 65 ≤ (t[k]'hlt).toNat
        · have c2 : 90 < (t[k]'hlt).toNat := by omega
          clear hcap
          go_wp2_with fail
          go_roundw
          case rel => exact ⟨k + 1, by omega, by go_num, hs, hs2⟩
          case measure => simp [intOf]; omega
        · clear hcap
          go_wp2_with fail
          go_roundw
          case rel => exact ⟨k + 1, by omega, by go_num, hs, hs2⟩
          case measure => simp [intOf]; omega
    · have hkm : k = t.size := by omega
      have HK : Hid (ltC (t.data.toList.take k) = ltC t.data.toList) := by rw [hkm, List.take_of_length_le (by simp)]; exact rfl
      clear hkm
      go_wp2_with fail
      go_ret
      exact ⟨by rw [HG.out]; rfl, by rw [HG.out, ← HK.out]; exact hC, by rw [HG.out]; exact hB⟩

end Go.Proofs.Ytckhdbnoihieeaa
