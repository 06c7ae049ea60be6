/-
  What is proved here: slices.Repeat of one value, as a walk. Conditions: at most 1000000 times.
-/
import Derived.Test.YteojpmnnpinpeaaLvi
import Derived.Test.YteojpmnnpinpeaaShelfM
import Derived.Laws.CopyOwn
import Derived.Deep.RegionHeldLaw
import Derived.Deep.RegionHeld3
namespace Go.Proofs.Yteojpmnnpinpeaa
open Go.RowKit
set_option linter.unusedVariables false

/-- k cells of one value, the rest of another -/
def rpLI (f : Int) (r k : Nat) : List Value := List.replicate k (.int .i64 f) ++ List.replicate (r - k) (.int .i64 0)
theorem rpLI_len (f : Int) (r k : Nat) (h : k ≤ r) : (rpLI f r k).length = r := by unfold rpLI; simp; omega
theorem rpLI_next (f : Int) (r k m : Nat) (h : k + m ≤ r) : splice (rpLI f r k) k (List.replicate m (.int .i64 f)) = rpLI f r (k + m) := by
  unfold splice rpLI
  rw [List.take_append_of_le_length (by simp), List.take_of_length_le (by simp), List.drop_append, List.drop_eq_nil_of_le (by simp), List.nil_append]
  simp only [List.length_replicate, List.drop_replicate]
  rw [← List.append_assoc, List.replicate_append_replicate]
  congr 2
  omega
theorem madeI (r : Nat) : madeCells #[.int .i64 0] r = (List.replicate r (.int .i64 0)).toArray := by
  unfold madeCells
  apply Array.ext
  · simp
  · intro i h1 h2; simp [Nat.mod_one]
theorem rowI_of {w : World} {g r : Nat} (f : Int) (h : w.heap[g]? = some (.cells (rpLI f r r).toArray 2 (0, 0))) : RowM w g r (fun _ => .int .i64 f) := by
  refine ⟨?_, fun j hj => ?_, fun j hj => ?_⟩
  · rcases Nat.lt_or_ge g w.heap.size with h' | h'
    · exact h'
    · rw [Array.getElem?_eq_none h'] at h; cases h
  · simp [World.cell?, h, rpLI, hj]
  · simp [World.frozen?, h]
theorem srcI {w : World} {b off m : Nat} {v : Value} (hm : m ≤ 1) (hc : w.cell? ⟨b, off, none⟩ = some v) : ∀ j u, (List.replicate m v)[j]? = some u → w.cell? ((⟨b, off, none⟩ : Addr).add j) = some u := by
  intro j u hu
  rw [List.getElem?_replicate] at hu
  by_cases h : j < m
  · rw [if_pos h] at hu
    injection hu with hu
    subst hu
    obtain rfl : j = 0 := by omega
    rw [Go.WideShapes.add_plain]
    exact hc
  · rw [if_neg h] at hu; cases hu
theorem srcNI {w : World} {g r k m : Nat} (f : Int) (hm : m ≤ k) (h : w.heap[g]? = some (.cells (rpLI f r k).toArray 2 (0, 0))) : ∀ j u, (List.replicate m (.int .i64 f))[j]? = some u → w.cell? ((⟨g, 0, none⟩ : Addr).add j) = some u := by
  intro j u hu
  rw [List.getElem?_replicate] at hu
  by_cases hj : j < m
  · rw [if_pos hj] at hu
    injection hu with hu
    subst hu
    rw [Go.WideShapes.add_plain]
    simp [World.cell?, h, rpLI, List.getElem?_append, show j < k by omega]
  · rw [if_neg hj] at hu; cases hu
theorem mul1I (r : Nat) (hr : r ≤ 1000000) (w : World) : Calls Try.prog 173 #[.int .u64 1, .int .u64 (r : Nat)] w fun e w' => e = .returned (.tuple #[.int .u64 0, .int .u64 (r : Nat)]) ∧ w = w' :=
  (Try.bits_Mul 1 r (by omega) (by omega) w).mono fun e w' h => ⟨by rw [h.1, show 1 * r / 18446744073709551616 = 0 by omega, show 1 * r % 18446744073709551616 = r by omega]; rfl, h.2.symm⟩
set_option maxHeartbeats 4000000 in
set_option maxRecDepth 1000000 in
theorem repI (f : Int) (b off r c1 : Nat) (w : World) (hb : b < w.heap.size) (hc : w.cell? ⟨b, off, none⟩ = some (.int .i64 f)) (hr : r ≤ 1000000) :
    Calls Try.prog 80 #[.slice (some ⟨b, off, none⟩) 1 c1, .int .i64 (r : Nat)] w fun e w' => e = .returned (.slice (some ⟨w.heap.size, 0, none⟩) r r) ∧ Hid (RowM w' w.heap.size r (fun _ => .int .i64 f)) ∧ Hid (Below w.heap.size w w') := by
  have hmk := run_mkI r (by omega)
  have HM := Lib.hid (fun W => mul1I r hr W)
  have HB0 : Hid (Below w.heap.size w (w.alloc (.cells (madeCells #[.int .i64 0] r) 2))) := (Below.refl _ _).alloc (Nat.le_refl _) _
  have HG0 : Hid ((w.alloc (.cells (madeCells #[.int .i64 0] r) 2)).heap[w.heap.size]? = some (.cells (rpLI f r 0).toArray 2 (0, 0))) := by
    show _ = _
    rw [madeI]
    show (w.heap.push _)[w.heap.size]? = _
    simp [rpLI]
  have hc1 : (w.alloc (.cells (madeCells #[.int .i64 0] r) 2)).cell? ⟨b, off, none⟩ = some (.int .i64 f) := (HB0.out.cell (p := ⟨b, off, none⟩) hb).trans hc
  have HC := Lib.hid hc1
  have HSZ : Hid ((Try.prog.info? 2).map (·.size) = some 1) := by show _ = _; kernel_rfl
  clear hc hc1
  go_enter Try.func80, Try.ntmps80
  go_wp2_with fail
  refine (HM.out w).mono ?_
  rintro e w' ⟨rfl, rfl⟩
  clear HM
  obtain ⟨m0, hm0⟩ : ∃ m, m = Nat.min 1 r := ⟨_, rfl⟩
  have hm1 : m0 ≤ r := by rw [hm0]; exact Nat.min_le_right _ _
  have hm2 : m0 ≤ 1 := by rw [hm0]; exact Nat.min_le_left _ _
  have hm3 : 0 < r → 0 < m0 := fun h => by rw [hm0]; exact Nat.lt_min.2 ⟨Nat.one_pos, h⟩
  have HM0 := Lib.hid hm0
  clear hm0
  go_wp2_with (refine wpList_copy_splice (o := ⟨some 33, _, _, _, _, _⟩) rfl _ _ 32 32 rfl 2 Try.underlying32 HSZ.out _ _ _ _ _ _ rfl rfl w.heap.size 0 (rpLI f r 0) 2 HG0.out (List.replicate m0 (.int .i64 f)) (by rw [List.length_replicate]; exact HM0.out) (fun _ => ⟨rfl, _, rfl, srcI hm2 HC.out⟩) (by rw [List.length_replicate, rpLI_len _ _ _ (Nat.zero_le _)]; omega) (by intro v hv; rw [List.eq_of_mem_replicate hv]; rfl) w.heap.size w HB0.out (Nat.le_refl _) ?_; intro w2 HG2 HB2)
  have HG3 : Hid (w2.heap[w.heap.size]? = some (.cells (rpLI f r m0).toArray 2 (0, 0))) := by
    have h := HG2.out
    rw [rpLI_next f r 0 m0 (by omega), Nat.zero_add] at h
    exact h
  have HB3 := Lib.hid HB2
  clear HG2 HB2 HG0 HB0 HC HM0 hmk
  generalize hG : w.heap.size = G at *
  have HGG := Lib.hid hG
  clear hG
  go_wp2_with fail
  go_loopw [8] (fun n wr => ∃ k : Nat, k ≤ r ∧ (0 < r → 0 < k) ∧ n = .int .i64 k ∧ Hid (wr.heap[G]? = some (.cells (rpLI f r k).toArray 2 (0, 0))) ∧ Hid (Below G w wr)) (fun n _ => r - (intOf n).toNat)
  case atStart => exact ⟨m0, hm1, hm3, by simp, HG3, HB3⟩
  case round =>
    obtain ⟨k, hk, hk0, rfl, hG, hB⟩ := hrel
    by_cases hlt : k < r
    · have hk1 : 0 < k := hk0 (by omega)
      obtain ⟨m, hm⟩ : ∃ m, m = Nat.min k (r - k) := ⟨_, rfl⟩
      have hma : m ≤ k := by rw [hm]; exact Nat.min_le_left _ _
      have hmb : m ≤ r - k := by rw [hm]; exact Nat.min_le_right _ _
      have hmc : 0 < m := by rw [hm]; exact Nat.lt_min.2 ⟨hk1, by omega⟩
      have HM := Lib.hid hm
      clear hm
      have hne : ¬ r = k := by omega
      have hki : (k : Int) < r := by omega
      have hki2 : (k : Int) ≤ r := by omega
      have hw : IntKind.i64.wrap ((k : Int) + (m : Int)) = ((k + m : Nat) : Int) := by rw [IntWalk.i64_in _ (by omega)]; omega
      have HBd : Hid (Below G w wr.drew) := hB.out.drew
      go_wp2_with fail
      go_region_held3 (fun w' => Hid (Below G w w')) (first | (exact HBd) | (exact HB5) | go_keep) ((refine step_copy_splice rfl _ _ 32 32 rfl 2 Try.underlying32 HSZ.out (some ⟨G, k, none⟩) (some ⟨G, 0, none⟩) (r - k) (r - k) k r (by rfl) (by rfl) G k (rpLI f r k) 2 hG.out (List.replicate m (.int .i64 f)) (by rw [List.length_replicate]; exact HM.out) (fun _ => ⟨rfl, ⟨G, 0, none⟩, rfl, srcNI f hma hG.out⟩) (by rw [List.length_replicate, rpLI_len _ _ _ (by omega)]; omega) (by intro v hv; rw [List.eq_of_mem_replicate hv]; rfl) G w (hB.out.drew) (Nat.le_refl _) ?_; intro w4 HG4 HB4; have HB5 := Lib.hid HB4))
      have HG5 : Hid (w4.heap[G]? = some (.cells (rpLI f r (k + m)).toArray 2 (0, 0))) := by
        have h := HG4.out
        rw [rpLI_next f r k m (by omega)] at h
        exact h
      clear HG4 HB4 hG hB HBd
      rename_i hh
      clear hh
      go_wp2_with fail
      clear hw
      go_roundw
      case rel => exact ⟨k + m, by omega, fun _ => by omega, by first | rfl | go_num | simp, HG5, HB5⟩
      case measure => simp [intOf]; omega
    · obtain rfl : k = r := by omega
      go_wp2_with fail
      go_ret
      exact ⟨by rw [HGG.out]; rfl, by rw [HGG.out]; exact rowI_of f hG.out, by rw [HGG.out]; exact hB⟩

end Go.Proofs.Yteojpmnnpinpeaa
