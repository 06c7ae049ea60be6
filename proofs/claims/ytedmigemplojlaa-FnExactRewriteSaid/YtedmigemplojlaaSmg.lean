/-
  What is proved here: comparisons of grammars, of both packages, as walks. Conditions: at most 1048576 rules.
-/
import Derived.Test.YtedmigemplojlaaKoc
namespace Go.Proofs.Ytedmigemplojlaa
open Go.RowKit

/-- grammars that are the same -/
def sameB (s1 : ByteArray) (r1 : List ByteArray) (s2 : ByteArray) (r2 : List ByteArray) : Bool := decide (s1 = s2) && decide (r1 = r2)
theorem sameB_yes {s1 s2 : ByteArray} {r1 r2 : List ByteArray} (h1 : s1 = s2) (h2 : r1 = r2) : sameB s1 r1 s2 r2 = true := by unfold sameB; rw [decide_eq_true h1, decide_eq_true h2]; rfl
theorem sameB_no1 {s1 s2 : ByteArray} {r1 r2 : List ByteArray} (h1 : s1 ≠ s2) : sameB s1 r1 s2 r2 = false := by unfold sameB; rw [decide_eq_false h1]; rfl
theorem sameB_no2 {s1 s2 : ByteArray} {r1 r2 : List ByteArray} (h2 : r1 ≠ r2) : sameB s1 r1 s2 r2 = false := by unfold sameB; rw [decide_eq_false h2, Bool.and_false]

theorem text_ne {a b : ByteArray} (h : a ≠ b) : (a.toList == b.toList) = false := by
  rw [beq_eq_false_iff_ne]
  intro g
  apply h
  have : a.data.toList = b.data.toList := by rw [← ByteArray.toList_eq, ← ByteArray.toList_eq]; exact g
  exact ByteArray.ext (Array.toList_inj.1 this)

set_option maxHeartbeats 8000000 in
theorem specSame (x y n m c d : Nat) (A B : Option Addr) (s1 s2 : ByteArray) (r1 r2 : List ByteArray) (w : World) (V1 : VarG w x s1 A n c) (V2 : VarG w y s2 B m d) (h1 : RowS w w.heap.size A r1) (h2 : RowS w w.heap.size B r2) (n1 : r1.length = 2 * n) (n2 : r2.length = 2 * m) (hN : n ≤ 1048576) (hM : m ≤ 1048576) :
    Calls Try.prog 59 #[.pointer (some ⟨x, 0, none⟩), .pointer (some ⟨y, 0, none⟩)] w fun e w' => e = .returned (.bool (sameB s1 r1 s2 r2)) ∧ Below w.heap.size w w' := by
  obtain ⟨_, c0, c1⟩ := V1
  obtain ⟨_, d0, d1⟩ := V2
  have HR := Lib.hid h1
  have HQ := Lib.hid h2
  clear h1 h2
  by_cases e1 : s1 = s2
  · subst e1
    by_cases e2 : n = m
    · subst e2
      have HN1 := Lib.hid n1
      have HN2 := Lib.hid n2
      clear n1 n2
      go_enter Try.func59, Try.ntmps59
      go_wp2_with fail
      go_quiet (fail)
      go_wp2_with fail
      go_loopw [5] (fun i wr => ∃ k : Nat, k ≤ n ∧ i = .int .i64 k ∧ Hid (∀ j, j < k * 2 → atS r1 j = atS r2 j) ∧ ∃ q, wr = w.drewN q) (fun i _ => n - (intOf i).toNat)
      case atStart => exact ⟨0, Nat.zero_le _, rfl, fun j h => absurd h (by omega), _, rfl⟩
      case round =>
        obtain ⟨k, hk, rfl, hJ, q, rfl⟩ := hrel
        by_cases hlt : k < n
        · obtain ⟨b, off, rfl, hb, hc, hd⟩ := HR.out.pair HN1.out hlt
          obtain ⟨b2, off2, rfl, hb2, hc2, hd2⟩ := HQ.out.pair HN2.out hlt
          by_cases g1 : atS r1 (k * 2) = atS r2 (k * 2)
          · by_cases g2 : atS r1 (k * 2 + 1) = atS r2 (k * 2 + 1)
            · have HJ : Hid (∀ j, j < (k + 1) * 2 → atS r1 j = atS r2 j) := fun j hj => by
                by_cases e1 : j = k * 2
                · rw [e1]; exact g1
                · by_cases e2 : j = k * 2 + 1
                  · rw [e2]; exact g2
                  · exact hJ.out j (by omega)
              rw [← g1] at hc2
              rw [← g2] at hd2
              clear g1 g2 hJ
              go_wp2_with fail
              go_quiet (fail)
              go_wp2_with fail
              go_roundw
              case rel => exact ⟨k + 1, by omega, by go_num, HJ, _, rfl⟩
              case measure => simp [intOf]; omega
            · have N : Hid (sameB s1 r1 s1 r2 = false) := sameB_no2 fun h => g2 (by rw [h])
              have b1 := text_ne g2
              rw [← g1] at hc2
              clear g1 g2 hJ
              go_wp2_with fail
              go_quiet (fail)
              go_wp2_with fail
              go_ret
              exact ⟨by rw [N.out]; rfl, ⟨rfl, rfl, rfl, Nat.le_refl _, fun _ _ => rfl⟩⟩
          · have N : Hid (sameB s1 r1 s1 r2 = false) := sameB_no2 fun h => g1 (by rw [h])
            have b1 := text_ne g1
            clear g1 hJ
            go_wp2_with fail
            go_quiet (fail)
            go_wp2_with fail
            go_ret
            exact ⟨by rw [N.out]; rfl, ⟨rfl, rfl, rfl, Nat.le_refl _, fun _ _ => rfl⟩⟩
        · have N : Hid (sameB s1 r1 s1 r2 = true) := sameB_yes rfl (ext_atS (by rw [HN1.out, HN2.out]) fun j hj => hJ.out j (by rw [HN1.out] at hj; omega))
          go_wp2
          go_ret
          exact ⟨by rw [N.out]; rfl, ⟨rfl, rfl, rfl, Nat.le_refl _, fun _ _ => rfl⟩⟩
    · have N : Hid (sameB s1 r1 s1 r2 = false) := sameB_no2 fun h => by rw [h] at n1; omega
      have b1 : ((n : Int) != (m : Int)) = true := bne_iff_ne.2 (by omega)
      clear e2 n1 n2
      go_enter Try.func59, Try.ntmps59
      go_wp2_with fail
      go_quiet (fail)
      go_wp2_with fail
      go_ret
      exact ⟨by rw [N.out]; rfl, ⟨rfl, rfl, rfl, Nat.le_refl _, fun _ _ => rfl⟩⟩
  · have N : Hid (sameB s1 r1 s2 r2 = false) := sameB_no1 e1
    have b1 := text_ne e1
    clear e1
    go_enter Try.func59, Try.ntmps59
    go_wp2_with fail
    go_quiet (fail)
    go_wp2_with fail
    go_ret
    exact ⟨by rw [N.out]; rfl, ⟨rfl, rfl, rfl, Nat.le_refl _, fun _ _ => rfl⟩⟩

set_option maxHeartbeats 8000000 in
theorem equalRules (n m c d : Nat) (A B : Option Addr) (r1 r2 : List ByteArray) (w : World) (h1 : RowS w w.heap.size A r1) (h2 : RowS w w.heap.size B r2) (n1 : r1.length = 2 * n) (n2 : r2.length = 2 * m) (hN : n ≤ 1048576) (hM : m ≤ 1048576) :
    Calls Try.prog 60 #[.slice A n c, .slice B m d] w fun e w' => e = .returned (.bool (sameB ByteArray.empty r1 ByteArray.empty r2)) ∧ Below w.heap.size w w' := by
  have HR := Lib.hid h1
  have HQ := Lib.hid h2
  clear h1 h2
  by_cases e2 : n = m
  · subst e2
    have HN1 := Lib.hid n1
    have HN2 := Lib.hid n2
    clear n1 n2
    go_enter Try.func60, Try.ntmps60
    go_wp2_with fail
    go_loopw [13] (fun i wr => ∃ k : Nat, k ≤ n ∧ i = .int .i64 k ∧ Hid (∀ j, j < k * 2 → atS r1 j = atS r2 j) ∧ ∃ q, wr = w.drewN q) (fun i _ => n - (intOf i).toNat)
    case atStart => exact ⟨0, Nat.zero_le _, rfl, fun j h => absurd h (by omega), 0, rfl⟩
    case round =>
      obtain ⟨k, hk, rfl, hJ, q, rfl⟩ := hrel
      by_cases hlt : k < n
      · obtain ⟨b, off, rfl, hb, hc, hd⟩ := HR.out.pair HN1.out hlt
        obtain ⟨b2, off2, rfl, hb2, hc2, hd2⟩ := HQ.out.pair HN2.out hlt
        by_cases g1 : atS r1 (k * 2) = atS r2 (k * 2)
        · by_cases g2 : atS r1 (k * 2 + 1) = atS r2 (k * 2 + 1)
          · have HJ : Hid (∀ j, j < (k + 1) * 2 → atS r1 j = atS r2 j) := fun j hj => by
              by_cases e1 : j = k * 2
              · rw [e1]; exact g1
              · by_cases e2 : j = k * 2 + 1
                · rw [e2]; exact g2
                · exact hJ.out j (by omega)
            rw [← g1] at hc2
            rw [← g2] at hd2
            clear g1 g2 hJ
            go_wp2_with fail
            go_quiet (fail)
            go_wp2_with fail
            go_roundw
            case rel => exact ⟨k + 1, by omega, by go_num, HJ, _, rfl⟩
            case measure => simp [intOf]; omega
          · have N : Hid (sameB ByteArray.empty r1 ByteArray.empty r2 = false) := sameB_no2 fun h => g2 (by rw [h])
            have b1 := text_ne g2
            rw [← g1] at hc2
            clear g1 g2 hJ
            go_wp2_with fail
            go_quiet (fail)
            go_wp2_with fail
            go_ret
            exact ⟨by rw [N.out]; rfl, ⟨rfl, rfl, rfl, Nat.le_refl _, fun _ _ => rfl⟩⟩
        · have N : Hid (sameB ByteArray.empty r1 ByteArray.empty r2 = false) := sameB_no2 fun h => g1 (by rw [h])
          have b1 := text_ne g1
          clear g1 hJ
          go_wp2_with fail
          go_quiet (fail)
          go_wp2_with fail
          go_ret
          exact ⟨by rw [N.out]; rfl, ⟨rfl, rfl, rfl, Nat.le_refl _, fun _ _ => rfl⟩⟩
      · have N : Hid (sameB ByteArray.empty r1 ByteArray.empty r2 = true) := sameB_yes rfl (ext_atS (by rw [HN1.out, HN2.out]) fun j hj => hJ.out j (by rw [HN1.out] at hj; omega))
        go_wp2
        go_ret
        exact ⟨by rw [N.out]; rfl, ⟨rfl, rfl, rfl, Nat.le_refl _, fun _ _ => rfl⟩⟩
  · have N : Hid (sameB ByteArray.empty r1 ByteArray.empty r2 = false) := sameB_no2 fun h => by rw [h] at n1; omega
    have b1 : ((n : Int) != (m : Int)) = true := bne_iff_ne.2 (by omega)
    clear e2 n1 n2
    go_enter Try.func60, Try.ntmps60
    go_wp2_with fail
    go_ret
    exact ⟨by rw [N.out]; rfl, Below.refl _ _⟩

/-- of two grammars: the boxes, and the comparison -/
theorem specSameG (n m c d : Nat) (A B : Option Addr) (s1 s2 : ByteArray) (r1 r2 : List ByteArray) (w : World) (h1 : RowS w w.heap.size A r1) (h2 : RowS w w.heap.size B r2) (n1 : r1.length = 2 * n) (n2 : r2.length = 2 * m) (hN : n ≤ 1048576) (hM : m ≤ 1048576) :
    Calls Try.prog 22 #[.agg #[.string s1, .slice A n c], .agg #[.string s2, .slice B m d]] w fun e w' => e = .returned (.bool (sameB s1 r1 s2 r2)) ∧ Hid (Below w.heap.size w w') := by
  have hb1 : Below w.heap.size w (w.alloc (.cells #[.string s1, .slice A n c] 30)) := (Below.refl _ _).alloc (Nat.le_refl _) _
  have V1 := varG_new w s1 A n c 30
  have g1 := h1.carry hb1
  have g2 := h2.carry hb1
  have hx : (w.alloc (.cells #[.string s1, .slice A n c] 30)).heap.size = w.heap.size + 1 := by simp
  generalize hw1 : w.alloc (.cells #[.string s1, .slice A n c] 30) = w1 at *
  have hb2 : Below w1.heap.size w1 (w1.alloc (.cells #[.string s2, .slice B m d] 30)) := (Below.refl _ _).alloc (Nat.le_refl _) _
  have V2 := varG_new w1 s2 B m d 30
  rw [hx] at V2
  have HC := Lib.hid (specSame w.heap.size (w.heap.size + 1) n m c d A B s1 s2 r1 r2 _ (V1.below hb2) V2 (g1.carry hb2) (g2.carry hb2) n1 n2 hN hM)
  have HB : Hid (Below w.heap.size w (w1.alloc (.cells #[.string s2, .slice B m d] 30))) := hb1.trans (hb2.mono hb1.size)
  rw [← hw1] at HC HB
  clear h1 h2 n1 n2 hb1 hb2 V1 V2 g1 g2 hx hw1
  go_enter Try.func22, Try.ntmps22
  go_wp2_with fail
  refine HC.out.mono ?_
  rintro e w' ⟨rfl, hb⟩
  have HE : Hid (Below w.heap.size w w') := HB.out.trans (hb.mono HB.out.size)
  clear hb HC HB
  go_wp2_with fail
  go_ret
  exact ⟨rfl, HE⟩

theorem implSameG (n m c d : Nat) (A B : Option Addr) (s1 s2 : ByteArray) (r1 r2 : List ByteArray) (w : World) (h1 : RowS w w.heap.size A r1) (h2 : RowS w w.heap.size B r2) (n1 : r1.length = 2 * n) (n2 : r2.length = 2 * m) (hN : n ≤ 1048576) (hM : m ≤ 1048576) :
    Calls Try.prog 23 #[.agg #[.string s1, .slice A n c], .agg #[.string s2, .slice B m d]] w fun e w' => e = .returned (.bool (sameB s1 r1 s2 r2)) ∧ Hid (Below w.heap.size w w') := by
  have HB : Hid (Below w.heap.size w ((w.alloc (.cells #[.string s1, .slice A n c] 30)).alloc (.cells #[.string s2, .slice B m d] 30))) := ((Below.refl _ _).alloc (Nat.le_refl _) _).alloc (by simp) _
  have HC := Lib.hid (equalRules n m c d A B r1 r2 _ (h1.carry HB.out) (h2.carry HB.out) n1 n2 hN hM)
  clear h1 h2 n1 n2
  by_cases e1 : s1 = s2
  · have N : Hid (sameB s1 r1 s2 r2 = sameB ByteArray.empty r1 ByteArray.empty r2) := by show _ = _; unfold sameB; rw [decide_eq_true e1]; rfl
    subst e1
    go_enter Try.func23, Try.ntmps23
    go_wp2_with fail
    refine HC.out.mono ?_
    rintro e w' ⟨rfl, hb⟩
    have HE : Hid (Below w.heap.size w w') := HB.out.trans (hb.mono HB.out.size)
    clear hb HC HB
    go_wp2_with fail
    go_ret
    exact ⟨by rw [N.out]; rfl, HE⟩
  · have N := Lib.hid (sameB_no1 (r1 := r1) (r2 := r2) e1)
    have b1 := text_ne e1
    clear e1 HC
    go_enter Try.func23, Try.ntmps23
    go_wp2_with fail
    go_ret
    exact ⟨by rw [N.out]; rfl, HB⟩

end Go.Proofs.Ytedmigemplojlaa
