/-
  What is proved here: sizes, copies, comparisons, marks and looks of grammars, as walks. Conditions: at most 1048576 rules.
-/
import Derived.Test.YtckhdbnoihieeaaRlB
namespace Go.Proofs.Ytckhdbnoihieeaa
open Go.RowKit

/-- sizes that are known to be small -/
def SzG (left : Nat) (st : ByteArray) (n : Nat) (ss : List ByteArray) (r : Int) : Prop := (0 ≤ r → st.size ≤ left ∧ n ≤ left ∧ ∀ j, j < ss.length → (atS ss j).size ≤ left) ∧ -1 ≤ r ∧ r ≤ left

theorem szGrammar_is (st : ByteArray) (A : Option Addr) (n c : Nat) (ss : List ByteArray) (left : Nat) (w : World) (hr : RowU w w.heap.size A ss) (hn : ss.length = 2 * n) (hN : n ≤ 9223372036854775807) (hst : st.size ≤ 9223372036854775807) (hS : ∀ j, j < ss.length → (atS ss j).size ≤ 9223372036854775807) (hl : left ≤ 1048576) :
    Calls Try.prog 29 #[.agg #[.string st, .slice A n c], .int .i64 left] w fun e w' => ∃ r : Int, e = .returned (.int .i64 r) ∧ Hid (SzG left st n ss r) ∧ Below w.heap.size w w' := by
  by_cases h1 : st.size ≤ left
  · have HC := fun (w' : World) (hb : Below w.heap.size w w') => szRuleS_is A n c ss (left - st.size) w' (hr.carry hb) hn hN hS (by omega)
    have H := Lib.hid HC
    have B0 : Hid (Below w.heap.size w (w.alloc (.cells #[.string st, .slice A n c] 49))) := (Below.refl _ _).alloc (Nat.le_refl _) _
    have e1 : (left : Int) - st.size = ((left - st.size : Nat) : Int) := by omega
    have E1 := Lib.hid e1
    clear HC hr hS hn e1
    go_enter Try.func29, Try.ntmps29
    go_wp2_with fail
    rw [E1.out]
    refine (H.out _ B0.out).mono ?_
    rintro e w' ⟨r, rfl, hsz, hb⟩
    have HS := Lib.hid hsz
    have HB : Hid (Below w.heap.size w w') := B0.out.trans (hb.mono B0.out.size)
    obtain ⟨_, r1, r2⟩ := hsz
    clear hb B0 H
    by_cases h2 : r < 0
    · have HZ : Hid (SzG left st n ss (-1)) := ⟨fun h => absurd h (by decide), by omega, by omega⟩
      go_wp2_with fail
      go_ret
      exact ⟨-1, rfl, HZ, HB.out⟩
    · have HZ : Hid (SzG left st n ss r) := ⟨fun h => ⟨h1, by have := (HS.out.1 h).1; omega, fun j hj => by have := (HS.out.1 h).2 j hj; omega⟩, by omega, by omega⟩
      go_wp2_with fail
      go_ret
      exact ⟨r, rfl, HZ, HB.out⟩
  · have HZ : Hid (SzG left st n ss (-1)) := ⟨fun h => absurd h (by decide), by omega, by omega⟩
    clear hr hS hn
    go_enter Try.func29, Try.ntmps29
    go_wp2_with fail
    go_ret
    exact ⟨-1, rfl, HZ, (Below.refl _ _).alloc (Nat.le_refl _) _⟩

theorem bcell {W w1 : World} (hb : Below W.heap.size W w1) : (∀ b o, b < W.heap.size → w1.cell? ⟨b, o, none⟩ = W.cell? ⟨b, o, none⟩) ∧ (∀ b o, b < W.heap.size → w1.frozen? ⟨b, o, none⟩ = W.frozen? ⟨b, o, none⟩) :=
  ⟨fun b o h => hb.cell (p := ⟨b, o, none⟩) h, fun b o h => hb.frozen (p := ⟨b, o, none⟩) h⟩

theorem toGrammar_is (st : ByteArray) (A : Option Addr) (n c : Nat) (ss : List ByteArray) (w : World) (hr : RowU w w.heap.size A ss) (hn : ss.length = 2 * n) (hN : n ≤ 1048576) :
    Calls Try.prog 31 #[.agg #[.string st, .slice A n c]] w fun e w' => ∃ g, e = .returned (.agg #[.string st, .slice (some ⟨g, 0, none⟩) n n]) ∧ w.heap.size ≤ g ∧ g < w'.heap.size ∧ Hid (OwnU w' g (some ⟨g, 0, none⟩) ss) ∧ Hid (Below w.heap.size w w') := by
  have HC := fun (w' : World) (hb : Below w.heap.size w w') => toRuleS_is A n c ss w' (hr.carry hb) hn hN
  have H := Lib.hid HC
  clear HC hr
  go_enter Try.func31, Try.ntmps31
  have B0 : Hid (Below w.heap.size w (((w.alloc (.cells #[.string st, .slice A n c] 49)).alloc (.cells #[.string ⟨#[]⟩, .slice none 0 0] 56)).alloc (.cells #[.string st, .slice none 0 0] 56))) := (((Below.refl _ _).alloc (Nat.le_refl _) _).alloc (by simp) _).alloc (by simp; omega) _
  go_wp2_with fail
  refine (H.out _ B0.out).mono ?_
  rintro e w2 ⟨rfl, ho, hs, hb⟩
  have e3 : (((w.alloc (.cells #[.string st, .slice A n c] 49)).alloc (.cells #[.string ⟨#[]⟩, .slice none 0 0] 56)).alloc (.cells #[.string st, .slice none 0 0] 56)).heap.size = w.heap.size + 3 := by simp
  have HO : Hid (OwnU w2 (w.heap.size + 3) (some ⟨w.heap.size + 3, 0, none⟩) ss) := by rw [← e3]; exact ho
  have HS : Hid (w.heap.size + 3 < w2.heap.size) := by rw [← e3]; exact hs
  have HB : Hid (Below w.heap.size w w2) := B0.out.trans (hb.mono B0.out.size)
  obtain ⟨hc, hf⟩ := bcell hb
  have hz : w.heap.size + 2 < w2.heap.size := by have := HS.out; omega
  clear ho hb H B0 e3 hs
  go_wp2_with fail
  refine bodyPost_ret (v := .agg #[.string st, .slice (some ⟨w.heap.size + 1 + 1 + 1, 0, none⟩) n n]) (by simp [results, Try.results31, go_sem, hc]) rfl ⟨w.heap.size + 3, rfl, by omega, ?_, ?_, ?_⟩
  · simpa [World.setCell] using HS.out
  · exact ((HO.out.setLow (by show w.heap.size + 1 + 1 < _; omega) _).setLow (by show w.heap.size + 1 < _; omega) _).setLow (by show w.heap.size + 1 < _; omega) _
  · exact ((HB.out.setCell (by show w.heap.size ≤ w.heap.size + 1 + 1; omega) _).setCell (by show w.heap.size ≤ w.heap.size + 1; omega) _).setCell (by show w.heap.size ≤ w.heap.size + 1; omega) _

theorem eqGrammar_is (st : ByteArray) (A B : Option Addr) (n c d : Nat) (ss : List ByteArray) (w : World) (Z : Nat) (hZ : Z ≤ w.heap.size) (hr : RowU w Z A ss) (hq : RowU w Z B ss) (hn : ss.length = 2 * n) (hN : n ≤ 1048576) :
    Calls Try.prog 34 #[.agg #[.string st, .slice A n c], .agg #[.string st, .slice B n d]] w fun e w' => e = .returned (.bool true) ∧ Hid (Below w.heap.size w w') := by
  have HC := fun (w' : World) (hb : Below w.heap.size w w') => eqRuleS_is A B n c d ss w' Z (Nat.le_trans hZ hb.size) (hr.below (hb.mono hZ)) (hq.below (hb.mono hZ)) hn hN
  have H := Lib.hid HC
  have B0 : Hid (Below w.heap.size w ((w.alloc (.cells #[.string st, .slice A n c] 56)).alloc (.cells #[.string st, .slice B n d] 56))) := ((Below.refl _ _).alloc (Nat.le_refl _) _).alloc (by simp) _
  clear HC hr hq
  go_enter Try.func34, Try.ntmps34
  go_wp2_with fail
  refine (H.out _ B0.out).mono ?_
  rintro e w' ⟨rfl, hb⟩
  have HB : Hid (Below w.heap.size w w') := B0.out.trans (hb.out.mono B0.out.size)
  clear hb B0 H
  go_wp2_with fail
  go_ret
  exact ⟨rfl, HB⟩

theorem markGrammar_is (st : ByteArray) (g n c m : Nat) (ss : List ByteArray) (w : World) (hg : g < w.heap.size) (hr : OwnU w g (some ⟨g, 0, none⟩) ss) (hn : ss.length = 2 * n) (hN : n ≤ 1048576) (hm : m ≤ 4) (hm0 : 0 < m) :
    Calls Try.prog 35 #[.agg #[.string st, .slice (some ⟨g, 0, none⟩) n c], .int .i64 m] w fun e w' => e = .returned (.int .i64 (m + n * 2 : Nat)) ∧ Hid (OwnU w' g (some ⟨g, 0, none⟩) (upS m (2 * n))) ∧ Hid (ButG g (some ⟨g, 0, none⟩) w w') := by
  have HC := fun (w' : World) (hb : Below w.heap.size w w') => markRuleS_is (some ⟨g, 0, none⟩) n c m g ss w' (Nat.le_trans (Nat.le_of_lt hg) hb.size) (hr.below hb) hn hN hm hm0
  have H := Lib.hid HC
  have B0 : Hid (Below w.heap.size w (w.alloc (.cells #[.string st, .slice (some ⟨g, 0, none⟩) n c] 56))) := (Below.refl _ _).alloc (Nat.le_refl _) _
  clear HC hr
  go_enter Try.func35, Try.ntmps35
  go_wp2_with fail
  refine (H.out _ B0.out).mono ?_
  rintro e w' ⟨rfl, ho, hb⟩
  have HB : Hid (ButG g (some ⟨g, 0, none⟩) w w') := ButG.joinLow B0.out hb.out (Nat.le_of_lt hg)
  clear hb B0 H
  go_wp2_with fail
  go_ret
  exact ⟨rfl, ho, HB⟩


end Go.Proofs.Ytckhdbnoihieeaa
