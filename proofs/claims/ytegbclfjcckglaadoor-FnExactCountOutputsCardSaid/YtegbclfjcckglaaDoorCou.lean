/-
  What is proved here: how many lines of a text are no or what, by both packages, as walks. Conditions: the text has at most 1048576 bytes; the program's two errors read as it lays them.
-/
import Derived.Test.YtegbclfjcckglaaDoorRjs
import Derived.Test.YtegbclfjcckglaaDoorPnf
import Derived.Stop.LaidErr
namespace Go.Proofs.YtegbclfjcckglaaDoor
open Go.RowKit

def isBad (x : ByteArray) : Bool := (x.data.toList == [110, 111]) || (x.data.toList == [119, 104, 97, 116])
def badTo (P : List ByteArray) : Nat → Nat
  | 0 => 0
  | k + 1 => badTo P k + (if isBad (P.getD k ⟨#[]⟩) = true then 1 else 0)
theorem badTo_le (P : List ByteArray) : ∀ k, badTo P k ≤ k
  | 0 => Nat.le_refl _
  | k + 1 => by
    have := badTo_le P k
    unfold badTo
    split <;> omega

def coM (s : ByteArray) : Nat := (cutBd 10 s).length - 1
def coLast (s : ByteArray) : ByteArray := (cutBd 10 s).getD (coM s) ⟨#[]⟩
def coB (s : ByteArray) : Bool := decide (s.size ≤ 16000) && decide ((coLast s).data.toList = [])
def coN (s : ByteArray) : Nat := if coB s = true then badTo (cutBd 10 s) (coM s) else 0
def coO (s : ByteArray) : Nat := if coB s = true then coM s - badTo (cutBd 10 s) (coM s) else 0
def COP (s : ByteArray) (w : World) (e : Ending) (w' : World) : Prop :=
  e = .returned (.tuple #[.int .i64 (coN s : Nat), .int .i64 (coO s : Nat), .bool (coB s)]) ∧ Hid (Below w.heap.size w w')

theorem co_no {s : ByteArray} (h : coB s = false) : coN s = 0 ∧ coO s = 0 := by unfold coN coO; rw [h]; exact ⟨rfl, rfl⟩
theorem co_yes {s : ByteArray} (h : coB s = true) : coN s = badTo (cutBd 10 s) (coM s) ∧ coO s = coM s - badTo (cutBd 10 s) (coM s) := by unfold coN coO; rw [if_pos h, if_pos h]; exact ⟨rfl, rfl⟩
theorem coM_is (s : ByteArray) : (cutBd 10 s).length = coM s + 1 := by
  obtain ⟨p, ps, h⟩ := cutBd_cons 10 s
  unfold coM; rw [h]; simp

/-- the ways of a line -/
theorem bad_ways (x : ByteArray) : ((x.toList == [110, 111]) = true ∧ isBad x = true) ∨ ((x.toList == [110, 111]) = false ∧ (x.toList == [119, 104, 97, 116]) = true ∧ isBad x = true) ∨ ((x.toList == [110, 111]) = false ∧ (x.toList == [119, 104, 97, 116]) = false ∧ isBad x = false) := by
  unfold isBad
  rw [Go.ByteArray.toList_eq]
  cases h1 : (x.data.toList == [110, 111])
  · cases h2 : (x.data.toList == [119, 104, 97, 116])
    · exact .inr (.inr ⟨rfl, rfl, rfl⟩)
    · exact .inr (.inl ⟨rfl, rfl, rfl⟩)
  · exact .inl ⟨rfl, rfl⟩

theorem specCO (s : ByteArray) (hs : s.size ≤ 1048576) (w : World) : Calls Tryd.prog 24 #[.string s] w (COP s w) := by
  by_cases hbig : 16000 < s.size
  · have e1 : coB s = false := by unfold coB; rw [decide_eq_false (by omega)]; rfl
    have N := Lib.hid (And.intro e1 (co_no e1))
    clear e1
    go_enter Tryd.func24, Tryd.ntmps24
    go_wp2_with fail
    go_ret3
    exact ⟨by rw [N.out.1, N.out.2.1, N.out.2.2]; rfl, Below.refl _ _⟩
  have HL := Lib.hid (specLines s hs (coM s) (coM_is s) w)
  have hmb : coM s ≤ 1048576 := by have := cutBd_len 10 s; have := coM_is s; omega
  by_cases hlast : (coLast s).data.toList = []
  · have e1 : coB s = true := by unfold coB; rw [decide_eq_true (by omega), decide_eq_true hlast]; rfl
    have N := Lib.hid (And.intro e1 (co_yes e1))
    have hl1 : ((coLast s).toList == []) = true := by rw [Go.ByteArray.toList_eq, hlast]; rfl
    have HLE : Hid ((cutBd 10 s).length = coM s + 1) := coM_is s
    have hq : (cutBd 10 s).getD (coM s) ⟨#[]⟩ = coLast s := rfl
    rw [hq] at HL
    clear e1 hlast hq
    generalize coLast s = last at *
    generalize coM s = m at *
    generalize cutBd 10 s = P at *
    go_enter Tryd.func24, Tryd.ntmps24
    go_wp2_with fail
    refine HL.out.mono ?_
    rintro e w1 ⟨g, c, rfl, hP, hg, hB⟩
    have HP := Lib.hid hP
    clear hP
    go_wp2_with fail
    go_loop [7, 8] (fun b i => ∃ k : Nat, k ≤ m ∧ i = .int .i64 k ∧ b = .int .i64 (badTo P k : Nat)) (fun _ i => m - (intOf i).toNat)
    case atStart => exact ⟨0, Nat.zero_le _, rfl, rfl⟩
    case round =>
      obtain ⟨k, hk, rfl, rfl⟩ := hrel
      have hbk := badTo_le P k
      by_cases hlt : k < m
      · have hc := HP.out k _ (getD_some (by have := HLE.out; omega))
        have hstep : badTo P (k + 1) = badTo P k + (if isBad (P.getD k ⟨#[]⟩) = true then 1 else 0) := rfl
        generalize P.getD k ⟨#[]⟩ = x at *
        rcases bad_ways x with ⟨h1, h3⟩ | ⟨h1, h2, h3⟩ | ⟨h1, h2, h3⟩
        all_goals
          rw [h3] at hstep
          have HS := Lib.hid hstep
          clear hstep h3
          generalize badTo P k = bk at *
          go_wp2_with fail
          go_round
          case rel => exact ⟨k + 1, by omega, by go_num, by rw [HS.out]; first | rfl | go_num⟩
          case measure => simp [intOf]; omega
      · obtain rfl : k = m := by omega
        have esub : ((k : Int) - (badTo P k : Int)) = ((k - badTo P k : Nat) : Int) := by omega
        generalize badTo P k = bk at *
        go_wp2_with fail
        go_ret3
        exact ⟨by rw [N.out.1, N.out.2.1, N.out.2.2]; rfl, hB⟩
  · have e1 : coB s = false := by unfold coB; rw [decide_eq_false hlast, Bool.and_false]
    have N := Lib.hid (And.intro e1 (co_no e1))
    have hl1 : ((coLast s).toList == []) = false := by rw [beq_eq_false_iff_ne, Go.ByteArray.toList_eq]; exact hlast
    have hq : (cutBd 10 s).getD (coM s) ⟨#[]⟩ = coLast s := rfl
    rw [hq] at HL
    clear e1 hlast hq
    generalize coLast s = last at *
    generalize coM s = m at *
    generalize cutBd 10 s = P at *
    go_enter Tryd.func24, Tryd.ntmps24
    go_wp2_with fail
    refine HL.out.mono ?_
    rintro e w1 ⟨g, c, rfl, hP, hg, hB⟩
    clear hP
    go_wp2_with fail
    go_ret3
    exact ⟨by rw [N.out.1, N.out.2.1, N.out.2.2]; rfl, hB⟩

/-- the program's two errors -/
structure ErrV (w : World) : Prop where
  no : ∃ a, w.cell? ⟨0, 0, none⟩ = some (.iface 207 (.pointer (some a))) ∧ w.cell? a = some (.string ⟨#[110, 111]⟩)
  what : ∃ a, w.cell? ⟨1, 0, none⟩ = some (.iface 207 (.pointer (some a))) ∧ w.cell? a = some (.string ⟨#[119, 104, 97, 116]⟩)

theorem cell_lt {w : World} {a : Addr} {v : Value} (h : w.cell? a = some v) : a.block < w.heap.size := by
  rcases Nat.lt_or_ge a.block w.heap.size with h2 | h2
  · exact h2
  · exfalso; simp [World.cell?, Array.getElem?_eq_none h2] at h
theorem ErrV.below {w w' : World} (h : ErrV w) (hb : Below w.heap.size w w') : ErrV w' := by
  obtain ⟨⟨a, h1, h2⟩, b, h3, h4⟩ := h
  exact ⟨⟨a, by rw [hb.cell (cell_lt h1)]; exact h1, by rw [hb.cell (cell_lt h2)]; exact h2⟩, b, by rw [hb.cell (cell_lt h3)]; exact h3, by rw [hb.cell (cell_lt h4)]; exact h4⟩

theorem err_is (a : Addr) (s : ByteArray) (w : World) (h : w.cell? a = some (.string s)) :
    Calls Tryd.prog 219 #[.pointer (some a)] w fun e w' => e = .returned (.string s) ∧ w' = w := by
  obtain ⟨b, o, f⟩ := a
  go_enter Tryd.func219, Tryd.ntmps219
  go_wp2_with fail
  go_ret
  exact ⟨rfl, rfl⟩

end Go.Proofs.YtegbclfjcckglaaDoor
