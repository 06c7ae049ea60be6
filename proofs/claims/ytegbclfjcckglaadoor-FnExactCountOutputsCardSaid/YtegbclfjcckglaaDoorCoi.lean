/-
  What is proved here: CountOutputs of the program, and the law, as walks. Conditions: the program's two errors read as it lays them.
-/
import Derived.Test.YtegbclfjcckglaaDoorCou
import Derived.Deep.QuietTactic
namespace Go.Proofs.YtegbclfjcckglaaDoor
open Go.RowKit

theorem linesOf_big (s : ByteArray) (hb : 16000 < s.size) (w : World) :
    Calls Tryd.prog 71 #[.string s] w fun e w' => e = .returned (.tuple #[.slice none 0 0, .bool false]) ∧ w = w' := by
  go_enter Tryd.func71, Tryd.ntmps71
  go_wp2_with fail
  go_ret2
  exact ⟨rfl, rfl⟩

theorem linesOf_is (s : ByteArray) (hs : s.size ≤ 16000) (lb : Bool) (hlb : decide ((coLast s).data.toList = []) = lb) (w : World) (hm : Most w) :
    Calls Tryd.prog 71 #[.string s] w fun e w' => ∃ g c, e = .returned (.tuple #[.slice (some ⟨g, 0, none⟩) (coM s) c, .bool lb]) ∧ (∀ j x, (cutBd 10 s)[j]? = some x → w'.cell? ⟨g, j, none⟩ = some (.string x)) ∧ g < w'.heap.size ∧ Hid (Below w.heap.size w w') := by
  have HLE := coM_is s
  have HC : Hid (Calls Tryd.prog 59 #[.string s, .string ⟨#[10]⟩] w fun e w' => ∃ g, e = .returned (.slice (some ⟨g, 0, none⟩) (coM s + 1) (coM s + 1)) ∧ w'.cell? ⟨g, coM s, none⟩ = some (.string (coLast s)) ∧ Hid (∀ j x, (cutBd 10 s)[j]? = some x → w'.cell? ⟨g, j, none⟩ = some (.string x)) ∧ Hid (g < w'.heap.size) ∧ Hid (Below w.heap.size w w')) := by
    obtain ⟨m, hm⟩ := hm
    obtain ⟨e1, e2⟩ := splitB_allD 10 s
    have hct : Lib.countB s ⟨#[10]⟩ = coM s := by omega
    refine (Tryd.strings_Split s ⟨#[10]⟩ m w (by omega) hm (Nat.le_refl 1)).mono ?_
    rintro e w' ⟨rfl, rfl⟩
    have hcell : ∀ j x, (cutBd 10 s)[j]? = some x → (w.alloc (.cells ((cutBd 10 s).map Value.string).toArray 9)).cell? ⟨w.heap.size, j, none⟩ = some (.string x) := fun j x hx => by
      have h : ((cutBd 10 s).map Value.string).toArray[j]? = some (.string x) := by rw [List.getElem?_toArray, List.getElem?_map, hx]; rfl
      simp [World.cell?, World.alloc, -World.alloc_eq, h]
    rw [e1, hct]
    exact ⟨w.heap.size, rfl, hcell _ _ (getD_some (by omega)), hcell, by show _ < _; simp, (Below.refl _ _).alloc (Nat.le_refl _) _⟩
  have hmb : coM s ≤ 1048576 := by have := cutBd_len 10 s; omega
  have hle : ((coLast s).toList == []) = lb := by
    rw [← hlb, Go.ByteArray.toList_eq]
    by_cases h : (coLast s).data.toList = []
    · rw [h]; rfl
    · rw [decide_eq_false h, beq_eq_false_iff_ne]; exact h
  clear hlb HLE hm
  generalize coLast s = last at *
  generalize coM s = m at *
  generalize cutBd 10 s = P at *
  have e1 : ((m : Int) + 1) - 1 = (m : Int) := by omega
  cases lb
  all_goals
    go_enter Tryd.func71, Tryd.ntmps71
    go_wp2_with fail
    refine HC.out.mono ?_
    rintro e w1 ⟨g, rfl, hcell, hP, hg, hB⟩
    go_wp2_with fail
    go_quiet (fail)
    have HE : Hid (Below w.heap.size w (w1.drewN nq)) := hB.out.trans ⟨rfl, rfl, rfl, Nat.le_refl _, fun _ _ => rfl⟩
    go_wp2_with fail
    go_ret2
    exact ⟨g, m + 1, rfl, hP.out, hg.out, HE⟩

/-- the library's length, and the program's two errors -/
structure VarsC (w : World) : Prop where
  most : Most w
  err : ErrV w
theorem VarsC.below {w w' : World} (h : VarsC w) (hb : Below w.heap.size w w') : VarsC w' := ⟨h.most.below hb, h.err.below hb⟩

set_option maxHeartbeats 600000 in
set_option maxRecDepth 20000 in
theorem implCO (s : ByteArray) (hs : s.size ≤ 1048576) (w : World) (hv : VarsC w) : Calls Tryd.prog 25 #[.string s] w (COP s w) := by
  by_cases hbig : 16000 < s.size
  · have e1 : coB s = false := by unfold coB; rw [decide_eq_false (by omega)]; rfl
    have N := Lib.hid (And.intro e1 (co_no e1))
    have H := Lib.hid (linesOf_big s hbig w)
    clear e1 hbig hv
    go_enter Tryd.func25, Tryd.ntmps25
    go_wp2_with fail
    refine H.out.mono ?_
    rintro e w1 ⟨rfl, rfl⟩
    go_wp2_with fail
    go_ret3
    exact ⟨by rw [N.out.1, N.out.2.1, N.out.2.2]; rfl, Below.refl _ _⟩
  have hmb : coM s ≤ 1048576 := by have := cutBd_len 10 s; have := coM_is s; omega
  by_cases hlast : (coLast s).data.toList = []
  · have e1 : coB s = true := by unfold coB; rw [decide_eq_true (by omega), decide_eq_true hlast]; rfl
    have N := Lib.hid (And.intro e1 (co_yes e1))
    have HL := Lib.hid (linesOf_is s (by omega) true (decide_eq_true hlast) w hv.most)
    have HLE : Hid ((cutBd 10 s).length = coM s + 1) := coM_is s
    have HV := Lib.hid hv.err
    clear e1 hlast hbig hv
    generalize coM s = m at *
    generalize cutBd 10 s = P at *
    go_enter Tryd.func25, Tryd.ntmps25
    go_wp2_with fail
    refine HL.out.mono ?_
    rintro e w1 ⟨g, c, rfl, hP, hg, hB⟩
    have HP := Lib.hid hP
    obtain ⟨⟨a, v0, u0⟩, b, v1, u1⟩ := HV.out.below hB.out
    have HM : Hid (∀ (r : Option Addr) W, (method 339 207 (.pointer r) "Error").run Tryd.prog W = .ok (219, .pointer r) W) := fun r W => by kernel_rfl
    have hm1 := fun W => HM.out (some a) W
    have hm2 := fun W => HM.out (some b) W
    have E1 := Lib.hid (err_is a ⟨#[110, 111]⟩ w1 u0)
    have E2 := Lib.hid (err_is b ⟨#[119, 104, 97, 116]⟩ w1 u1)
    clear hP HM u0 u1
    go_wp2_with fail
    go_loop [7, 19] (fun b i => ∃ k : Nat, k ≤ m ∧ i = .int .i64 k ∧ b = .int .i64 (badTo P k : Nat)) (fun _ i => m - (intOf i).toNat)
    case atStart => exact ⟨0, Nat.zero_le _, rfl, rfl⟩
    case round =>
      obtain ⟨k, hk, rfl, rfl⟩ := hrel
      have hbk := badTo_le P k
      by_cases hlt : k < m
      · have hc := HP.out k _ (getD_some (by have := HLE.out; omega))
        have hstep : badTo P (k + 1) = badTo P k + (if isBad (P.getD k ⟨#[]⟩) = true then 1 else 0) := rfl
        generalize P.getD k ⟨#[]⟩ = x at *
        rcases bad_ways x with ⟨h1, h3⟩ | ⟨h1, h2, h3⟩ | ⟨h1, h2, h3⟩
        all_goals
          rw [h3] at hstep
          have HS := Lib.hid hstep
          clear hstep h3
          generalize badTo P k = bk at *
          go_wp2_with (first | (go_at_call 219; ((with_reducible refine E1.out.mono ?_); rintro e w2 ⟨rfl, rfl⟩)) | (go_at_call 219; ((with_reducible refine E2.out.mono ?_); rintro e w2 ⟨rfl, rfl⟩)))
          go_round
          case rel => exact ⟨k + 1, by omega, by go_num, by rw [HS.out]; first | rfl | go_num⟩
          case measure => simp [intOf]; omega
      · obtain rfl : k = m := by omega
        have esub : ((k : Int) - (badTo P k : Int)) = ((k - badTo P k : Nat) : Int) := by omega
        generalize badTo P k = bk at *
        go_wp2_with fail
        go_ret3
        exact ⟨by rw [N.out.1, N.out.2.1, N.out.2.2]; rfl, hB⟩
  · have e1 : coB s = false := by unfold coB; rw [decide_eq_false hlast, Bool.and_false]
    have N := Lib.hid (And.intro e1 (co_no e1))
    have HL := Lib.hid (linesOf_is s (by omega) false (decide_eq_false hlast) w hv.most)
    clear e1 hlast hbig hv
    generalize coM s = m at *
    generalize cutBd 10 s = P at *
    go_enter Tryd.func25, Tryd.ntmps25
    go_wp2_with fail
    refine HL.out.mono ?_
    rintro e w1 ⟨g, c, rfl, hP, hg, hB⟩
    clear hP
    go_wp2_with fail
    go_ret3
    exact ⟨by rw [N.out.1, N.out.2.1, N.out.2.2]; rfl, hB⟩

theorem lawCO (s : ByteArray) (hs : s.size ≤ maxLen) (w : World) (hv : VarsC w) :
    Calls Tryd.prog 6 #[.string s] w fun e w' => e = .returned (.bool true) ∧ Below w.heap.size w w' := by
  have HV := Lib.hid hv
  clear hv
  unfold maxLen at hs
  by_cases hbig : 1048576 < s.size
  · go_enter Tryd.func6, Tryd.ntmps6
    go_wp2
    go_ret
    exact ⟨rfl, Below.refl _ _⟩
  · have hn : s.size ≤ 1048576 := by omega
    have HS : Hid (∀ W, Calls Tryd.prog 24 #[.string s] W (COP s W)) := fun W => specCO s hn W
    have HI : Hid (∀ W, VarsC W → Calls Tryd.prog 25 #[.string s] W (COP s W)) := fun W h => implCO s hn W h
    unfold COP at HS HI
    clear hbig
    generalize (coN s : Int) = n at *
    generalize (coO s : Int) = o at *
    generalize coB s = b at *
    go_enter Tryd.func6, Tryd.ntmps6
    go_wp2_with fail
    refine (HS.out _).mono ?_
    rintro e w1 ⟨rfl, B1⟩
    go_wp2_with fail
    refine (HI.out _ (HV.out.below B1.out)).mono ?_
    rintro e w2 ⟨rfl, B2⟩
    have C2 := Lib.hid (B1.out.trans (B2.out.mono B1.out.size))
    clear B1 B2
    go_wp2_with fail
    go_ret
    exact ⟨rfl, C2.out⟩

end Go.Proofs.YtegbclfjcckglaaDoor
