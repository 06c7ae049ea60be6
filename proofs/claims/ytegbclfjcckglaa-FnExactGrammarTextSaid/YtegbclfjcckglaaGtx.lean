/-
  What is proved here: the texts of grammars, by both packages, as walks. Conditions: texts of at most 1048576 bytes.
-/
import Derived.Test.YtegbclfjcckglaaLwv
import Derived.Test.YtegbclfjcckglaaShelfC
import Derived.Lib.Join
import Derived.Laws.Concat
import Derived.Deep.QuietTactic
namespace Go.Proofs.Ytegbclfjcckglaa
open Go.RowKit

theorem ba_ext {a b : ByteArray} (h : a.data.toList = b.data.toList) : a = b := by
  cases a; cases b
  congr 1
  exact Array.ext' h
theorem ba_app (a b : ByteArray) : (a ++ b).data.toList = a.data.toList ++ b.data.toList := by
  cases a; cases b
  rw [ByteArray.mk_append_mk]
theorem ba_size (a : ByteArray) : a.data.toList.length = a.size := by simp

/-- the text of a rule, of the first rules, of a grammar -/
def rT (ss : List ByteArray) (k : Nat) : ByteArray := (ltr ss k ++ ⟨#[61]⟩) ++ txt ss k
def rL (ss : List ByteArray) (k : Nat) : List (List UInt8) := (List.range k).map fun j => (rT ss j).data.toList
def gT (st : ByteArray) (ss : List ByteArray) (k : Nat) : ByteArray := ⟨(st.data.toList ++ 59 :: Lib.join (rL ss k) [47]).toArray⟩
def gN (st : ByteArray) (n : Nat) (ss : List ByteArray) : ByteArray := if n = 0 then st ++ ⟨#[59, 110, 111, 110, 101]⟩ else gT st ss n
def jT (n : Nat) (ss : List ByteArray) : ByteArray := if n = 0 then ⟨#[110, 111, 110, 101]⟩ else ⟨(Lib.join (rL ss n) [47]).toArray⟩
def gtT (st : ByteArray) (n : Nat) (ss : List ByteArray) : ByteArray := if validB st n ss = true then gN st n ss else ⟨#[]⟩

theorem rL_succ (ss : List ByteArray) (k : Nat) : rL ss (k + 1) = rL ss k ++ [(rT ss k).data.toList] := by
  unfold rL; rw [List.range_succ, List.map_append]; rfl
theorem rL_length (ss : List ByteArray) (k : Nat) : (rL ss k).length = k := by simp [rL]

theorem join_snoc (l : List (List UInt8)) (x s : List UInt8) (h : l ≠ []) : Lib.join (l ++ [x]) s = Lib.join l s ++ (s ++ x) := by
  cases l with
  | nil => exact absurd rfl h
  | cons y r =>
    rw [List.cons_append, Lib.join_cons, Lib.join_cons]
    unfold Lib.joinTail
    simp

theorem gT_zero (st : ByteArray) (ss : List ByteArray) : st ++ ⟨#[59]⟩ = gT st ss 0 := by
  apply ba_ext
  rw [ba_app]
  show _ = st.data.toList ++ 59 :: Lib.join [] [47]
  rw [Lib.join_nil]
theorem gT_one (st : ByteArray) (ss : List ByteArray) : gT st ss 0 ++ rT ss 0 = gT st ss 1 := by
  apply ba_ext
  rw [ba_app]
  show (st.data.toList ++ 59 :: Lib.join [] [47]) ++ (rT ss 0).data.toList = st.data.toList ++ 59 :: Lib.join [(rT ss 0).data.toList] [47]
  rw [Lib.join_nil, Lib.join_one]; simp
theorem gT_succ (st : ByteArray) (ss : List ByteArray) (k : Nat) (h : 0 < k) : (gT st ss k ++ ⟨#[47]⟩) ++ rT ss k = gT st ss (k + 1) := by
  apply ba_ext
  rw [ba_app, ba_app]
  show ((st.data.toList ++ 59 :: Lib.join (rL ss k) [47]) ++ [47]) ++ (rT ss k).data.toList = st.data.toList ++ 59 :: Lib.join (rL ss (k + 1)) [47]
  rw [rL_succ, join_snoc _ _ _ (by intro e; have := congrArg List.length e; rw [rL_length] at this; simp at this; omega)]
  simp
theorem gT_join (st : ByteArray) (ss : List ByteArray) (n : Nat) : (st ++ ⟨#[59]⟩) ++ jT n ss = gN st n ss := by
  apply ba_ext
  unfold jT gN
  by_cases h : n = 0
  · rw [if_pos h, if_pos h, ba_app, ba_app, ba_app]; simp
  · rw [if_neg h, if_neg h, ba_app, ba_app]
    show _ = st.data.toList ++ 59 :: Lib.join (rL ss n) [47]
    simp

theorem rT_size {ss : List ByteArray} (hS : ∀ j, (atS ss j).size ≤ 1048576) (k : Nat) : (rT ss k).size ≤ 2097153 := by
  have h1 := hS (k * 2)
  have h2 := hS (k * 2 + 1)
  unfold rT ltr txt
  rw [ByteArray.size_append, ByteArray.size_append]
  show _ + 1 + _ ≤ _
  omega
theorem gT_size {st : ByteArray} {ss : List ByteArray} (hst : st.size ≤ 1048576) (hS : ∀ j, (atS ss j).size ≤ 1048576) : ∀ k, (gT st ss k).size ≤ 1048577 + k * 2097154
  | 0 => by rw [← gT_zero, ByteArray.size_append]; show _ + 1 ≤ _; omega
  | 1 => by
    have h := rT_size hS 0
    rw [← gT_one, ByteArray.size_append, ← gT_zero, ByteArray.size_append]
    show _ + 1 + _ ≤ _
    omega
  | k + 2 => by
    have h := rT_size hS (k + 1)
    have ih := gT_size hst hS (k + 1)
    rw [← gT_succ st ss (k + 1) (by omega), ByteArray.size_append, ByteArray.size_append]
    show _ + 1 + _ ≤ _
    omega
theorem jT_size {ss : List ByteArray} (hS : ∀ j, (atS ss j).size ≤ 1048576) (n : Nat) : (Lib.join (rL ss n) [47]).length ≤ 1048577 + n * 2097154 := by
  have h := gT_size (st := ⟨#[]⟩) (ss := ss) (Nat.zero_le _) hS n
  rw [← ba_size] at h
  simp [gT] at h
  omega

set_option maxHeartbeats 2000000 in
theorem specGtx (x n c : Nat) (A : Option Addr) (st : ByteArray) (ss : List ByteArray) (w : World) (V : VarG w x st A n c) (hr : RowS w w.heap.size A ss) (hn : ss.length = 2 * n) (hN : n ≤ 8) (hst : st.size ≤ 1048576) (hS : ∀ j, (atS ss j).size ≤ 1048576) :
    Calls Try.prog 26 #[.pointer (some ⟨x, 0, none⟩)] w fun e w' => e = .returned (.string (gN st n ss)) ∧ Hid (Below w.heap.size w w') := by
  obtain ⟨hx, c0, c1⟩ := V
  have HR := Lib.hid hr
  have HN := Lib.hid hn
  have HS := Lib.hid hS
  clear hr hn hS
  by_cases h0 : n = 0
  · have a1 : ∀ W : World, (Op.stringOp .add st ⟨#[59, 110, 111, 110, 101]⟩).run Try.prog W = .ok (.string (st ++ ⟨#[59, 110, 111, 110, 101]⟩)) W := fun W => run_string_add_sum W _ _ (by show _ + 5 ≤ _; omega)
    have b0 : ((n : Int) == 0) = true := by simpa using h0
    have H0 : Hid (gN st n ss = st ++ ⟨#[59, 110, 111, 110, 101]⟩) := if_pos h0
    clear h0
    generalize st ++ ⟨#[59, 110, 111, 110, 101]⟩ = z at *
    go_enter Try.func26, Try.ntmps26
    go_wp2_with fail
    go_ret
    exact ⟨by rw [H0.out]; rfl, Below.refl _ _⟩
  · have a1 : ∀ W : World, (Op.stringOp .add st ⟨#[59]⟩).run Try.prog W = .ok (.string (gT st ss 0)) W := fun W => by
      rw [← gT_zero]; exact run_string_add_sum W _ _ (by show _ + 1 ≤ _; omega)
    have b0 : ((n : Int) == 0) = false := by simpa using h0
    have H0 : Hid (gN st n ss = gT st ss n) := if_neg h0
    have HG : Hid (∀ k, (gT st ss k).size ≤ 1048577 + k * 2097154) := gT_size hst HS.out
    have HX := Lib.hid hx
    have C1 := Lib.hid c1
    clear h0
    go_enter Try.func26, Try.ntmps26
    go_wp2_with fail
    clear a1 b0 c0 c1 hx
    go_loopw [3, 4] (fun o i wr => ∃ k : Nat, k ≤ n ∧ i = .int .i64 k ∧ o = .string (gT st ss k) ∧ Hid (Below w.heap.size w wr)) (fun _ i _ => n - (intOf i).toNat)
    case atStart => exact ⟨0, Nat.zero_le _, rfl, rfl, Below.refl _ _⟩
    case round =>
      obtain ⟨k, hk, rfl, rfl, hB⟩ := hrel
      have c1 : wr.cell? ⟨x, 1, none⟩ = some (.slice A n c) := by rw [hB.out.cell (p := ⟨x, 1, none⟩) HX.out]; exact C1.out
      by_cases hlt : k < n
      · obtain ⟨b, off, rfl, hb, hc, hd⟩ := HR.out.pair HN.out hlt
        rw [← hB.out.cell (p := ⟨b, _, none⟩) hb] at hc hd
        have s1 : (ltr ss k).size ≤ 1048576 := HS.out _
        have s2 : (txt ss k).size ≤ 1048576 := HS.out _
        have s3 := HG.out k
        have s4 := rT_size HS.out k
        have a2 : ∀ W : World, (Op.stringOp .add (ltr ss k) ⟨#[61]⟩).run Try.prog W = .ok (.string (ltr ss k ++ ⟨#[61]⟩)) W := fun W => run_string_add_sum W _ _ (by show _ + 1 ≤ _; omega)
        have a3 : ∀ W : World, (Op.stringOp .add (ltr ss k ++ ⟨#[61]⟩) (txt ss k)).run Try.prog W = .ok (.string (rT ss k)) W := fun W => run_string_add_sum W _ _ (by rw [ByteArray.size_append]; show _ + 1 + _ ≤ _; omega)
        have hc2 : wr.cell? ⟨b, off + k * 2, none⟩ = some (.string (ltr ss k)) := hc
        have hd2 : wr.cell? ⟨b, off + k * 2 + 1, none⟩ = some (.string (txt ss k)) := hd
        clear hc hd
        by_cases h5 : k = 0
        · have a4 : ∀ W : World, (Op.stringOp .add (gT st ss k) (rT ss k)).run Try.prog W = .ok (.string (gT st ss (k + 1))) W := fun W => by
            have e : gT st ss (k + 1) = gT st ss k ++ rT ss k := by rw [h5]; exact (gT_one st ss).symm
            rw [e]; exact run_string_add_sum W _ _ (by omega)
          have b1 : decide ((0 : Int) < (k : Int)) = false := decide_eq_false (by omega)
          have b2 : decide (0 < k) = false := decide_eq_false (by omega)
          clear s1 s2 s3 s4 h5
          generalize ltr ss k ++ ⟨#[61]⟩ = z1 at *
          generalize rT ss k = z2 at *
          generalize ltr ss k = z3 at *
          generalize txt ss k = z4 at *
          generalize gT st ss k = z6 at *
          go_wp2_with fail
          go_quiet (fail)
          have HE : Hid (Below w.heap.size w (wr.drewN nq)) := hB.out.trans ⟨rfl, rfl, rfl, Nat.le_refl _, fun _ _ => rfl⟩
          go_wp2_with fail
          go_roundw
          case rel => exact ⟨k + 1, by omega, by go_num, rfl, HE⟩
          case measure => simp [intOf]; omega
        · have h6 : 0 < k := by omega
          have a5 : ∀ W : World, (Op.stringOp .add (gT st ss k) ⟨#[47]⟩).run Try.prog W = .ok (.string (gT st ss k ++ ⟨#[47]⟩)) W := fun W => run_string_add_sum W _ _ (by show _ + 1 ≤ _; omega)
          have a4 : ∀ W : World, (Op.stringOp .add (gT st ss k ++ ⟨#[47]⟩) (rT ss k)).run Try.prog W = .ok (.string (gT st ss (k + 1))) W := fun W => by
            rw [← gT_succ st ss k h6]; exact run_string_add_sum W _ _ (by rw [ByteArray.size_append]; show _ + 1 + _ ≤ _; omega)
          have b1 : decide ((0 : Int) < (k : Int)) = true := decide_eq_true (by omega)
          have b2 : decide (0 < k) = true := decide_eq_true (by omega)
          clear s1 s2 s3 s4 h5
          generalize ltr ss k ++ ⟨#[61]⟩ = z1 at *
          generalize rT ss k = z2 at *
          generalize ltr ss k = z3 at *
          generalize txt ss k = z4 at *
          generalize gT st ss k ++ ⟨#[47]⟩ = z5 at *
          generalize gT st ss k = z6 at *
          go_wp2_with fail
          go_quiet (fail)
          have HE : Hid (Below w.heap.size w (wr.drewN nq)) := hB.out.trans ⟨rfl, rfl, rfl, Nat.le_refl _, fun _ _ => rfl⟩
          go_wp2_with fail
          go_roundw
          case rel => exact ⟨k + 1, by omega, by go_num, rfl, HE⟩
          case measure => simp [intOf]; omega
      · have HK : Hid (k = n) := by show k = n; omega
        go_wp2_with fail
        go_ret
        exact ⟨by rw [H0.out, HK.out]; rfl, hB⟩

end Go.Proofs.Ytegbclfjcckglaa
