/-
  What is proved here: GrammarText of both packages, as walks. Conditions: texts of at most 1048576 bytes.
-/
import Derived.Test.YtegbclfjcckglaaGtx
import Derived.Laws.MakeOwn
namespace Go.Proofs.Ytegbclfjcckglaa
open Go.RowKit

def tL (ss : List ByteArray) (n : Nat) : List ByteArray := (List.range n).map (rT ss)
theorem tL_length (ss : List ByteArray) (n : Nat) : (tL ss n).length = n := by simp [tL]
theorem at_tL {ss : List ByteArray} {n k : Nat} (h : k < n) : atS (tL ss n) k = rT ss k := by simp [atS, tL, List.getD, h]
theorem tL_join (ss : List ByteArray) (n : Nat) : Lib.join ((tL ss n).map (·.data.toList)) (⟨#[47]⟩ : ByteArray).data.toList = Lib.join (rL ss n) [47] := by
  unfold tL rL
  rw [List.map_map]; rfl

theorem info_strG : (Try.prog.info? 9).map (fun i => (i.zero, i.size, i.bytes)) = some (some (.string ByteArray.empty), 1, 16) := by kernel_rfl

theorem oneT_start (w : World) (n : Nat) (t : TypeId) : OneS (w.alloc (.cells (madeCells #[.string ByteArray.empty] n) t)) w.heap.size n (fun _ => ByteArray.empty) := by
  refine ⟨by simp, fun j hj => ?_, fun j => ?_⟩
  · have h : (madeCells #[.string ByteArray.empty] n)[j]? = some (.string ByteArray.empty) := by simp [madeCells, hj, Nat.mod_one]
    simp [World.cell?, World.alloc, -World.alloc_eq, h]
  · simp [World.frozen?, World.alloc, -World.alloc_eq]

theorem ruleText_is (a b : ByteArray) (ha : a.size ≤ 1048576) (hb : b.size ≤ 1048576) (w : World) :
    Calls Try.prog 30 #[.agg #[.string a, .string b]] w fun e w' => e = .returned (.string ((a ++ ⟨#[61]⟩) ++ b)) ∧ Below w.heap.size w w' := by
  have a1 : ∀ W : World, (Op.stringOp .add a ⟨#[61]⟩).run Try.prog W = .ok (.string (a ++ ⟨#[61]⟩)) W := fun W => run_string_add_sum W _ _ (by show _ + 1 ≤ _; omega)
  have a2 : ∀ W : World, (Op.stringOp .add (a ++ ⟨#[61]⟩) b).run Try.prog W = .ok (.string ((a ++ ⟨#[61]⟩) ++ b)) W := fun W => run_string_add_sum W _ _ (by rw [ByteArray.size_append]; show _ + 1 + _ ≤ _; omega)
  generalize (a ++ ⟨#[61]⟩) ++ b = z2 at *
  generalize a ++ ⟨#[61]⟩ = z1 at *
  go_enter Try.func30, Try.ntmps30
  go_wp2_with fail
  go_ret
  exact ⟨rfl, (Below.refl _ _).alloc (Nat.le_refl _) _⟩

set_option maxHeartbeats 4000000 in
theorem joinRule (A : Option Addr) (n c : Nat) (ss : List ByteArray) (w : World) (hr : RowS w w.heap.size A ss) (hn : ss.length = 2 * n) (hN : n ≤ 8) (hS : ∀ j, (atS ss j).size ≤ 1048576) :
    Calls Try.prog 29 #[.slice A n c, .int .i64 8, .string ⟨#[47]⟩, .func (.func 30) #[] #[]] w fun e w' => e = .returned (.tuple #[.string (jT n ss), .bool true]) ∧ Hid (Below w.heap.size w w') := by
  have HR := Lib.hid hr
  have HN := Lib.hid hn
  have HS := Lib.hid hS
  clear hr hn hS
  have h9 : decide ((8 : Int) < (n : Int)) = false := decide_eq_false (by omega)
  by_cases h0 : n = 0
  · have hb0 : ((n : Int) == 0) = true := by simpa using h0
    have H0 : Hid (jT n ss = ⟨#[110, 111, 110, 101]⟩) := if_pos h0
    clear h0
    go_enter Try.func29, Try.ntmps29
    go_wp2_with fail
    go_ret2
    exact ⟨by rw [H0.out]; rfl, Below.refl _ _⟩
  · have hb0 : ((n : Int) == 0) = false := by simpa using h0
    have H0 : Hid (jT n ss = ⟨(Lib.join (rL ss n) [47]).toArray⟩) := if_neg h0
    obtain ⟨i0, hi, hz0, hz1, hz2⟩ := info_parts info_strG
    have hmk := fun W => run_make_rowN (P := Try.prog) 76 9 i0 (.string ByteArray.empty) Try.underlying76 hi hz0 .i64 .i64 n n (Nat.le_refl _) (by rw [hz2]; omega) (by omega) W
    rw [hz1, Nat.mul_one] at hmk
    have C0 : Hid (OneS _ _ _ (copS (tL ss n) 0)) := oneT_start w n 9
    have B0 : Hid (Below w.heap.size w (w.alloc (.cells (madeCells #[.string ByteArray.empty] n) 9))) := (Below.refl _ _).alloc (Nat.le_refl _) _
    clear hi hz0 hz1 hz2 h0
    go_enter Try.func29, Try.ntmps29
    go_wp2_with fail
    clear hmk h9 hb0
    generalize w.alloc (.cells (madeCells #[.string ByteArray.empty] n) 9) = w1 at *
    generalize hG : w.heap.size = G at *
    have HG := Lib.hid hG
    clear hG
    go_loopw [25] (fun i wr => ∃ k : Nat, k ≤ n ∧ i = .int .i64 k ∧ Hid (OneS wr G n (copS (tL ss n) k)) ∧ Hid (Below G w wr)) (fun i _ => n - (intOf i).toNat)
    case atStart => exact ⟨0, Nat.zero_le _, rfl, C0, B0⟩
    case round =>
      obtain ⟨k, hk, rfl, hC, hB⟩ := hrel
      by_cases hlt : k < n
      · obtain ⟨b, off, rfl, hb, hc, hd⟩ := HR.out.pair HN.out hlt
        rw [← hB.out.cell (p := ⟨b, _, none⟩) hb] at hc hd
        have HT : Hid (∀ W, Calls Try.prog 30 #[.agg #[.string (ltr ss k), .string (txt ss k)]] W fun e w' => e = .returned (.string (rT ss k)) ∧ Below W.heap.size W w') := fun W => ruleText_is _ _ (HS.out _) (HS.out _) W
        have hs : Hid (copS (tL ss n) (k + 1) = fun j => if j = k then rT ss k else copS (tL ss n) k j) := by
          have := copS_succ (tL ss n) k
          rw [at_tL hlt] at this
          exact this
        have hsz : wr.heap.size ≤ wr.heap.size + 1 := by omega
        clear hb
        have hc2 : wr.cell? ⟨b, off + k * 2, none⟩ = some (.string (ltr ss k)) := hc
        have hd2 : wr.cell? ⟨b, off + k * 2 + 1, none⟩ = some (.string (txt ss k)) := hd
        clear hc hd
        generalize rT ss k = z at *
        go_wp2_with (go_at_call 30; refine (HT.out _).mono ?_; rintro e w2 ⟨rfl, hb2⟩; have hb3 : Below wr.heap.size wr w2 := Below.trans (by first | exact ((((Below.refl _ _).alloc (Nat.le_refl _) _).setCell (Nat.le_refl _) _).setCell (Nat.le_refl _) _) | exact ((Below.refl _ _).alloc (Nat.le_refl _) _)) (hb2.mono (by simp)); have hd := (hC.out.below hb3).cell k hlt; have hf := (hC.out.below hb3).free k; have HB3 := Lib.hid hb3; clear hb2 hb3)
        have hs2 := Lib.hid ((hC.out.below HB3.out).step hlt hs.out)
        have hGw : Hid (G ≤ wr.heap.size) := Nat.le_of_lt hC.out.size
        have hs3 : Hid (Below G w (w2.setCell ⟨G, k, none⟩ (.string z))) := (hB.out.trans (HB3.out.mono hGw.out)).setCell (Nat.le_refl _) _
        clear hd hf hC hB
        go_roundw
        case rel => exact ⟨k + 1, by omega, by go_num, hs2, hs3⟩
        case measure => simp [intOf]; omega
      · have HK : Hid (k = n) := by show k = n; omega
        have hcl : ∀ (j : Nat) x, (tL ss n)[j]? = some x → wr.cell? ⟨G, 0 + j, none⟩ = some (.string x) := by
          intro j x hx
          obtain ⟨hj, rfl⟩ := List.getElem?_eq_some_iff.1 hx
          rw [tL_length] at hj
          rw [Nat.zero_add, hC.out.cell j hj]
          unfold copS
          rw [if_pos (by have := HK.out; omega), atS_eq (by rw [tL_length]; exact hj)]
        have hjl : (Lib.join ((tL ss n).map (·.data.toList)) (⟨#[47]⟩ : ByteArray).data.toList).length ≤ 140737488355328 := by
          rw [tL_join]
          have := jT_size HS.out n
          omega
        have HJ := Lib.hid (Any.strings_Join Go.Proofs.Try.lays156 Go.Proofs.Try.Builder_Extra_156 G 0 n (tL ss n) ⟨#[47]⟩ wr hcl hC.out.size (by first | (rw [tL_length]; omega) | omega | simp) (Nat.le_of_eq (tL_length ss n)) hjl)
        rw [tL_join, tL_length] at HJ
        have hGw : Hid (G ≤ wr.heap.size) := Nat.le_of_lt hC.out.size
        clear hcl hjl hC
        go_wp2_with (go_at_call 42; refine HJ.out.mono ?_; rintro e w2 ⟨rfl, hb2⟩; have HB2 := Lib.hid hb2; clear hb2)
        go_ret2
        exact ⟨by rw [H0.out]; rfl, by rw [HG.out]; exact hB.out.trans (HB2.out.mono hGw.out)⟩

theorem gt_no {st : ByteArray} {n : Nat} {ss : List ByteArray} (h : validB st n ss = false) : gtT st n ss = ⟨#[]⟩ := by unfold gtT; rw [h]; rfl
theorem gt_yes {st : ByteArray} {n : Nat} {ss : List ByteArray} (h : validB st n ss = true) : gtT st n ss = gN st n ss := if_pos h
theorem valid_few {st : ByteArray} {n : Nat} {ss : List ByteArray} (h : validB st n ss = true) : n ≤ 8 := by
  unfold validB at h
  simp at h
  exact h.2.1

theorem specGT (n c : Nat) (A : Option Addr) (st : ByteArray) (ss : List ByteArray) (w : World) (hr : RowS w w.heap.size A ss) (hn : ss.length = 2 * n) (hN : n ≤ 1048576) (hst : st.size ≤ 1048576) (hS : ∀ j, (atS ss j).size ≤ 1048576) :
    Calls Try.prog 11 #[.agg #[.string st, .slice A n c]] w fun e w' => e = .returned (.tuple #[.string (gtT st n ss), .bool (validB st n ss)]) ∧ Hid (Below w.heap.size w w') := by
  have B0 : Below w.heap.size w (w.alloc (.cells #[.string st, .slice A n c] 30)) := (Below.refl _ _).alloc (Nat.le_refl _) _
  have V0 := Lib.hid (varG_new w st A n c 30)
  have R0 := Lib.hid (hr.carry B0)
  have HB := Lib.hid B0
  have HN := Lib.hid hn
  have HS := Lib.hid hS
  clear hr hn hS B0
  have HC : Hid (Calls Try.prog 25 _ _ _) := specIs w.heap.size n c A st ss _ V0.out R0.out HN.out hN (by omega) (fun j _ => by have := HS.out j; omega)
  cases h1 : validB st n ss
  · have N := Lib.hid (gt_no h1)
    rw [h1] at HC
    clear h1
    go_enter Try.func11, Try.ntmps11
    go_wp2_with fail
    refine HC.out.mono ?_
    rintro e w1 ⟨rfl, hb⟩
    have HE : Hid (Below w.heap.size w w1) := HB.out.trans (hb.out.mono HB.out.size)
    clear hb HC
    go_wp2_with fail
    go_ret2
    exact ⟨by rw [N.out]; rfl, HE⟩
  · have N := Lib.hid (gt_yes h1)
    have h8 := valid_few h1
    rw [h1] at HC
    clear h1
    go_enter Try.func11, Try.ntmps11
    go_wp2_with fail
    refine HC.out.mono ?_
    rintro e w1 ⟨rfl, hb⟩
    have HE : Hid (Below w.heap.size w w1) := HB.out.trans (hb.out.mono HB.out.size)
    have V1 := Lib.hid (V0.out.below hb.out)
    have R1 := Lib.hid (R0.out.carry hb.out)
    clear hb HC V0 R0
    go_wp2_with fail
    refine (specGtx _ n c A st ss w1 V1.out R1.out HN.out h8 hst HS.out).mono ?_
    rintro e w2 ⟨rfl, hb⟩
    have HF : Hid (Below w.heap.size w w2) := HE.out.trans (hb.out.mono HE.out.size)
    clear hb
    go_wp2_with fail
    go_ret2
    exact ⟨by rw [N.out]; rfl, HF⟩

theorem implGT (n c : Nat) (A : Option Addr) (st : ByteArray) (ss : List ByteArray) (w : World) (hr : RowS w w.heap.size A ss) (hn : ss.length = 2 * n) (hN : n ≤ 1048576) (hst : st.size ≤ 1048576) (hS : ∀ j, (atS ss j).size ≤ 1048576) :
    Calls Try.prog 13 #[.agg #[.string st, .slice A n c]] w fun e w' => e = .returned (.tuple #[.string (gtT st n ss), .bool (validB st n ss)]) ∧ Hid (Below w.heap.size w w') := by
  have B0 : Below w.heap.size w (w.alloc (.cells #[.string st, .slice A n c] 30)) := (Below.refl _ _).alloc (Nat.le_refl _) _
  have V0 := Lib.hid (varG_new w st A n c 30)
  have R0 := Lib.hid (hr.carry B0)
  have HB := Lib.hid B0
  have HN := Lib.hid hn
  have HS := Lib.hid hS
  clear hr hn hS B0
  have HC : Hid (Calls Try.prog 28 _ _ _) := implValid n c A st ss _ R0.out HN.out hN
  cases h1 : validB st n ss
  · have N := Lib.hid (gt_no h1)
    rw [h1] at HC
    clear h1
    go_enter Try.func13, Try.ntmps13
    go_wp2_with fail
    refine HC.out.mono ?_
    rintro e w1 ⟨rfl, hb⟩
    have HE : Hid (Below w.heap.size w w1) := HB.out.trans (hb.out.mono HB.out.size)
    clear hb HC
    go_wp2_with fail
    go_ret2
    exact ⟨by rw [N.out]; rfl, HE⟩
  · have N := Lib.hid (gt_yes h1)
    have h8 := valid_few h1
    rw [h1] at HC
    have a1 : ∀ W : World, (Op.stringOp .add st ⟨#[59]⟩).run Try.prog W = .ok (.string (st ++ ⟨#[59]⟩)) W := fun W => run_string_add_sum W _ _ (by show _ + 1 ≤ _; omega)
    have a2 : ∀ W : World, (Op.stringOp .add (st ++ ⟨#[59]⟩) (jT n ss)).run Try.prog W = .ok (.string (gN st n ss)) W := fun W => by
      rw [← gT_join]
      refine run_string_add_sum W _ _ ?_
      rw [ByteArray.size_append]
      have : (jT n ss).size ≤ 1048577 + n * 2097154 := by
        unfold jT
        split
        · show 4 ≤ _; omega
        · have := jT_size HS.out n
          show (List.toArray _).size ≤ _
          simpa using this
      show _ + 1 + _ ≤ _
      omega
    clear h1
    generalize st ++ ⟨#[59]⟩ = z1 at *
    generalize gN st n ss = z2 at *
    have HJ := Lib.hid (fun W h => joinRule A n c ss W h HN.out h8 HS.out)
    go_enter Try.func13, Try.ntmps13
    go_wp2_with fail
    refine HC.out.mono ?_
    rintro e w1 ⟨rfl, hb⟩
    have HE : Hid (Below w.heap.size w w1) := HB.out.trans (hb.out.mono HB.out.size)
    have V1 := Lib.hid (V0.out.below hb.out)
    have R1 := Lib.hid (R0.out.carry hb.out)
    have c0 := V1.out.c0
    have c1 := V1.out.c1
    clear hb HC V0 R0
    go_wp2_with fail
    refine (HJ.out w1 R1.out).mono ?_
    rintro e w2 ⟨rfl, hb⟩
    have HF : Hid (Below w.heap.size w w2) := HE.out.trans (hb.out.mono HE.out.size)
    have V2 := Lib.hid (V1.out.below hb.out)
    clear hb c0 c1
    have c0 := V2.out.c0
    go_wp2_with fail
    go_ret2
    exact ⟨by rw [N.out]; rfl, HF⟩

end Go.Proofs.Ytegbclfjcckglaa
