/-
  What is proved here: StoreShapes, of both packages, as walks. Conditions: at most 1048576 shapes, bytes and cells.
-/
import Derived.Test.YteojpmnnpinpeaaStq
import Derived.Test.YteojpmnnpinpeaaSlk
import Derived.Test.YteojpmnnpinpeaaShelfC
import Derived.Laws.MakeOwn
namespace Go.Proofs.Yteojpmnnpinpeaa
open Go.RowKit
set_option linter.unusedVariables false

/-- whether a shape is valid, and its bytes -/
def vsS (s : Sh) : Bool := vsB s.name s.wide s.high s.len
def stT (s : Sh) : ByteArray := ⟨(st6 s.name s.wide s.high (packU s.cell s.len)).toArray⟩
theorem stT_size {s : Sh} (h : vsS s = true) : (stT s).size ≤ 1048 := by
  obtain ⟨⟨hs1, hs8⟩, hf⟩ := vsB_yes h
  obtain ⟨_, _, hn1, hn2⟩ := fvB_yes hf
  have := (packU_bd (p := s.cell) hn1 hn2).2
  show (st6 s.name s.wide s.high (packU s.cell s.len)).toArray.size ≤ _
  rw [List.size_toArray]
  unfold st6
  rw [List.length_append, st5_len]
  show _ + 2 ≤ _
  omega

/-- the bytes of the first shapes -/
def catT (f : Nat → Sh) : Nat → ByteArray
  | 0 => ByteArray.empty
  | k + 1 => catT f k ++ stT (f k)
theorem catT_size {f : Nat → Sh} : ∀ {k : Nat}, (∀ j, j < k → vsS (f j) = true) → (catT f k).size ≤ 1048 * k
  | 0, _ => Nat.le_refl _
  | k + 1, h => by
    have h1 := catT_size (f := f) (k := k) fun j hj => h j (by omega)
    have h2 := stT_size (h k (by omega))
    show (catT f k ++ stT (f k)).size ≤ _
    rw [ByteArray.size_append]
    omega

/-- the answer -/
def stsB (f : Nat → Sh) (n : Nat) : Bool := decide (n ≤ 8) && (List.range n).all fun j => vsS (f j)
def stsT (f : Nat → Sh) (n : Nat) : ByteArray := if stsB f n = true then catT f n else ByteArray.empty
theorem stsB_many {f : Nat → Sh} {n : Nat} (h : ¬ n ≤ 8) : stsB f n = false := by unfold stsB; rw [decide_eq_false h]; rfl
theorem stsB_no {f : Nat → Sh} {n k : Nat} (hk : k < n) (h : vsS (f k) = false) : stsB f n = false := by
  unfold stsB
  rw [show ((List.range n).all fun j => vsS (f j)) = false from List.all_eq_false.2 ⟨k, List.mem_range.2 hk, by rw [h]; decide⟩, Bool.and_false]
theorem stsB_yes {f : Nat → Sh} {n : Nat} (h : n ≤ 8) (g : ∀ j, j < n → vsS (f j) = true) : stsB f n = true := by
  unfold stsB
  rw [decide_eq_true h, Bool.true_and]
  exact List.all_eq_true.2 fun j hj => g j (List.mem_range.1 hj)
theorem stsT_no {f : Nat → Sh} {n : Nat} (h : stsB f n = false) : stsT f n = ByteArray.empty := by unfold stsT; rw [h]; rfl
theorem stsT_yes {f : Nat → Sh} {n : Nat} (h : stsB f n = true) : stsT f n = catT f n := if_pos h

def tS (f : Nat → Sh) (n : Nat) : List ByteArray := (List.range n).map fun j => stT (f j)
theorem tS_len (f : Nat → Sh) (n : Nat) : (tS f n).length = n := by simp [tS]
theorem tS_at (f : Nat → Sh) (n j : Nat) (h : j < (tS f n).length) : (tS f n)[j] = stT (f j) := by simp [tS]
theorem join_flat (xs : List (List UInt8)) : Lib.join xs [] = xs.flatten := by
  cases xs with
  | nil => rfl
  | cons x r => rw [Lib.join_cons]; simp [Lib.joinTail]
theorem tS_join (f : Nat → Sh) (n : Nat) : Lib.join ((tS f n).map (·.data.toList)) (⟨#[]⟩ : ByteArray).data.toList = (catT f n).data.toList := by
  show Lib.join _ [] = _
  rw [join_flat]
  unfold tS
  induction n with
  | zero => rfl
  | succ n ih =>
    rw [List.range_succ, List.map_append, List.map_append, List.flatten_append, ih]
    show _ = (catT f n ++ stT (f n)).data.toList
    simp [ByteArray.data_append]

set_option maxHeartbeats 8000000 in
set_option maxRecDepth 100000 in
theorem specSts (A : Option Addr) (n c : Nat) (f : Nat → Sh) (w : World) (hr : RowSh w w.heap.size A n f) (hn : n ≤ 1048576) (hF : ∀ j, j < n → (f j).name.size ≤ 1048576 ∧ (f j).len ≤ 1048576) :
    Calls Try.prog 39 #[.slice A n c] w fun e w' => e = .returned (.tuple #[.string (stsT f n), .bool (stsB f n)]) ∧ Hid (Below w.heap.size w w') := by
  have HR := Lib.hid hr
  have HF := Lib.hid hF
  clear hr hF
  by_cases h8 : n ≤ 8
  · go_enter Try.func39, Try.ntmps39
    go_wp2_with fail
    go_loopw [4, 11] (fun t i wr => ∃ k : Nat, k ≤ n ∧ i = .int .i64 k ∧ t = .string (catT f k) ∧ Hid (∀ j, j < k → vsS (f j) = true) ∧ Hid (Below w.heap.size w wr)) (fun _ i _ => n - (intOf i).toNat)
    case atStart => exact ⟨0, Nat.zero_le _, rfl, rfl, fun j h => absurd h (Nat.not_lt_zero _), Below.refl _ _⟩
    case round =>
      obtain ⟨k, hk, rfl, rfl, hJ, hB⟩ := hrel
      by_cases hlt : k < n
      · obtain ⟨b, off, Q, c', rfl, hb, H0⟩ := HR.out.at hlt
        have H1 := H0.below hB.out hb
        have hsz := hB.out.size
        have V1 : VarQ wr b (off + k * 4) (f k).name (f k).wide (f k).high Q (f k).len c' := ⟨by omega, H1.c0, H1.c1, H1.c2, H1.c3⟩
        have HC := Lib.hid (specSho b (off + k * 4) (f k).name (f k).wide (f k).high Q (f k).len c' wr V1 (HF.out k hlt).1 (HF.out k hlt).2)
        have HV := Lib.hid V1
        have HRw := Lib.hid (H1.row.mono hsz)
        clear H0 H1 hsz V1
        cases hv : vsS (f k)
        · have N := Lib.hid (stsB_no hlt hv)
          have N2 := Lib.hid (stsT_no N.out)
          rw [show vsB (f k).name (f k).wide (f k).high (f k).len = false from hv] at HC
          clear hv hJ HV HRw
          go_wp2_with (go_at_call 109; refine HC.out.mono ?_; rintro e w' ⟨rfl, k2, rfl⟩)
          go_ret2
          exact ⟨by rw [N.out, N2.out]; rfl, belowN hB.out⟩
        · have HJ : Hid (∀ j, j < k + 1 → vsS (f j) = true) := fun j hj => by
            by_cases e : j = k
            · subst e; exact hv
            · exact hJ.out j (by omega)
          have HS : Hid (∀ W, VarQ W b (off + k * 4) (f k).name (f k).wide (f k).high Q (f k).len c' → RowV W W.heap.size Q (f k).len (bo (f k).cell) → Calls Try.prog 110 #[.pointer (some ⟨b, off + k * 4, none⟩)] W fun e w' => e = .returned (.string (stT (f k))) ∧ Hid (Below W.heap.size W w')) := fun W V h => specSto1o b (off + k * 4) (f k).name (f k).wide (f k).high Q (f k).len c' (f k).cell W V h (HF.out k hlt).1 hv
          have z1 := catT_size hJ.out
          have z2 := stT_size hv
          have a1 : ∀ W : World, (Op.stringOp .add (catT f k) (stT (f k))).run Try.prog W = .ok (.string (catT f k ++ stT (f k))) W := fun W => run_string_add_sum W _ _ (by omega)
          rw [show vsB (f k).name (f k).wide (f k).high (f k).len = true from hv] at HC
          clear hv hJ z1 z2
          go_wp2_with (first
            | (go_at_call 109; refine HC.out.mono ?_; rintro e w' ⟨rfl, k2, rfl⟩)
            | (go_at_call 110; refine (HS.out _ (HV.out.below (belowN (Below.refl _ _))) (HRw.out.carry (belowN (Below.refl _ _)))).mono ?_; rintro e w2 ⟨rfl, hb2⟩; have HB2 := Lib.hid (hB.out.trans ((belowN (Below.refl _ _)).trans hb2.out |>.mono hB.out.size)); clear hb2))
          go_roundw
          case rel => exact ⟨k + 1, by omega, by go_num, rfl, HJ, HB2⟩
          case measure => simp [intOf]; omega
      · have N : Hid (stsB f n = true) := stsB_yes h8 fun j hj => hJ.out j (by omega)
        have N2 := Lib.hid (stsT_yes N.out)
        have HK : Hid (k = n) := by show k = n; omega
        go_wp2
        go_ret2
        exact ⟨by rw [N.out, N2.out, HK.out]; rfl, hB⟩
  · have N : Hid (stsB f n = false) := stsB_many h8
    have N2 := Lib.hid (stsT_no N.out)
    go_enter Try.func39, Try.ntmps39
    go_wp2_with fail
    go_ret2
    exact ⟨by rw [N.out, N2.out]; rfl, Below.refl _ _⟩

theorem info_strS : (Try.prog.info? 9).map (fun i => (i.zero, i.size, i.bytes)) = some (some (.string ByteArray.empty), 1, 16) := by kernel_rfl

/-- the texts of the first shapes; behind them there is none yet -/
def rowT (f : Nat → Sh) (k : Nat) : Nat → Value := fun j => .string (if j < k then stT (f j) else ByteArray.empty)
theorem rowT_put (f : Nat → Sh) (k : Nat) : ∀ j, put (rowT f k) k (.string (stT (f k))) j = rowT f (k + 1) j := fun j => by
  unfold put rowT
  by_cases e : j = k
  · subst e; rw [if_pos rfl, if_pos (by omega)]
  · rw [if_neg e]
    by_cases h : j < k
    · rw [if_pos h, if_pos (by omega)]
    · rw [if_neg h, if_neg (by omega)]

theorem implSho (s : Sh) (Q : Option Addr) (c : Nat) (W : World) (hr : RowV W W.heap.size Q s.len (bo s.cell)) (hc : s.len ≤ c) (hs : s.name.size ≤ 1048576) (hn : s.len ≤ 1048576) :
    Calls Try.prog 112 #[.agg #[.string s.name, .int .i64 s.wide, .int .i64 s.high, .slice Q s.len c]] W fun e w' => e = .returned (.tuple #[.string (if vsS s = true then stT s else ⟨#[]⟩), .bool (vsS s)]) ∧ Hid (Below W.heap.size W w') := by
  cases hv : vsS s with
  | false => exact implShsNo s.name s.wide s.high Q s.len c W hs hn hv
  | true => exact implShs s.name s.wide s.high Q s.len c s.cell W hr hc hs hn hv

set_option maxHeartbeats 8000000 in
set_option maxRecDepth 100000 in
theorem implEaS (A : Option Addr) (n c : Nat) (f : Nat → Sh) (w : World) (hr : RowSh w w.heap.size A n f) (hn : n ≤ 8) (hF : ∀ j, j < n → (f j).name.size ≤ 1048576 ∧ (f j).len ≤ 1048576) :
    Calls Try.prog 111 #[.slice A n c, .func (.func 112) #[] #[]] w fun e w' => ((stsB f n = true ∧ ∃ G, e = .returned (.tuple #[.slice (some ⟨G, 0, none⟩) n n, .bool true]) ∧ Hid (RowM w' G n (rowT f n))) ∨ (stsB f n = false ∧ e = .returned (.tuple #[.slice none 0 0, .bool false]))) ∧ Hid (Below w.heap.size w w') := by
  have HR := Lib.hid hr
  have HF := Lib.hid hF
  clear hr hF
  obtain ⟨i0, hi, hz0, hz1, hz2⟩ := info_parts info_strS
  have hmk := fun W => run_make_rowN (P := Try.prog) 144 9 i0 (.string ByteArray.empty) Try.underlying144 hi hz0 .i64 .i64 n n (Nat.le_refl _) (by rw [hz2]; omega) (by omega) W
  rw [hz1, Nat.mul_one] at hmk
  have C0 : Hid (RowM _ _ n (rowT f 0)) := (rowM_new w n (.string ByteArray.empty) 9).ext fun j _ => by unfold rowT; rw [if_neg (Nat.not_lt_zero _)]
  have B0 : Hid (Below w.heap.size w (w.alloc (.cells (madeCells #[.string ByteArray.empty] n) 9))) := (Below.refl _ _).alloc (Nat.le_refl _) _
  clear hi hz0 hz1 hz2
  go_enter Try.func111, Try.ntmps111
  go_wp2_with fail
  clear hmk
  generalize w.alloc (.cells (madeCells #[.string ByteArray.empty] n) 9) = w1 at *
  generalize hG : w.heap.size = G at *
  have HG := Lib.hid hG
  clear hG
  go_loopw [16] (fun i wr => ∃ k : Nat, k ≤ n ∧ i = .int .i64 k ∧ Hid (RowM wr G n (rowT f k)) ∧ Hid (Below G w wr) ∧ Hid (∀ j, j < k → vsS (f j) = true)) (fun i _ => n - (intOf i).toNat)
  case atStart => exact ⟨0, Nat.zero_le _, rfl, C0, B0, fun j h => absurd h (Nat.not_lt_zero _)⟩
  case round =>
    obtain ⟨k, hk, rfl, hC, hB, hJ⟩ := hrel
    by_cases hlt : k < n
    · obtain ⟨b, off, Q, c', rfl, hb, H0⟩ := HR.out.at hlt
      obtain ⟨a0, a1, a2, a3, ar, ac⟩ := H0.below hB.out hb
      have hsz : Hid (G ≤ wr.heap.size) := Nat.le_of_lt hC.out.lt
      have HC := Lib.hid (fun W (hW : Below wr.heap.size wr W) => implSho (f k) Q c' W ((ar.mono hsz.out).carry hW) ac (HF.out k hlt).1 (HF.out k hlt).2)
      have HA : Hid (Below wr.heap.size wr (wr.alloc (.cells #[.string (f k).name, .int .i64 (f k).wide, .int .i64 (f k).high, .slice Q (f k).len c'] 103))) := (Below.refl _ _).alloc (Nat.le_refl _) _
      have HC9 := Lib.hid (HC.out _ HA.out)
      clear ar ac H0 HC
      cases hv : vsS (f k)
      · have N := Lib.hid (stsB_no hlt hv)
        rw [hv] at HC9
        clear hv hJ
        go_wp2_with (go_at_call 112; refine HC9.out.mono ?_; rintro e w2 ⟨rfl, hb2⟩)
        go_ret2
        exact ⟨.inr ⟨N.out, rfl⟩, by rw [HG.out]; exact hB.out.trans ((HA.out.trans (hb2.out.mono HA.out.size)).mono hsz.out)⟩
      · have HJ : Hid (∀ j, j < k + 1 → vsS (f j) = true) := fun j hj => by
          by_cases e : j = k
          · subst e; exact hv
          · exact hJ.out j (by omega)
        rw [hv, if_pos rfl] at HC9
        clear hv hJ
        go_wp2_with (go_at_call 112; refine HC9.out.mono ?_; rintro e w2 ⟨rfl, hb2⟩; have hb9 := HA.out.trans (hb2.out.mono HA.out.size); have HC2 := Lib.hid (hC.out.below hb9); have hd := HC2.out.cell k hlt; unfold rowT at hd; have hf := HC2.out.free k hlt; have HB3 := Lib.hid (hB.out.trans (hb9.mono hsz.out)); clear hb2 hb9)
        have hs2 := Lib.hid ((HC2.out.set (u := .string (stT (f k))) hlt).ext fun j _ => rowT_put f k j)
        have hs3 : Hid (Below G w (w2.setCell ⟨G, k, none⟩ (.string (stT (f k))))) := HB3.out.setCell (Nat.le_refl _) _
        clear hd hf hC hB HC2 HB3
        go_roundw
        case rel => exact ⟨k + 1, by omega, by go_num, hs2, hs3, HJ⟩
        case measure => simp [intOf]; omega
    · have HK : Hid (k = n) := by show k = n; omega
      have N : Hid (stsB f n = true) := stsB_yes hn fun j hj => hJ.out j (by omega)
      go_wp2
      go_ret2
      exact ⟨.inl ⟨N.out, G, rfl, by rw [HK.out] at hC; exact hC⟩, by rw [HG.out]; exact hB⟩

set_option maxHeartbeats 8000000 in
set_option maxRecDepth 100000 in
theorem implSts (A : Option Addr) (n c : Nat) (f : Nat → Sh) (w : World) (hr : RowSh w w.heap.size A n f) (hn : n ≤ 1048576) (hF : ∀ j, j < n → (f j).name.size ≤ 1048576 ∧ (f j).len ≤ 1048576) :
    Calls Try.prog 40 #[.slice A n c] w fun e w' => e = .returned (.tuple #[.string (stsT f n), .bool (stsB f n)]) ∧ Hid (Below w.heap.size w w') := by
  by_cases h8 : n ≤ 8
  · have HC := Lib.hid (implEaS A n c f w hr h8 hF)
    clear hr hF
    go_enter Try.func40, Try.ntmps40
    go_wp2_with fail
    refine HC.out.mono ?_
    rintro e w1 ⟨hcase, hb⟩
    clear HC
    rcases hcase with ⟨hy, G, rfl, hM⟩ | ⟨hy, rfl⟩
    · have N := Lib.hid hy
      have N2 := Lib.hid (stsT_yes hy)
      have hall : ∀ j, j < n → vsS (f j) = true := by
        have h2 := hy
        unfold stsB at h2
        rw [Bool.and_eq_true] at h2
        exact fun j hj => List.all_eq_true.1 h2.2 j (List.mem_range.2 hj)
      have hz := catT_size hall
      have hcl : ∀ (j : Nat) x, (tS f n)[j]? = some x → w1.cell? ⟨G, 0 + j, none⟩ = some (.string x) := by
        intro j x hx
        obtain ⟨hj, rfl⟩ := List.getElem?_eq_some_iff.1 hx
        rw [tS_len] at hj
        rw [Nat.zero_add, hM.out.cell j hj, tS_at]
        unfold rowT
        rw [if_pos hj]
      have hjl : (Lib.join ((tS f n).map (·.data.toList)) (⟨#[]⟩ : ByteArray).data.toList).length ≤ 140737488355328 := by
        rw [tS_join]
        show (catT f n).data.size ≤ _
        have : (catT f n).data.size = (catT f n).size := rfl
        omega
      have HJ := Lib.hid (Any.strings_Join Go.Proofs.Try.lays156 Go.Proofs.Try.Builder_Extra_156 G 0 n (tS f n) ⟨#[]⟩ w1 hcl hM.out.lt (by rw [tS_len]; omega) (Nat.le_of_eq (tS_len f n)) hjl)
      rw [tS_join, tS_len] at HJ
      clear hcl hjl hz hall hM hy
      go_wp2_with (go_at_call 113; refine HJ.out.mono ?_; rintro e w2 ⟨rfl, hb2⟩; have HB2 := Lib.hid (hb.out.trans (hb2.mono hb.out.size)); clear hb2)
      go_ret2
      exact ⟨by rw [N.out, N2.out]; rfl, HB2⟩
    · have N := Lib.hid hy
      have N2 := Lib.hid (stsT_no hy)
      clear hy
      go_wp2_with fail
      go_ret2
      exact ⟨by rw [N.out, N2.out]; rfl, hb⟩
  · have N : Hid (stsB f n = false) := stsB_many h8
    have N2 := Lib.hid (stsT_no N.out)
    clear hr hF
    go_enter Try.func40, Try.ntmps40
    go_wp2_with fail
    go_ret2
    exact ⟨by rw [N.out, N2.out]; rfl, Below.refl _ _⟩

end Go.Proofs.Yteojpmnnpinpeaa
