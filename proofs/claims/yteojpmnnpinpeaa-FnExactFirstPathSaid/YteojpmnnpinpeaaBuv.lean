/-
  What is proved here: what the program's BurnTimes asks of others: the sides of a cell that are among cells of a longer row, whether a cell is above, the greatest of integers; arrays of 256 bools as values. Conditions: as each theorem names.
-/
import Derived.Test.YteojpmnnpinpeaaBup
import Derived.Test.YteojpmnnpinpeaaRpi
import Derived.Deep.WholeRow
import Derived.Deep.MidRow
import Derived.ChangeKeysEq
import Derived.Laws.StructEq
namespace Go.Proofs.Yteojpmnnpinpeaa
open Go.RowKit
set_option linter.unusedVariables false

set_option maxHeartbeats 2000000 in
theorem implAmoN (x y i : Int) (F : Option Addr) (n f N : Nat) (A : Option Addr) (c : Nat) (p : Nat → Bool) (hN : n ≤ N) (hN2 : N ≤ 1048576) (hv : fvB x y n = true) (h0 : 0 ≤ i) (hi : i < x * y) (w : World) (hr : RowV w w.heap.size A N (bo p)) :
    Calls Try.prog 83 #[.agg #[.int .i64 x, .int .i64 y, .slice F n f], .int .i64 i, .slice A N c] w fun e w' => ∃ X' c', e = .returned (.slice X' (fulS p x y i) c') ∧ Hid (Below w.heap.size w w') := by
  obtain ⟨⟨hx, hy⟩, hnn, hn1, hn2⟩ := fvB_yes hv
  have hsd : sidB x y = true := by
    cases e : sidB x y with
    | true => rfl
    | false => rw [fvB_1 e] at hv; cases hv
  have b1 : Below w.heap.size w (w.alloc (.cells #[.int .i64 x, .int .i64 y, .slice F n f] 35)) := (Below.refl _ _).alloc (Nat.le_refl _) _
  have b2 : Below w.heap.size w ((w.alloc (.cells #[.int .i64 x, .int .i64 y, .slice F n f] 35)).alloc (.cells #[.slice A N c] 28)) := b1.alloc (by simp) _
  have hsz : ((w.alloc (.cells #[.int .i64 x, .int .i64 y, .slice F n f] 35)).alloc (.cells #[.slice A N c] 28)).heap.size = w.heap.size + 2 := by simp
  have c1 := cell1_new (w.alloc (.cells #[.int .i64 x, .int .i64 y, .slice F n f] 35)) (.slice A N c) 28
  rw [show (w.alloc (.cells #[.int .i64 x, .int .i64 y, .slice F n f] 35)).heap.size = w.heap.size + 1 by simp] at c1
  have C0 : Clo ((w.alloc (.cells #[.int .i64 x, .int .i64 y, .slice F n f] 35)).alloc (.cells #[.slice A N c] 28)) (w.heap.size + 1) (w.heap.size + 2) A N c p := ⟨by omega, c1, (hr.below b2).mono (by omega)⟩
  have HS := Lib.hid (fun W => implSid x y i hsd h0 hi W)
  have HCL := Lib.hid (fun j hj => have h9 := sidL_cells (n := n) hx.1 h0 hi hnn j hj; (⟨h9.1, by omega⟩ : 0 ≤ atI (sidL x y i) j ∧ atI (sidL x y i) j < (N : Int)))
  have HB := Lib.hid b2
  have HSZ := Lib.hid hsz
  have HC0 := Lib.hid C0
  have hl := sidL_len x y i
  clear b1 b2 hsz c1 C0 hr hv hx hy hnn hsd
  go_enter Try.func83, Try.ntmps83
  go_wp2_with fail
  generalize ((w.alloc (.cells #[.int .i64 x, .int .i64 y, .slice F n f] 35)).alloc (.cells #[.slice A N c] 28)) = b at *
  refine (HS.out b).mono ?_
  rintro e w2 ⟨X, cx, rfl, hO, hb⟩
  have hO2 := hO.out
  rw [HSZ.out] at hO2
  have HC2 := Lib.hid (HC0.out.butIn (ButIn.of hb.out) (by rw [HSZ.out]; exact Nat.le_refl _) (.inr rfl))
  have HBW : Hid (w.heap.size + 2 ≤ w2.heap.size) := by rw [← HSZ.out]; exact hb.out.size
  have HD := Lib.hid (delF (w.heap.size + 1) (w.heap.size + 2) A N c p (sidL x y i) X cx (w.heap.size + 3) w2.heap.size HCL.out (by omega) hl hO2.cap w2 HC2.out (by omega) HBW.out hO2.rowW)
  have HB2 := Lib.hid (HB.out.trans (hb.out.mono (by rw [HSZ.out]; omega)))
  clear hO hO2 hb HS HC0 HC2 HB HSZ
  go_wp2_with fail
  refine HD.out.mono ?_
  rintro e w3 ⟨X', c', rfl, hB3⟩
  have HB3 := Lib.hid (HB2.out.trans (hB3.out.toBelow (by omega) (by have := HBW.out; omega)))
  clear hB3 HD HB2
  go_wp2_with fail
  go_ret
  exact ⟨X', c', rfl, HB3⟩

theorem isAbvB (x y c : Int) (F : Option Addr) (n f : Nat) (w : World) : Calls Try.prog 82 #[.agg #[.int .i64 x, .int .i64 y, .slice F n f], .int .i64 c] w fun e w' => e = .returned (.bool (decide (c < x))) ∧ Hid (Below w.heap.size w w') := by
  have B0 := Lib.hid (below_var w x y F n f 35)
  go_enter Try.func82, Try.ntmps82
  go_wp2
  go_ret
  exact ⟨rfl, B0⟩

theorem isBlwB (x y c : Int) (F : Option Addr) (n f : Nat) (w : World) (hx : 1 ≤ x ∧ x ≤ 16) (hn : n ≤ 256) : Calls Try.prog 88 #[.agg #[.int .i64 x, .int .i64 y, .slice F n f], .int .i64 c] w fun e w' => e = .returned (.bool (decide ((n : Int) - x ≤ c))) ∧ Hid (Below w.heap.size w w') := by
  have HB := Lib.hid (below_var w x y F n f 35)
  have hw : IntKind.i64.wrap ((n : Int) - x) = (n : Int) - x := IntWalk.i64_in _ (by omega)
  have hge : Hid (∀ a b : Int, decide (a ≥ b) = decide (b ≤ a)) := fun _ _ => rfl
  go_enter Try.func88, Try.ntmps88
  go_wp2_with fail
  go_ret
  exact ⟨by first | rfl | (congr 2), HB⟩

set_option maxHeartbeats 4000000 in
theorem implMaxI (A : Option Addr) (n c Z : Nat) (D : Nat → Int) (w : World) (hr : RowV w Z A n (iv D)) (hn : n ≤ 1048576) (h1 : 1 ≤ n) (hlow : -1 ≤ D 0) :
    Calls Try.prog 84 #[.slice A n c] w fun e w' => e = .returned (.int .i64 (maxD D n)) ∧ ∃ k, w' = w.drewN k := by
  have HR := Lib.hid hr
  have M1 : Hid (maxD D 1 = D 0) := by
    show (if -1 < D 0 then D 0 else -1) = D 0
    split <;> omega
  obtain ⟨b, off, rfl, hb, hcell⟩ := hr (by omega)
  have hc0 := hcell 0 (by omega)
  rw [Nat.add_zero] at hc0
  unfold iv at hc0
  clear hcell hr
  go_enter Try.func84, Try.ntmps84
  go_wp2_with fail
  clear hc0
  go_loopw [3, 4] (fun m i wr => ∃ k : Nat, 1 ≤ k ∧ k ≤ n ∧ i = .int .i64 k ∧ m = .int .i64 (maxD D k) ∧ ∃ q, wr = w.drewN q) (fun _ i _ => n - (intOf i).toNat)
  case atStart => exact ⟨1, Nat.le_refl _, h1, rfl, by rw [M1.out], 0, rfl⟩
  case round =>
    obtain ⟨k, hk1, hk, rfl, rfl, q, rfl⟩ := hrel
    by_cases hlt : k < n
    · obtain ⟨b2, off2, e2, hb2, hcell⟩ := HR.out (by omega)
      injection e2 with e2
      injection e2 with e3 e4 _
      subst e3 e4
      have hc := hcell k hlt
      unfold iv at hc
      have MS : Hid (maxD D (k + 1) = if maxD D k < D k then D k else maxD D k) := rfl
      clear hcell hb2
      generalize D k = d at *
      generalize maxD D k = m at *
      by_cases hm : m < d
      · rw [if_pos hm] at MS
        go_wp2_with fail
        go_roundw
        case rel => exact ⟨k + 1, by omega, by omega, by go_num, by rw [MS.out], _, rfl⟩
        case measure => simp [intOf]; omega
      · rw [if_neg hm] at MS
        go_wp2_with fail
        go_roundw
        case rel => exact ⟨k + 1, by omega, by omega, by go_num, by rw [MS.out], _, rfl⟩
        case measure => simp [intOf]; omega
    · have HK : Hid (k = n) := by show k = n; omega
      go_wp2_with fail
      go_ret
      exact ⟨by rw [HK.out]; rfl, _, rfl⟩

/-- 256 bools as a value -/
def arrL (p : Nat → Bool) : List Value := (List.range 256).map fun j => .bool (p j)
def arrA (p : Nat → Bool) : Array Value := (arrL p).toArray
def zeroA : Array Value := Array.replicate 256 (.bool false)
theorem arrL_len (p : Nat → Bool) : (arrL p).length = 256 := by simp [arrL]
theorem arrA_size (p : Nat → Bool) : (arrA p).size = 256 := by simp [arrA, arrL]
theorem arrL_at {p : Nat → Bool} {j : Nat} (hj : j < 256) : (arrL p)[j]? = some (.bool (p j)) := by simp [arrL, hj]
theorem info_mask : (Try.prog.info? 117).map (fun i => (i.zero, i.size)) = some (some (.agg zeroA), 256) := by kernel_rfl
theorem und_mask : Try.prog.underlying 117 = some (.array 256 4) := by kernel_rfl
theorem size_mask (p : Nat → Bool) : (Try.prog.info? 117).map (·.size) = some (arrL p).length := by rw [arrL_len]; exact (zero_of_info info_mask).2
theorem range_of {w : World} {g : Nat} {p : Nat → Bool} (r : RowM w g 256 (bo p)) : w.rangeAt g 0 (arrL p) := fun j v hv => by
  have hj : j < 256 := by
    have := (List.getElem?_eq_some_iff.1 hv).1
    rwa [arrL_len] at this
  rw [arrL_at hj] at hv
  injection hv with hv
  subst hv
  rw [Nat.zero_add]
  exact r.cell j hj
theorem arr_one (p : Nat → Bool) : (arrA p).all (·.oneCell') = true := by
  rw [Array.all_eq_true_iff_forall_mem]
  intro v hv
  unfold arrA arrL at hv
  rw [List.mem_toArray, List.mem_map] at hv
  obtain ⟨j, _, rfl⟩ := hv
  rfl
theorem row_arr (w : World) (p : Nat → Bool) (t : TypeId) : RowM (w.alloc (.cells (arrA p) t)) w.heap.size 256 (bo p) := by
  refine ⟨by simp, fun j hj => ?_, fun j _ => ?_⟩
  · have h : (arrA p)[j]? = some (.bool (p j)) := by unfold arrA; rw [List.getElem?_toArray]; exact arrL_at hj
    simp [World.cell?, World.alloc, -World.alloc_eq, h, bo]
  · simp [World.frozen?, World.alloc, -World.alloc_eq]
theorem wpStoA {ops : Array Oper} {rest : List Oper} {op : Oper} {a : Act} {Q : Exit → Act → World → Prop} {w : World} {p : Nat → Bool} (hgd : op.guard = none) (x y : Operand) (ho : op.op = .store 117 x y)
    (hx : a.eval x = .pointer (some ⟨w.heap.size, 0, none⟩)) (hy : a.eval y = .agg (arrA p))
    (h : wpList Try.prog ops Q rest (a.put op.dst undef) (w.alloc (.cells (arrA p) 117))) : wpList Try.prog ops Q (op :: rest) a (w.alloc (.cells zeroA 117)) :=
  wpList_plain hgd fun _ hK => by
    unfold Oper.wp execOp
    simp only [ho, hx, hy, Instr.storeAt, Instr.sureAddr, Sem.run_bind, Sem.run_pure, Result.andThen_ok, run_storeVar_new w 117 zeroA (arrA p) (by rw [arrA_size]; exact (zero_of_info info_mask).2) (by rw [arrA_size]; simp [zeroA]) (arr_one p)]
    exact hK _ _ h
theorem wpLoaA {ops : Array Oper} {rest : List Oper} {op : Oper} {a : Act} {Q : Exit → Act → World → Prop} {w : World} {g : Nat} {p : Nat → Bool} (hgd : op.guard = none) (x : Operand) (ho : op.op = .load 117 x)
    (r : RowM w g 256 (bo p)) (hx : a.eval x = .pointer (some ⟨g, 0, none⟩)) (h : wpList Try.prog ops Q rest (a.put op.dst (.agg (arrA p))) w) : wpList Try.prog ops Q (op :: rest) a w :=
  wpList_load_mid hgd 117 x ho g 0 hx (arrL p) _ (range_of r) und_mask rfl (size_mask p) h
theorem run_loaA {W : World} {g : Nat} {p : Nat → Bool} (r : RowM W g 256 (bo p)) : (Instr.loadAt 117 (.pointer (some ⟨g, 0, none⟩))).run Try.prog W = .ok (.agg (arrA p)) W :=
  run_loadAt_mid W g 0 117 (arrL p) _ (range_of r) und_mask rfl (size_mask p)

theorem run_arrA (g : Nat) (W : World) : (Instr.arrayAt 117 (.slice (some ⟨g, 0, none⟩) 256 256)).run Try.prog W = .ok (.pointer (some ⟨g, 0, none⟩)) W := by
  simp [Instr.arrayAt, Sem.run_bind, run_underlying und_mask]
theorem run_slaA (g : Nat) (W : World) : (Instr.sliceAt 117 (.pointer (some ⟨g, 0, none⟩)) none none none).run Try.prog W = .ok (.slice (some ⟨g, 0, none⟩) 256 256) W := by
  obtain ⟨i, hi⟩ : ∃ i, Try.prog.info? 4 = some i := Option.isSome_iff_exists.1 (by kernel_rfl)
  have hc : Try.prog.cellsOf 4 = 1 := by kernel_rfl
  simp [Instr.sliceAt, Instr.sureAddr, Instr.sliceBounds, Sem.run_bind, run_underlying und_mask, run_sizeOf W hi, hc, Addr.add]
theorem run_ixaA (g s : Nat) (hs : s < 256) (W : World) : (Instr.indexAt 117 (.pointer (some ⟨g, 0, none⟩)) (.int .i64 (s : Int))).run Try.prog W = .ok (.pointer (some ⟨g, s, none⟩)) W := by
  obtain ⟨i, hi⟩ : ∃ i, Try.prog.info? 4 = some i := Option.isSome_iff_exists.1 (by kernel_rfl)
  simp [Instr.indexAt, asIntOf, Instr.sureAddr, Sem.run_bind, run_underlying und_mask, Addr.add]
  rw [if_pos hs]
  by_cases h : s = 0
  · subst h; rfl
  · rw [if_neg h]
theorem eqItems_bools (p q : Nat → Bool) (W : World) : ∀ is : List Nat, (∀ i ∈ is, i < 256) → (Op.eqItems 9999 4 1 (arrA p) (arrA q) is).run Try.prog W = .ok (is.all fun i => p i == q i) W
  | [], _ => by simp [Op.eqItems]
  | i :: is, h => by
    have hi := h i (List.mem_cons_self ..)
    have e1 : (arrA p)[i * 1]? = some (.bool (p i)) := by rw [Nat.mul_one]; unfold arrA; rw [List.getElem?_toArray]; exact arrL_at hi
    have e2 : (arrA q)[i * 1]? = some (.bool (q i)) := by rw [Nat.mul_one]; unfold arrA; rw [List.getElem?_toArray]; exact arrL_at hi
    have p1 := run_part_plain (P := Try.prog) W (e := 4) (by kernel_rfl) e1
    have p2 := run_part_plain (P := Try.prog) W (e := 4) (by kernel_rfl) e2
    have p3 := run_equalIn_bool' (P := Try.prog) W 9998 4 (p i) (q i) (by kernel_rfl)
    simp only [Op.eqItems, Sem.run_bind, p1, p2, p3, Result.andThen_ok]
    have ih := eqItems_bools p q W is fun j hj => h j (List.mem_cons_of_mem _ hj)
    cases e : p i == q i with
    | false => simp [e]
    | true => simpa [e] using ih
theorem run_neqA (p q : Nat → Bool) (W : World) : (binOp .neq 117 (.agg (arrA p)) (.agg (arrA q))).run Try.prog W = .ok (.bool (!(List.range 256).all fun i => p i == q i)) W := by
  have hi : ∃ i, Try.prog.info? 4 = some i := by
    have h : (Try.prog.info? 4).isSome = true := by kernel_rfl
    exact Option.isSome_iff_exists.1 h
  obtain ⟨i, hi⟩ := hi
  have hc : Try.prog.cellsOf 4 = 1 := by kernel_rfl
  rw [run_neq_struct, run_equalIn_array W 9999 (arrA p) (arrA q) und_mask hi, hc, eqItems_bools p q W _ (fun i h => List.mem_range.1 h)]
  rfl
theorem guard_mask0 : Try.prog.eqGuardType Try.prog.depth 117 = false := by kernel_rfl
theorem yields_arr {ops : Array Oper} {S : World → Prop} {op : Oper} {a : Act} (hw : Region.wanted op (yielded ops a.tmps) = true) (x : Operand) (ho : op.op = .sliceToArrayPointer 117 x) (g : Nat) (hx : a.eval x = .slice (some ⟨g, 0, none⟩) 256 256) : YieldsIf Try.prog ops S op (.pointer (some ⟨g, 0, none⟩)) a :=
  .inl ⟨hw, fun w _ => by
    unfold execOp
    simp only [ho, hx, Sem.run_bind, run_arrA, Result.andThen_ok, Sem.run_pure]⟩
theorem yields_neq {ops : Array Oper} {S : World → Prop} {op : Oper} {a : Act} {A B : Array Value} {r : Bool} (hw : Region.wanted op (yielded ops a.tmps) = true) (x y : Operand) (u : TypeId) (ho : op.op = .binOp .neq 117 x y u) (hx : a.eval x = .agg A) (hy : a.eval y = .agg B) (hne : ∀ W, (binOp .neq 117 (.agg A) (.agg B)).run Try.prog W = .ok (.bool r) W) : YieldsIf Try.prog ops S op (.bool r) a :=
  .inl ⟨hw, fun w _ => by
    unfold execOp
    simp only [ho, hx, hy, Sem.run_bind, run_eqGuard_agg w .neq _ x y A B guard_mask0, hne, Result.andThen_ok, Sem.run_pure]⟩
theorem guard_mask : Try.prog.eqGuardType Try.prog.depth 117 = false := by kernel_rfl

end Go.Proofs.Yteojpmnnpinpeaa
