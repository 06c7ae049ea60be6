/-
  What is proved here: InvadeFrom of the model, as a walk. Conditions: weights of a field, a cell of it, at least one round and at most as many as it has cells.
-/
import Derived.Test.YthhimielelpcoaaIvw
import Derived.Test.YthhimielelpcoaaStw
import Derived.Deep.RegionHeld3
namespace Go.Proofs.Ythhimielelpcoaa
open Flt Go.RowKit
set_option linter.unusedVariables false
set_option linter.unusedSimpArgs false
attribute [local go_sem] run_store_bool

def lenV : Value → Nat
  | .slice _ n _ => n
  | _ => 0
theorem RowM.toV {w : World} {g n : Nat} {V : Nat → Value} (r : RowM w g n V) : RowV w w.heap.size (some ⟨g, 0, none⟩) n V := r.row
theorem Below.inB {G : Nat} {w w' : World} (h : Below G w w') : ButIn G w.heap.size w w' := ⟨h.os, h.tape, h.output, h.size, fun k hk hd => h.block k (by omega)⟩
theorem keep1 {W wa wb : World} {v o : Nat} {u : Value} (hb : Below wa.heap.size wa wb) (h0 : wa.cell? ⟨v, o, none⟩ = some u) (hB : Hid (Below W.heap.size W wa)) (hx : v < W.heap.size) : wb.cell? ⟨v, o, none⟩ = some u := by
  rw [hb.cell (p := ⟨v, o, none⟩) (Nat.lt_of_lt_of_le hx hB.out.size)]; exact h0
/-- what both give -/
def IvPost (x y : Int) (n a cnt : Nat) (zs : List Nat) (w : World) (e : Ending) (w' : World) : Prop :=
  ∃ A' c', e = .returned (.tuple #[.slice A' cnt c', .bool true]) ∧ Hid (RowW w' w.heap.size w'.heap.size A' cnt (iv (atI (ivJ (ltW zs) x y n a (cnt - 1)).2))) ∧ Hid (Below w.heap.size w w')

set_option maxHeartbeats 16000000 in
set_option maxRecDepth 1000000 in
theorem specInvYes (x y : Int) (b off n c a cnt : Nat) (zs : List Nat) (w : World) (hb : b < w.heap.size) (hz : ∀ j, j < n → w.cell? ⟨b, off + j, none⟩ = some (.float .f32 (at0 zs j))) (hv : fvB x y n = true)
    (HW : Hid (Calls Try.prog 63 #[.slice (some ⟨b, off, none⟩) n c, .int .i64 x, .int .i64 y] w fun e w' => e = .returned (.bool true) ∧ Hid (Below w.heap.size w w'))) (ha : a < n) (hc : 1 ≤ cnt) (hc2 : cnt ≤ n) :
    Calls Try.prog 16 #[.slice (some ⟨b, off, none⟩) n c, .int .i64 x, .int .i64 y, .int .i64 (a : Nat), .int .i64 (cnt : Nat)] w (IvPost x y n a cnt zs w) := by
  obtain ⟨⟨hx, hy⟩, hnn, hn1, hn2⟩ := fvB_yes hv
  have hmul : IntKind.i64.wrap (x * y) = (n : Int) := by rw [← hnn]; exact IntWalk.i64_in _ (by omega)
  have hsub : IntKind.i64.wrap ((n : Int) - 1) = (n : Int) - 1 := IntWalk.i64_in _ (by omega)
  have HMK := Lib.hid (run_mkB n (by omega))
  have HA : Hid (∀ W, Calls Try.prog 46 #[.int .i64 (a : Nat), .int .i64 0, .int .i64 ((n : Int) - 1)] W fun e w' => e = .returned (.bool true) ∧ W = w') := fun W => by
    have := inS_any (a : Int) 0 ((n : Int) - 1) W
    rwa [inB_in (by omega) (by omega)] at this
  have HCN : Hid (∀ W, Calls Try.prog 46 #[.int .i64 (cnt : Nat), .int .i64 1, .int .i64 (n : Nat)] W fun e w' => e = .returned (.bool true) ∧ W = w') := fun W => by
    have := inS_any (cnt : Int) 1 (n : Int) W
    rwa [inB_in (by omega) (by omega)] at this
  have HTO : Hid (∀ (v g : Nat) (q : Nat → Bool) (i : Nat) (W : World), i < n → VarT W v x y (some ⟨g, 0, none⟩) n n → RowM W g n (bo q) → Calls Try.prog 49 #[.pointer (some ⟨v, 0, none⟩), .int .i64 (i : Int)] W fun e w' => e = .returned (.bool (decide (0 < fulS q x y i))) ∧ Hid (Below W.heap.size W w')) := fun v g q i W hi V R => specTou x y i v _ n n q hv (by omega) (by omega) W V R.toV
  have HGO : Hid (∀ k, k + 1 < n → 0 < (edL x y n (ivJ (ltW zs) x y n a k).1).length ∧ ∃ cc : Nat, ivB (ltW zs) (edL x y n (ivJ (ltW zs) x y n a k).1) = (cc : Int) ∧ cc < n ∧ ivJ (ltW zs) x y n a (k + 1) = (fiP (ivJ (ltW zs) x y n a k).1 cc, (ivJ (ltW zs) x y n a k).2 ++ [(cc : Int)])) := fun k hk => ivJ_go hx.1 hnn ha hk
  have HLN : Hid (∀ k, k < n → (ivJ (ltW zs) x y n a k).2.length = k + 1) := fun k hk => (ivJ_ok hx.1 hnn ha k hk).2.2
  have HED : Hid (∀ (q : Nat → Bool) (t : Nat), edg x y q t = (!q t && decide (0 < fulS q x y t))) := fun q t => rfl
  have HLT : Hid (∀ i m, ltW zs i m = decide (FloatKind.f32.format.order (at0 zs i) (at0 zs m) = some .lt)) := fun i m => rfl
  have HZ := Lib.hid hz
  clear hz hv hnn hx hy
  generalize hLT0 : ltW zs = lt at *
  have HL0 := Lib.hid hLT0
  clear hLT0
  go_enter Try.func16, Try.ntmps16
  go_wp2_with fail
  refine HW.out.mono ?_
  rintro e w1 ⟨rfl, hb1⟩
  go_upto_region 3 with (go_at_call 46; (with_reducible first | refine (HA.out _).mono ?_ | refine (HCN.out _).mono ?_); rintro e w' ⟨rfl, rfl⟩)
  have hmk := HMK.out
  have X1 := rowM_new w1 n (.bool false) 4
  have hB1 : Below w1.heap.size w1 (w1.alloc (.cells (madeCells #[.bool false] n) 4)) := (Below.refl _ _).alloc (Nat.le_refl _) _
  have hs1 : (w1.alloc (.cells (madeCells #[.bool false] n) 4)).heap.size = w1.heap.size + 1 := by simp
  obtain ⟨wa, hwa⟩ : ∃ wa, wa = w1.alloc (.cells (madeCells #[.bool false] n) 4) := ⟨_, rfl⟩
  rw [← hwa] at X1 hB1 hs1
  have hB2 := below_var wa x y (some ⟨w1.heap.size, 0, none⟩) n n 26
  have V2 := varT_new wa x y (some ⟨w1.heap.size, 0, none⟩) n n 26
  have hs2 : (wa.alloc (.cells #[.int .i64 x, .int .i64 y, .slice (some ⟨w1.heap.size, 0, none⟩) n n] 26)).heap.size = w1.heap.size + 1 + 1 := by simp [hs1]
  obtain ⟨wb, hwb⟩ : ∃ wb, wb = wa.alloc (.cells #[.int .i64 x, .int .i64 y, .slice (some ⟨w1.heap.size, 0, none⟩) n n] 26) := ⟨_, rfl⟩
  rw [← hwb] at hB2 V2 hs2
  rw [hs1] at V2
  have X2 := X1.below hB2
  have hbw : Hid (Below w.heap.size w wb) := hb1.out.trans ((hB1.mono hb1.out.size).trans (hB2.mono (by rw [hs1]; have := hb1.out.size; omega)))
  have X3 : Hid (RowM (wb.setCell ⟨w1.heap.size, a, none⟩ (.bool true)) w1.heap.size n (bo (ivJ lt x y n a 0).1)) := (X2.set (k := a) (u := .bool true) ha).ext fun j _ => by
    show (if j = a then Value.bool true else Value.bool false) = Value.bool (frQ [(a : Int)] j)
    rw [show frQ [(a : Int)] = fiP (frQ []) a from funext fun k => frQ_snoc (L := []) (c := a) (k := k)]
    show _ = Value.bool (decide (j = a) || frQ [] j)
    by_cases hj : j = a
    · rw [if_pos hj, decide_eq_true hj]; rfl
    · rw [if_neg hj, decide_eq_false hj]; rfl
  have V3 : Hid (VarT (wb.setCell ⟨w1.heap.size, a, none⟩ (.bool true)) (w1.heap.size + 1) x y (some ⟨w1.heap.size, 0, none⟩) n n) := V2.but ((ButIn.refl w1.heap.size (w1.heap.size + 1) wb).set (q := ⟨w1.heap.size, a, none⟩) (Nat.le_refl _) (Nat.lt_succ_self _) _) (.inr (Nat.le_refl _))
  have hs3 : (wb.setCell ⟨w1.heap.size, a, none⟩ (.bool true)).heap.size = w1.heap.size + 1 + 1 := by rw [← hs2]; simp [World.setCell]
  have hb3 : Hid (Below w.heap.size w (wb.setCell ⟨w1.heap.size, a, none⟩ (.bool true))) := hbw.out.setCell hb1.out.size _
  have v2 := V2.c2
  have hcl := X2.cell a ha
  have hfr := X2.free a ha
  have hWG : w.heap.size ≤ w1.heap.size := hb1.out.size
  clear hB1 hB2 X1 V2 X2 hb1 hs1 hs2 hbw HMK HA HCN HW
  go_upto_region 4 with fail
  rw [← hwa, ← hwb]
  clear hwa hwb hmk hmul hsub
  generalize hg : w1.heap.size = g at *
  have O4 : Hid (GroI ((wb.setCell ⟨g, a, none⟩ (.bool true)).alloc (.cells #[.int .i64 (a : Nat)] 2)) (g + 1 + 1) (ivJ lt x y n a 0).2 (some ⟨(wb.setCell ⟨g, a, none⟩ (.bool true)).heap.size, 0, none⟩) 1) := GroI.lit1 _ (by rw [hs3]; exact Nat.le_refl _) (a : Int)
  have b4 : Below (wb.setCell ⟨g, a, none⟩ (.bool true)).heap.size (wb.setCell ⟨g, a, none⟩ (.bool true)) ((wb.setCell ⟨g, a, none⟩ (.bool true)).alloc (.cells #[.int .i64 (a : Nat)] 2)) := (Below.refl _ _).alloc (Nat.le_refl _) _
  have X4 : Hid (RowM ((wb.setCell ⟨g, a, none⟩ (.bool true)).alloc (.cells #[.int .i64 (a : Nat)] 2)) g n (bo (ivJ lt x y n a 0).1)) := X3.out.below b4
  have V4 : Hid (VarT ((wb.setCell ⟨g, a, none⟩ (.bool true)).alloc (.cells #[.int .i64 (a : Nat)] 2)) (g + 1) x y (some ⟨g, 0, none⟩) n n) := V3.out.below b4
  have B4 : Hid (Below w.heap.size w ((wb.setCell ⟨g, a, none⟩ (.bool true)).alloc (.cells #[.int .i64 (a : Nat)] 2))) := hb3.out.trans (b4.mono hb3.out.size)
  clear X3 V3 hb3 b4
  go_upto_region 5 with fail
  clear v2 hcl hfr
  rw [hs3] at O4
  go_wp2_with fail
  generalize hw4 : (wb.setCell ⟨g, a, none⟩ (.bool true)).alloc (.cells #[.int .i64 (a : Nat)] 2) = w4 at *
  clear hw4 hs3 hg
  go_loopw [13] (fun o wr => ∃ (k : Nat) (A' : Option Addr) (c' : Nat), k + 1 ≤ cnt ∧ o = .slice A' (ivJ lt x y n a k).2.length c' ∧ Hid (GroI wr (g + 1 + 1) (ivJ lt x y n a k).2 A' c') ∧ Hid (RowM wr g n (bo (ivJ lt x y n a k).1)) ∧ Hid (VarT wr (g + 1) x y (some ⟨g, 0, none⟩) n n) ∧ Hid (Below w.heap.size w wr)) (fun o _ => cnt - lenV o)
  case atStart => exact ⟨0, _, _, hc, rfl, O4, X4, V4, B4⟩
  case round =>
    clear O4 X4 V4 B4
    obtain ⟨k, A', c', hk, rfl, hO, hX, hV, hB⟩ := hrel
    have hvl : g + 1 < wr.heap.size := hV.out.lt
    by_cases hlt : k + 1 < cnt
    · skip
      obtain ⟨hl, cc, hcc, hcn, hst⟩ := HGO.out k (by omega)
      have hlk := HLN.out k (by omega)
      generalize hq : (ivJ lt x y n a k).1 = q at *
      generalize hL : (ivJ lt x y n a k).2 = LL at *
      clear hq hL
      have HLK := Lib.hid hlk
      have hlti : (LL.length : Int) < (cnt : Int) := by omega
      clear hlk
      have HST := Lib.hid hst
      have HCC := Lib.hid hcc
      clear hst hcc
      generalize wr = wo at *
      have HB0 : Hid (Below wo.heap.size wo wo) := Below.refl _ _
      go_wp2_with fail
      go_loopw [14, 57] (fun bs i wr => ∃ t : Nat, t ≤ n ∧ i = .int .i64 t ∧ bs = .int .i64 (ivB lt (fulL (edg x y q) t)) ∧ Hid (Below wo.heap.size wo wr)) (fun _ i _ => n - (intOf i).toNat)
      case atStart => exact ⟨0, Nat.zero_le _, rfl, rfl, HB0⟩
      case round =>
        clear HB0
        obtain ⟨t, ht, rfl, rfl, hI⟩ := hrel
        by_cases hlt3 : t < n
        · have hlt3i : (t : Int) < (n : Int) := by omega
          have VI := Lib.hid (hV.out.below hI.out)
          have XI := Lib.hid (hX.out.below hI.out)
          have v2 := VI.out.c2
          have hcl := XI.out.cell t hlt3
          unfold bo at hcl
          have hed := HED.out q t
          have hvi : g + 1 < wr.heap.size := VI.out.lt
          have hgi : g < wr.heap.size := by omega
          have hbi : b < wr.heap.size := by omega
          have K0 : Hid (Below wr.heap.size wr wr.drew) := (Below.refl _ _).drew
          have K00 : Hid (Below wr.heap.size wr wr) := Below.refl _ _
          have hBI : Below w.heap.size w wr := hB.out.trans (hI.out.mono hB.out.size)
          have hzt := (hBI.cell (p := ⟨b, off + t, none⟩) hb).trans (HZ.out t hlt3)
          cases hqt : q t
          · rw [hqt] at hcl hed
            by_cases hf : 0 < fulS q x y t
            · have hdf : decide (0 < fulS q x y t) = true := decide_eq_true hf
              rw [hdf] at hed
              have hy := ivB_yes (lt := lt) (e := edg x y q) (t := t) hed
              rcases ivB_is lt (edg x y q) t with ⟨h0, hm⟩ | ⟨h0, d, hd, hdt⟩
              · rw [if_pos h0] at hy
                have E := Lib.hid hy
                rw [hm]
                clear hy hed h0 hm hzt hf hBI
                go_wp2_with fail
                refine wp_region_held_drew (S := fun w' => w'.cell? ⟨g + 1, 2, none⟩ = some (.slice (some ⟨g, 0, none⟩) n n) ∧ w'.cell? ⟨g, t, none⟩ = some (.bool false) ∧ Hid (Below wr.heap.size wr w')) (by kernel_rfl) ⟨v2, hcl, K0⟩ (fun hHeld => ?_)
                refine wpAnyH_take (i := 0) (oi := { dst := some 60, op := Op.fieldAddr 26 (Operand.tmp 12) 2, type := 0, pos := "l07_growth.go:341", after := #[], guard := none }) (v := ?v1) rfl (by kernel_rfl) (by kernel_rfl) (by kernel_rfl) (fun _ _ _ h => h) (Or.inl ⟨by rfl, ?hy1⟩) (by assumption) ?_
                case hy1 => (intro w hSw; (try dsimp only at hSw); go_simp; (try with_reducible rfl))
                try simp only [Act.put, List.setIfInBounds_toArray, List.set_cons_zero, List.set_cons_succ]
                refine wpAnyH_take (i := 1) (oi := { dst := some 61, op := Op.load 22 (Operand.tmp 60), type := 22, pos := "l07_growth.go:341", after := #[{ on := 0, ground := Ground.data }], guard := none }) (v := ?v2) rfl (by kernel_rfl) (by kernel_rfl) (by kernel_rfl) (fun _ _ _ h => h) (Or.inl ⟨by rfl, ?hy2⟩) (by assumption) ?_
                case hy2 => (intro w hSw; (try dsimp only at hSw); go_simp; (try with_reducible rfl))
                try simp only [Act.put, List.setIfInBounds_toArray, List.set_cons_zero, List.set_cons_succ]
                refine wpAnyH_take (i := 2) (oi := { dst := some 62, op := Op.move (Operand.tmp 15), type := 3, pos := "l07_growth.go:341", after := #[], guard := none }) (v := ?v3) rfl (by kernel_rfl) (by kernel_rfl) (by kernel_rfl) (fun _ _ _ h => h) (Or.inl ⟨by rfl, ?hy3⟩) (by assumption) ?_
                case hy3 => (intro w hSw; (try dsimp only at hSw); go_simp; (try with_reducible rfl))
                try simp only [Act.put, List.setIfInBounds_toArray, List.set_cons_zero, List.set_cons_succ]
                refine wpAnyH_take (i := 3) (oi := { dst := some 63, op := Op.indexAddr 22 (Operand.tmp 61) (Operand.tmp 62), type := 0, pos := "l07_growth.go:341", after := #[{ on := 1, ground := Ground.data }, { on := 2, ground := Ground.data }], guard := none }) (v := ?v4) rfl (by kernel_rfl) (by kernel_rfl) (by kernel_rfl) (fun _ _ _ h => h) (Or.inl ⟨by rfl, ?hy4⟩) (by assumption) ?_
                case hy4 => (intro w hSw; (try dsimp only at hSw); go_simp; (try with_reducible rfl))
                try simp only [Act.put, List.setIfInBounds_toArray, List.set_cons_zero, List.set_cons_succ]
                refine wpAnyH_take (i := 4) (oi := { dst := some 64, op := Op.load 4 (Operand.tmp 63), type := 4, pos := "l07_growth.go:341", after := #[{ on := 3, ground := Ground.data }], guard := none }) (v := ?v5) rfl (by kernel_rfl) (by kernel_rfl) (by kernel_rfl) (fun _ _ _ h => h) (Or.inl ⟨by rfl, ?hy5⟩) (by assumption) ?_
                case hy5 => (intro w hSw; (try dsimp only at hSw); go_simp; (try with_reducible rfl))
                try simp only [Act.put, List.setIfInBounds_toArray, List.set_cons_zero, List.set_cons_succ]
                refine wpAnyH_take (i := 5) (oi := { dst := some 65, op := Op.unOp UnOp.not 4 (Operand.tmp 64), type := 4, pos := "l07_growth.go:341", after := #[{ on := 4, ground := Ground.data }], guard := none }) (v := ?v6) rfl (by kernel_rfl) (by kernel_rfl) (by kernel_rfl) (fun _ _ _ h => h) (Or.inl ⟨by rfl, ?hy6⟩) (by assumption) ?_
                case hy6 => (intro w hSw; (try dsimp only at hSw); go_simp; (try with_reducible rfl))
                try simp only [Act.put, List.setIfInBounds_toArray, List.set_cons_zero, List.set_cons_succ]
                refine wpAnyH_take (i := 6) (oi := { dst := some 66, op := Op.move (Operand.tmp 65), type := 4, pos := "l07_growth.go:341", after := #[{ on := 5, ground := Ground.data }], guard := none }) (v := ?v7) rfl (by kernel_rfl) (by kernel_rfl) (by kernel_rfl) (fun _ _ _ h => h) (Or.inl ⟨by rfl, ?hy7⟩) (by assumption) ?_
                case hy7 => (intro w hSw; (try dsimp only at hSw); go_simp; (try with_reducible rfl))
                try simp only [Act.put, List.setIfInBounds_toArray, List.set_cons_zero, List.set_cons_succ]
                refine wpAnyH_take (i := 7) (oi := { dst := some 67, op := Op.move (Operand.tmp 15), type := 3, pos := "l07_growth.go:341", after := #[{ on := 6, ground := Ground.guard }], guard := some (6, true) }) (v := ?v8) rfl (by kernel_rfl) (by kernel_rfl) (by kernel_rfl) (fun _ _ _ h => h) (Or.inl ⟨by rfl, ?hy8⟩) (by assumption) ?_
                case hy8 => (intro w hSw; (try dsimp only at hSw); go_simp; (try with_reducible rfl))
                try simp only [Act.put, List.setIfInBounds_toArray, List.set_cons_zero, List.set_cons_succ]
                refine wpAnyH_ready (rs := [8]) (by kernel_rfl) (by simp) ?_
                refine AllReadyH.cons (o := { dst := some 68, op := Op.call { callee := Callee.value (Operand.func 49), args := #[Operand.tmp 12, Operand.tmp 67], argTypes := #[78, 2] }, type := 4, pos := "l07_growth.go:341", after := #[{ on := 7, ground := Ground.data }, { on := 6, ground := Ground.chain }, { on := 6, ground := Ground.guard }], guard := some (6, true) }) rfl (fun K hK => ?_) AllReadyH.nil
                rw [if_pos (by rfl)]
                go_simp
                go_at_call 49
                refine (HTO.out _ _ q t _ hlt3 (VI.out.below hHeld.2.2.out) (XI.out.below hHeld.2.2.out)).mono ?_
                rintro e wj ⟨rfl, hbj⟩
                have KJ := Lib.hid (hHeld.2.2.out.trans (hbj.out.mono hHeld.2.2.out.size))
                rw [hdf]
                have e0 := keep1 (v := g + 1) (o := 2) hbj.out hHeld.1 hHeld.2.2 hvi
                have e1 := keep1 (v := g) (o := t) hbj.out hHeld.2.1 hHeld.2.2 hgi
                go_wp2_with fail
                refine hK.out _ _ ⟨e0, e1, KJ⟩ (fun hHeld => ?_)
                clear hK K
                try simp only [Act.put, List.setIfInBounds_toArray, List.set_cons_zero, List.set_cons_succ]
                refine wpAnyH_take (i := 9) (oi := { dst := some 69, op := Op.pick (Operand.tmp 66) (Operand.tmp 68) (Operand.const (Value.bool false)), type := 4, pos := "l07_growth.go:341", after := #[{ on := 6, ground := Ground.data }, { on := 8, ground := Ground.data }], guard := none }) (v := ?v9) rfl (by kernel_rfl) (by kernel_rfl) (by kernel_rfl) (fun _ _ _ h => h) (Or.inl ⟨by rfl, ?hy9⟩) (by assumption) ?_
                case hy9 => (intro w hSw; (try dsimp only at hSw); go_simp; (try with_reducible rfl))
                try simp only [Act.put, List.setIfInBounds_toArray, List.set_cons_zero, List.set_cons_succ]
                refine wpAnyH_take (i := 10) (oi := { dst := some 70, op := Op.move (Operand.tmp 69), type := 4, pos := "l07_growth.go:341", after := #[{ on := 9, ground := Ground.data }, { on := 8, ground := Ground.chain }], guard := none }) (v := ?v10) rfl (by kernel_rfl) (by kernel_rfl) (by kernel_rfl) (fun _ _ _ h => h) (Or.inl ⟨by rfl, ?hy10⟩) (by assumption) ?_
                case hy10 => (intro w hSw; (try dsimp only at hSw); go_simp; (try with_reducible rfl))
                try simp only [Act.put, List.setIfInBounds_toArray, List.set_cons_zero, List.set_cons_succ]
                refine wpAnyH_take (i := 11) (oi := { dst := some 71, op := Op.move (Operand.tmp 14), type := 3, pos := "l07_growth.go:341", after := #[{ on := 10, ground := Ground.guard }], guard := some (10, true) }) (v := ?v11) rfl (by kernel_rfl) (by kernel_rfl) (by kernel_rfl) (fun _ _ _ h => h) (Or.inl ⟨by rfl, ?hy11⟩) (by assumption) ?_
                case hy11 => (intro w hSw; (try dsimp only at hSw); go_simp; (try with_reducible rfl))
                try simp only [Act.put, List.setIfInBounds_toArray, List.set_cons_zero, List.set_cons_succ]
                refine wpAnyH_take (i := 12) (oi := { dst := some 72, op := Op.binOp BinOp.lss 3 (Operand.tmp 71) (Operand.const (Value.int IntKind.i64 0)) 3, type := 4, pos := "l07_growth.go:341", after := #[{ on := 11, ground := Ground.data }, { on := 10, ground := Ground.guard }], guard := some (10, true) }) (v := ?v12) rfl (by kernel_rfl) (by kernel_rfl) (by kernel_rfl) (fun _ _ _ h => h) (Or.inl ⟨by rfl, ?hy12⟩) (by assumption) ?_
                case hy12 => (intro w hSw; (try dsimp only at hSw); go_simp; (try with_reducible rfl))
                try simp only [Act.put, List.setIfInBounds_toArray, List.set_cons_zero, List.set_cons_succ]
                refine wpAnyH_take (i := 13) (oi := { dst := some 73, op := Op.move (Operand.tmp 72), type := 4, pos := "l07_growth.go:341", after := #[{ on := 12, ground := Ground.data }, { on := 10, ground := Ground.chain }, { on := 10, ground := Ground.guard }], guard := some (10, true) }) (v := ?v13) rfl (by kernel_rfl) (by kernel_rfl) (by kernel_rfl) (fun _ _ _ h => h) (Or.inl ⟨by rfl, ?hy13⟩) (by assumption) ?_
                case hy13 => (intro w hSw; (try dsimp only at hSw); go_simp; (try with_reducible rfl))
                try simp only [Act.put, List.setIfInBounds_toArray, List.set_cons_zero, List.set_cons_succ]
                refine wpAnyH_take (i := 14) (oi := { dst := some 74, op := Op.move (Operand.tmp 0), type := 33, pos := "l07_growth.go:341", after := #[{ on := 13, ground := Ground.guard }], guard := some (13, false) }) (v := _) rfl (by kernel_rfl) (by kernel_rfl) (by kernel_rfl) (fun _ _ _ h => h) (Or.inr ⟨by rfl, rfl⟩) (by assumption) ?_
                try simp only [Act.put, List.setIfInBounds_toArray, List.set_cons_zero, List.set_cons_succ]
                refine wpAnyH_take (i := 15) (oi := { dst := some 75, op := Op.move (Operand.tmp 15), type := 3, pos := "l07_growth.go:341", after := #[{ on := 13, ground := Ground.guard }], guard := some (13, false) }) (v := _) rfl (by kernel_rfl) (by kernel_rfl) (by kernel_rfl) (fun _ _ _ h => h) (Or.inr ⟨by rfl, rfl⟩) (by assumption) ?_
                try simp only [Act.put, List.setIfInBounds_toArray, List.set_cons_zero, List.set_cons_succ]
                refine wpAnyH_take (i := 16) (oi := { dst := some 76, op := Op.indexAddr 33 (Operand.tmp 74) (Operand.tmp 75), type := 0, pos := "l07_growth.go:341", after := #[{ on := 14, ground := Ground.data }, { on := 15, ground := Ground.data }, { on := 13, ground := Ground.guard }], guard := some (13, false) }) (v := _) rfl (by kernel_rfl) (by kernel_rfl) (by kernel_rfl) (fun _ _ _ h => h) (Or.inr ⟨by rfl, rfl⟩) (by assumption) ?_
                try simp only [Act.put, List.setIfInBounds_toArray, List.set_cons_zero, List.set_cons_succ]
                refine wpAnyH_take (i := 17) (oi := { dst := some 77, op := Op.load 43 (Operand.tmp 76), type := 43, pos := "l07_growth.go:341", after := #[{ on := 16, ground := Ground.data }, { on := 13, ground := Ground.guard }], guard := some (13, false) }) (v := _) rfl (by kernel_rfl) (by kernel_rfl) (by kernel_rfl) (fun _ _ _ h => h) (Or.inr ⟨by rfl, rfl⟩) (by assumption) ?_
                try simp only [Act.put, List.setIfInBounds_toArray, List.set_cons_zero, List.set_cons_succ]
                refine wpAnyH_take (i := 18) (oi := { dst := some 78, op := Op.move (Operand.tmp 0), type := 33, pos := "l07_growth.go:341", after := #[{ on := 13, ground := Ground.guard }], guard := some (13, false) }) (v := _) rfl (by kernel_rfl) (by kernel_rfl) (by kernel_rfl) (fun _ _ _ h => h) (Or.inr ⟨by rfl, rfl⟩) (by assumption) ?_
                try simp only [Act.put, List.setIfInBounds_toArray, List.set_cons_zero, List.set_cons_succ]
                refine wpAnyH_take (i := 19) (oi := { dst := some 79, op := Op.move (Operand.tmp 14), type := 3, pos := "l07_growth.go:341", after := #[{ on := 13, ground := Ground.guard }], guard := some (13, false) }) (v := _) rfl (by kernel_rfl) (by kernel_rfl) (by kernel_rfl) (fun _ _ _ h => h) (Or.inr ⟨by rfl, rfl⟩) (by assumption) ?_
                try simp only [Act.put, List.setIfInBounds_toArray, List.set_cons_zero, List.set_cons_succ]
                refine wpAnyH_take (i := 20) (oi := { dst := some 80, op := Op.indexAddr 33 (Operand.tmp 78) (Operand.tmp 79), type := 0, pos := "l07_growth.go:341", after := #[{ on := 18, ground := Ground.data }, { on := 19, ground := Ground.data }, { on := 13, ground := Ground.guard }], guard := some (13, false) }) (v := _) rfl (by kernel_rfl) (by kernel_rfl) (by kernel_rfl) (fun _ _ _ h => h) (Or.inr ⟨by rfl, rfl⟩) (by assumption) ?_
                try simp only [Act.put, List.setIfInBounds_toArray, List.set_cons_zero, List.set_cons_succ]
                refine wpAnyH_take (i := 21) (oi := { dst := some 81, op := Op.load 43 (Operand.tmp 80), type := 43, pos := "l07_growth.go:341", after := #[{ on := 20, ground := Ground.data }, { on := 13, ground := Ground.guard }], guard := some (13, false) }) (v := _) rfl (by kernel_rfl) (by kernel_rfl) (by kernel_rfl) (fun _ _ _ h => h) (Or.inr ⟨by rfl, rfl⟩) (by assumption) ?_
                try simp only [Act.put, List.setIfInBounds_toArray, List.set_cons_zero, List.set_cons_succ]
                refine wpAnyH_take (i := 22) (oi := { dst := some 82, op := Op.binOp BinOp.lss 43 (Operand.tmp 77) (Operand.tmp 81) 43, type := 4, pos := "l07_growth.go:341", after := #[{ on := 17, ground := Ground.data }, { on := 21, ground := Ground.data }, { on := 13, ground := Ground.guard }], guard := some (13, false) }) (v := _) rfl (by kernel_rfl) (by kernel_rfl) (by kernel_rfl) (fun _ _ _ h => h) (Or.inr ⟨by rfl, rfl⟩) (by assumption) ?_
                try simp only [Act.put, List.setIfInBounds_toArray, List.set_cons_zero, List.set_cons_succ]
                refine wpAnyH_take (i := 23) (oi := { dst := some 83, op := Op.pick (Operand.tmp 73) (Operand.const (Value.bool true)) (Operand.tmp 82), type := 4, pos := "l07_growth.go:341", after := #[{ on := 13, ground := Ground.data }, { on := 22, ground := Ground.data }, { on := 10, ground := Ground.guard }], guard := some (10, true) }) (v := ?v14) rfl (by kernel_rfl) (by kernel_rfl) (by kernel_rfl) (fun _ _ _ h => h) (Or.inl ⟨by rfl, ?hy14⟩) (by assumption) ?_
                case hy14 => (intro w hSw; (try dsimp only at hSw); go_simp; (try with_reducible rfl))
                try simp only [Act.put, List.setIfInBounds_toArray, List.set_cons_zero, List.set_cons_succ]
                refine wpAnyH_take (i := 24) (oi := { dst := some 84, op := Op.pick (Operand.tmp 70) (Operand.tmp 83) (Operand.const (Value.bool false)), type := 4, pos := "l07_growth.go:341", after := #[{ on := 10, ground := Ground.data }, { on := 23, ground := Ground.data }], guard := none }) (v := ?v15) rfl (by kernel_rfl) (by kernel_rfl) (by kernel_rfl) (fun _ _ _ h => h) (Or.inl ⟨by rfl, ?hy15⟩) (by assumption) ?_
                case hy15 => (intro w hSw; (try dsimp only at hSw); go_simp; (try with_reducible rfl))
                try simp only [Act.put, List.setIfInBounds_toArray, List.set_cons_zero, List.set_cons_succ]
                refine wpAnyH_done (by kernel_rfl) ?_ _
                all_goals
                  have HK9 := Lib.hid (hI.out.trans (KJ.out.mono hI.out.size))
                  clear VI XI KJ hbj
                  go_wp2_with fail
                  go_roundw
                  case rel => first | exact ⟨t + 1, by omega, by go_num, by rw [E.out], HK9⟩ | ((repeat apply Exists.intro); exact ⟨⟨t + 1, by omega, by go_num, by rw [E.out], HK9⟩, rfl⟩)
                  case measure => simp [intOf]; omega
              · rw [if_neg h0, hd, Int.toNat_natCast, HLT.out] at hy
                have hzd := (hBI.cell (p := ⟨b, off + d, none⟩) hb).trans (HZ.out d (by omega))
                rw [hd]
                have hdn : d < n := by omega
                have hnd : ¬ ((d : Int) < 0) := by omega
                have hnd2 : decide ((d : Int) < 0) = false := decide_eq_false hnd
                clear h0 hd hed hf hBI
                by_cases ho : FloatKind.f32.format.order (at0 zs t) (at0 zs d) = some .lt
                · rw [decide_eq_true ho, if_pos rfl] at hy
                  have E := Lib.hid hy
                  clear hy
                  go_wp2_with fail
                  go_region_held3 (fun w' => w'.cell? ⟨g + 1, 2, none⟩ = some (.slice (some ⟨g, 0, none⟩) n n) ∧ w'.cell? ⟨g, t, none⟩ = some (.bool false) ∧ w'.cell? ⟨b, off + t, none⟩ = some (.float .f32 (at0 zs t)) ∧ w'.cell? ⟨b, off + d, none⟩ = some (.float .f32 (at0 zs d)) ∧ Hid (Below wr.heap.size wr w')) (first | (with_reducible exact ⟨by assumption, by assumption, by assumption, by assumption, by assumption⟩) | (refine ⟨?_, ?_, ?_, ?_, ?_⟩ <;> (first | (with_reducible assumption) | assumption)) | go_keep)
                  (first
                    | ((go_at_call 49; (with_reducible refine (HTO.out _ _ q t _ hlt3 (VI.out.below ((‹Hid (Below wr.heap.size wr _)›).out)) (XI.out.below ((‹Hid (Below wr.heap.size wr _)›).out))).mono ?_); rintro e wj ⟨rfl, hbj⟩; have KJ := Lib.hid ((‹Hid (Below wr.heap.size wr _)›).out.trans (hbj.out.mono ((‹Hid (Below wr.heap.size wr _)›).out.size))); rw [hdf]; have e0 := keep1 (v := g + 1) (o := 2) hbj.out (by assumption) (by assumption) hvi; have e1 := keep1 (v := g) (o := t) hbj.out (by assumption) (by assumption) hgi; have e2 := keep1 (v := b) (o := off + t) hbj.out (by assumption) (by assumption) hbi; have e3 := keep1 (v := b) (o := off + d) hbj.out (by assumption) (by assumption) hbi)))
                  all_goals
                    have HK9 := Lib.hid (hI.out.trans (KJ.out.mono hI.out.size))
                    clear VI XI KJ hbj
                    go_wp2_with fail
                    go_roundw
                    case rel => first | exact ⟨t + 1, by omega, by go_num, by rw [E.out], HK9⟩ | ((repeat apply Exists.intro); exact ⟨⟨t + 1, by omega, by go_num, by rw [E.out], HK9⟩, rfl⟩)
                    case measure => simp [intOf]; omega
                · rw [decide_eq_false ho, if_neg (by decide)] at hy
                  have ho2 : (FloatKind.f32.format.order (at0 zs t) (at0 zs d) == some .lt) = false := beq_eq_false_iff_ne.2 ho
                  have E := Lib.hid hy
                  clear hy ho
                  go_wp2_with fail
                  go_region_held3 (fun w' => w'.cell? ⟨g + 1, 2, none⟩ = some (.slice (some ⟨g, 0, none⟩) n n) ∧ w'.cell? ⟨g, t, none⟩ = some (.bool false) ∧ w'.cell? ⟨b, off + t, none⟩ = some (.float .f32 (at0 zs t)) ∧ w'.cell? ⟨b, off + d, none⟩ = some (.float .f32 (at0 zs d)) ∧ Hid (Below wr.heap.size wr w')) (first | (with_reducible exact ⟨by assumption, by assumption, by assumption, by assumption, by assumption⟩) | (refine ⟨?_, ?_, ?_, ?_, ?_⟩ <;> (first | (with_reducible assumption) | assumption)) | go_keep)
                  (first
                    | ((go_at_call 49; (with_reducible refine (HTO.out _ _ q t _ hlt3 (VI.out.below ((‹Hid (Below wr.heap.size wr _)›).out)) (XI.out.below ((‹Hid (Below wr.heap.size wr _)›).out))).mono ?_); rintro e wj ⟨rfl, hbj⟩; have KJ := Lib.hid ((‹Hid (Below wr.heap.size wr _)›).out.trans (hbj.out.mono ((‹Hid (Below wr.heap.size wr _)›).out.size))); rw [hdf]; have e0 := keep1 (v := g + 1) (o := 2) hbj.out (by assumption) (by assumption) hvi; have e1 := keep1 (v := g) (o := t) hbj.out (by assumption) (by assumption) hgi; have e2 := keep1 (v := b) (o := off + t) hbj.out (by assumption) (by assumption) hbi; have e3 := keep1 (v := b) (o := off + d) hbj.out (by assumption) (by assumption) hbi)))
                  all_goals
                    have HK9 := Lib.hid (hI.out.trans (KJ.out.mono hI.out.size))
                    clear VI XI KJ hbj
                    go_wp2_with fail
                    go_roundw
                    case rel => first | exact ⟨t + 1, by omega, by go_num, by rw [E.out], HK9⟩ | ((repeat apply Exists.intro); exact ⟨⟨t + 1, by omega, by go_num, by rw [E.out], HK9⟩, rfl⟩)
                    case measure => simp [intOf]; omega
            · have hdf : decide (0 < fulS q x y t) = false := decide_eq_false hf
              rw [hdf] at hed
              have E := Lib.hid (ivB_no (lt := lt) (e := edg x y q) (t := t) hed)
              clear hed hf hzt hBI
              generalize ivB lt (fulL (edg x y q) t) = bv at *
              go_wp2_with fail
              refine wp_region_held_drew (S := fun w' => w'.cell? ⟨g + 1, 2, none⟩ = some (.slice (some ⟨g, 0, none⟩) n n) ∧ w'.cell? ⟨g, t, none⟩ = some (.bool false) ∧ Hid (Below wr.heap.size wr w')) (by kernel_rfl) ⟨v2, hcl, K0⟩ (fun hHeld => ?_)
              refine wpAnyH_take (i := 0) (oi := { dst := some 60, op := Op.fieldAddr 26 (Operand.tmp 12) 2, type := 0, pos := "l07_growth.go:341", after := #[], guard := none }) (v := ?v16) rfl (by kernel_rfl) (by kernel_rfl) (by kernel_rfl) (fun _ _ _ h => h) (Or.inl ⟨by rfl, ?hy16⟩) (by assumption) ?_
              case hy16 => (intro w hSw; (try dsimp only at hSw); go_simp; (try with_reducible rfl))
              try simp only [Act.put, List.setIfInBounds_toArray, List.set_cons_zero, List.set_cons_succ]
              refine wpAnyH_take (i := 1) (oi := { dst := some 61, op := Op.load 22 (Operand.tmp 60), type := 22, pos := "l07_growth.go:341", after := #[{ on := 0, ground := Ground.data }], guard := none }) (v := ?v17) rfl (by kernel_rfl) (by kernel_rfl) (by kernel_rfl) (fun _ _ _ h => h) (Or.inl ⟨by rfl, ?hy17⟩) (by assumption) ?_
              case hy17 => (intro w hSw; (try dsimp only at hSw); go_simp; (try with_reducible rfl))
              try simp only [Act.put, List.setIfInBounds_toArray, List.set_cons_zero, List.set_cons_succ]
              refine wpAnyH_take (i := 2) (oi := { dst := some 62, op := Op.move (Operand.tmp 15), type := 3, pos := "l07_growth.go:341", after := #[], guard := none }) (v := ?v18) rfl (by kernel_rfl) (by kernel_rfl) (by kernel_rfl) (fun _ _ _ h => h) (Or.inl ⟨by rfl, ?hy18⟩) (by assumption) ?_
              case hy18 => (intro w hSw; (try dsimp only at hSw); go_simp; (try with_reducible rfl))
              try simp only [Act.put, List.setIfInBounds_toArray, List.set_cons_zero, List.set_cons_succ]
              refine wpAnyH_take (i := 3) (oi := { dst := some 63, op := Op.indexAddr 22 (Operand.tmp 61) (Operand.tmp 62), type := 0, pos := "l07_growth.go:341", after := #[{ on := 1, ground := Ground.data }, { on := 2, ground := Ground.data }], guard := none }) (v := ?v19) rfl (by kernel_rfl) (by kernel_rfl) (by kernel_rfl) (fun _ _ _ h => h) (Or.inl ⟨by rfl, ?hy19⟩) (by assumption) ?_
              case hy19 => (intro w hSw; (try dsimp only at hSw); go_simp; (try with_reducible rfl))
              try simp only [Act.put, List.setIfInBounds_toArray, List.set_cons_zero, List.set_cons_succ]
              refine wpAnyH_take (i := 4) (oi := { dst := some 64, op := Op.load 4 (Operand.tmp 63), type := 4, pos := "l07_growth.go:341", after := #[{ on := 3, ground := Ground.data }], guard := none }) (v := ?v20) rfl (by kernel_rfl) (by kernel_rfl) (by kernel_rfl) (fun _ _ _ h => h) (Or.inl ⟨by rfl, ?hy20⟩) (by assumption) ?_
              case hy20 => (intro w hSw; (try dsimp only at hSw); go_simp; (try with_reducible rfl))
              try simp only [Act.put, List.setIfInBounds_toArray, List.set_cons_zero, List.set_cons_succ]
              refine wpAnyH_take (i := 5) (oi := { dst := some 65, op := Op.unOp UnOp.not 4 (Operand.tmp 64), type := 4, pos := "l07_growth.go:341", after := #[{ on := 4, ground := Ground.data }], guard := none }) (v := ?v21) rfl (by kernel_rfl) (by kernel_rfl) (by kernel_rfl) (fun _ _ _ h => h) (Or.inl ⟨by rfl, ?hy21⟩) (by assumption) ?_
              case hy21 => (intro w hSw; (try dsimp only at hSw); go_simp; (try with_reducible rfl))
              try simp only [Act.put, List.setIfInBounds_toArray, List.set_cons_zero, List.set_cons_succ]
              refine wpAnyH_take (i := 6) (oi := { dst := some 66, op := Op.move (Operand.tmp 65), type := 4, pos := "l07_growth.go:341", after := #[{ on := 5, ground := Ground.data }], guard := none }) (v := ?v22) rfl (by kernel_rfl) (by kernel_rfl) (by kernel_rfl) (fun _ _ _ h => h) (Or.inl ⟨by rfl, ?hy22⟩) (by assumption) ?_
              case hy22 => (intro w hSw; (try dsimp only at hSw); go_simp; (try with_reducible rfl))
              try simp only [Act.put, List.setIfInBounds_toArray, List.set_cons_zero, List.set_cons_succ]
              refine wpAnyH_take (i := 7) (oi := { dst := some 67, op := Op.move (Operand.tmp 15), type := 3, pos := "l07_growth.go:341", after := #[{ on := 6, ground := Ground.guard }], guard := some (6, true) }) (v := ?v23) rfl (by kernel_rfl) (by kernel_rfl) (by kernel_rfl) (fun _ _ _ h => h) (Or.inl ⟨by rfl, ?hy23⟩) (by assumption) ?_
              case hy23 => (intro w hSw; (try dsimp only at hSw); go_simp; (try with_reducible rfl))
              try simp only [Act.put, List.setIfInBounds_toArray, List.set_cons_zero, List.set_cons_succ]
              refine wpAnyH_ready (rs := [8]) (by kernel_rfl) (by simp) ?_
              refine AllReadyH.cons (o := { dst := some 68, op := Op.call { callee := Callee.value (Operand.func 49), args := #[Operand.tmp 12, Operand.tmp 67], argTypes := #[78, 2] }, type := 4, pos := "l07_growth.go:341", after := #[{ on := 7, ground := Ground.data }, { on := 6, ground := Ground.chain }, { on := 6, ground := Ground.guard }], guard := some (6, true) }) rfl (fun K hK => ?_) AllReadyH.nil
              rw [if_pos (by rfl)]
              go_simp
              go_at_call 49
              refine (HTO.out _ _ q t _ hlt3 (VI.out.below hHeld.2.2.out) (XI.out.below hHeld.2.2.out)).mono ?_
              rintro e wj ⟨rfl, hbj⟩
              have KJ := Lib.hid (hHeld.2.2.out.trans (hbj.out.mono hHeld.2.2.out.size))
              rw [hdf]
              have e0 := keep1 (v := g + 1) (o := 2) hbj.out hHeld.1 hHeld.2.2 hvi
              have e1 := keep1 (v := g) (o := t) hbj.out hHeld.2.1 hHeld.2.2 hgi
              go_wp2_with fail
              refine hK.out _ _ ⟨e0, e1, KJ⟩ (fun hHeld => ?_)
              clear hK K
              try simp only [Act.put, List.setIfInBounds_toArray, List.set_cons_zero, List.set_cons_succ]
              refine wpAnyH_take (i := 9) (oi := { dst := some 69, op := Op.pick (Operand.tmp 66) (Operand.tmp 68) (Operand.const (Value.bool false)), type := 4, pos := "l07_growth.go:341", after := #[{ on := 6, ground := Ground.data }, { on := 8, ground := Ground.data }], guard := none }) (v := ?v24) rfl (by kernel_rfl) (by kernel_rfl) (by kernel_rfl) (fun _ _ _ h => h) (Or.inl ⟨by rfl, ?hy24⟩) (by assumption) ?_
              case hy24 => (intro w hSw; (try dsimp only at hSw); go_simp; (try with_reducible rfl))
              try simp only [Act.put, List.setIfInBounds_toArray, List.set_cons_zero, List.set_cons_succ]
              refine wpAnyH_take (i := 10) (oi := { dst := some 70, op := Op.move (Operand.tmp 69), type := 4, pos := "l07_growth.go:341", after := #[{ on := 9, ground := Ground.data }, { on := 8, ground := Ground.chain }], guard := none }) (v := ?v25) rfl (by kernel_rfl) (by kernel_rfl) (by kernel_rfl) (fun _ _ _ h => h) (Or.inl ⟨by rfl, ?hy25⟩) (by assumption) ?_
              case hy25 => (intro w hSw; (try dsimp only at hSw); go_simp; (try with_reducible rfl))
              try simp only [Act.put, List.setIfInBounds_toArray, List.set_cons_zero, List.set_cons_succ]
              refine wpAnyH_take (i := 11) (oi := { dst := some 71, op := Op.move (Operand.tmp 14), type := 3, pos := "l07_growth.go:341", after := #[{ on := 10, ground := Ground.guard }], guard := some (10, true) }) (v := _) rfl (by kernel_rfl) (by kernel_rfl) (by kernel_rfl) (fun _ _ _ h => h) (Or.inr ⟨by rfl, rfl⟩) (by assumption) ?_
              try simp only [Act.put, List.setIfInBounds_toArray, List.set_cons_zero, List.set_cons_succ]
              refine wpAnyH_take (i := 12) (oi := { dst := some 72, op := Op.binOp BinOp.lss 3 (Operand.tmp 71) (Operand.const (Value.int IntKind.i64 0)) 3, type := 4, pos := "l07_growth.go:341", after := #[{ on := 11, ground := Ground.data }, { on := 10, ground := Ground.guard }], guard := some (10, true) }) (v := _) rfl (by kernel_rfl) (by kernel_rfl) (by kernel_rfl) (fun _ _ _ h => h) (Or.inr ⟨by rfl, rfl⟩) (by assumption) ?_
              try simp only [Act.put, List.setIfInBounds_toArray, List.set_cons_zero, List.set_cons_succ]
              refine wpAnyH_take (i := 13) (oi := { dst := some 73, op := Op.move (Operand.tmp 72), type := 4, pos := "l07_growth.go:341", after := #[{ on := 12, ground := Ground.data }, { on := 10, ground := Ground.chain }, { on := 10, ground := Ground.guard }], guard := some (10, true) }) (v := _) rfl (by kernel_rfl) (by kernel_rfl) (by kernel_rfl) (fun _ _ _ h => h) (Or.inr ⟨by rfl, rfl⟩) (by assumption) ?_
              try simp only [Act.put, List.setIfInBounds_toArray, List.set_cons_zero, List.set_cons_succ]
              refine wpAnyH_take (i := 14) (oi := { dst := some 74, op := Op.move (Operand.tmp 0), type := 33, pos := "l07_growth.go:341", after := #[{ on := 13, ground := Ground.guard }], guard := some (13, false) }) (v := _) rfl (by kernel_rfl) (by kernel_rfl) (by kernel_rfl) (fun _ _ _ h => h) (Or.inr ⟨by rfl, rfl⟩) (by assumption) ?_
              try simp only [Act.put, List.setIfInBounds_toArray, List.set_cons_zero, List.set_cons_succ]
              refine wpAnyH_take (i := 15) (oi := { dst := some 75, op := Op.move (Operand.tmp 15), type := 3, pos := "l07_growth.go:341", after := #[{ on := 13, ground := Ground.guard }], guard := some (13, false) }) (v := _) rfl (by kernel_rfl) (by kernel_rfl) (by kernel_rfl) (fun _ _ _ h => h) (Or.inr ⟨by rfl, rfl⟩) (by assumption) ?_
              try simp only [Act.put, List.setIfInBounds_toArray, List.set_cons_zero, List.set_cons_succ]
              refine wpAnyH_take (i := 16) (oi := { dst := some 76, op := Op.indexAddr 33 (Operand.tmp 74) (Operand.tmp 75), type := 0, pos := "l07_growth.go:341", after := #[{ on := 14, ground := Ground.data }, { on := 15, ground := Ground.data }, { on := 13, ground := Ground.guard }], guard := some (13, false) }) (v := _) rfl (by kernel_rfl) (by kernel_rfl) (by kernel_rfl) (fun _ _ _ h => h) (Or.inr ⟨by rfl, rfl⟩) (by assumption) ?_
              try simp only [Act.put, List.setIfInBounds_toArray, List.set_cons_zero, List.set_cons_succ]
              refine wpAnyH_take (i := 17) (oi := { dst := some 77, op := Op.load 43 (Operand.tmp 76), type := 43, pos := "l07_growth.go:341", after := #[{ on := 16, ground := Ground.data }, { on := 13, ground := Ground.guard }], guard := some (13, false) }) (v := _) rfl (by kernel_rfl) (by kernel_rfl) (by kernel_rfl) (fun _ _ _ h => h) (Or.inr ⟨by rfl, rfl⟩) (by assumption) ?_
              try simp only [Act.put, List.setIfInBounds_toArray, List.set_cons_zero, List.set_cons_succ]
              refine wpAnyH_take (i := 18) (oi := { dst := some 78, op := Op.move (Operand.tmp 0), type := 33, pos := "l07_growth.go:341", after := #[{ on := 13, ground := Ground.guard }], guard := some (13, false) }) (v := _) rfl (by kernel_rfl) (by kernel_rfl) (by kernel_rfl) (fun _ _ _ h => h) (Or.inr ⟨by rfl, rfl⟩) (by assumption) ?_
              try simp only [Act.put, List.setIfInBounds_toArray, List.set_cons_zero, List.set_cons_succ]
              refine wpAnyH_take (i := 19) (oi := { dst := some 79, op := Op.move (Operand.tmp 14), type := 3, pos := "l07_growth.go:341", after := #[{ on := 13, ground := Ground.guard }], guard := some (13, false) }) (v := _) rfl (by kernel_rfl) (by kernel_rfl) (by kernel_rfl) (fun _ _ _ h => h) (Or.inr ⟨by rfl, rfl⟩) (by assumption) ?_
              try simp only [Act.put, List.setIfInBounds_toArray, List.set_cons_zero, List.set_cons_succ]
              refine wpAnyH_take (i := 20) (oi := { dst := some 80, op := Op.indexAddr 33 (Operand.tmp 78) (Operand.tmp 79), type := 0, pos := "l07_growth.go:341", after := #[{ on := 18, ground := Ground.data }, { on := 19, ground := Ground.data }, { on := 13, ground := Ground.guard }], guard := some (13, false) }) (v := _) rfl (by kernel_rfl) (by kernel_rfl) (by kernel_rfl) (fun _ _ _ h => h) (Or.inr ⟨by rfl, rfl⟩) (by assumption) ?_
              try simp only [Act.put, List.setIfInBounds_toArray, List.set_cons_zero, List.set_cons_succ]
              refine wpAnyH_take (i := 21) (oi := { dst := some 81, op := Op.load 43 (Operand.tmp 80), type := 43, pos := "l07_growth.go:341", after := #[{ on := 20, ground := Ground.data }, { on := 13, ground := Ground.guard }], guard := some (13, false) }) (v := _) rfl (by kernel_rfl) (by kernel_rfl) (by kernel_rfl) (fun _ _ _ h => h) (Or.inr ⟨by rfl, rfl⟩) (by assumption) ?_
              try simp only [Act.put, List.setIfInBounds_toArray, List.set_cons_zero, List.set_cons_succ]
              refine wpAnyH_take (i := 22) (oi := { dst := some 82, op := Op.binOp BinOp.lss 43 (Operand.tmp 77) (Operand.tmp 81) 43, type := 4, pos := "l07_growth.go:341", after := #[{ on := 17, ground := Ground.data }, { on := 21, ground := Ground.data }, { on := 13, ground := Ground.guard }], guard := some (13, false) }) (v := _) rfl (by kernel_rfl) (by kernel_rfl) (by kernel_rfl) (fun _ _ _ h => h) (Or.inr ⟨by rfl, rfl⟩) (by assumption) ?_
              try simp only [Act.put, List.setIfInBounds_toArray, List.set_cons_zero, List.set_cons_succ]
              refine wpAnyH_take (i := 23) (oi := { dst := some 83, op := Op.pick (Operand.tmp 73) (Operand.const (Value.bool true)) (Operand.tmp 82), type := 4, pos := "l07_growth.go:341", after := #[{ on := 13, ground := Ground.data }, { on := 22, ground := Ground.data }, { on := 10, ground := Ground.guard }], guard := some (10, true) }) (v := _) rfl (by kernel_rfl) (by kernel_rfl) (by kernel_rfl) (fun _ _ _ h => h) (Or.inr ⟨by rfl, rfl⟩) (by assumption) ?_
              try simp only [Act.put, List.setIfInBounds_toArray, List.set_cons_zero, List.set_cons_succ]
              refine wpAnyH_take (i := 24) (oi := { dst := some 84, op := Op.pick (Operand.tmp 70) (Operand.tmp 83) (Operand.const (Value.bool false)), type := 4, pos := "l07_growth.go:341", after := #[{ on := 10, ground := Ground.data }, { on := 23, ground := Ground.data }], guard := none }) (v := ?v26) rfl (by kernel_rfl) (by kernel_rfl) (by kernel_rfl) (fun _ _ _ h => h) (Or.inl ⟨by rfl, ?hy26⟩) (by assumption) ?_
              case hy26 => (intro w hSw; (try dsimp only at hSw); go_simp; (try with_reducible rfl))
              try simp only [Act.put, List.setIfInBounds_toArray, List.set_cons_zero, List.set_cons_succ]
              refine wpAnyH_done (by kernel_rfl) ?_ _
              all_goals
                have HK9 := Lib.hid (hI.out.trans (KJ.out.mono hI.out.size))
                clear VI XI KJ hbj
                go_wp2_with fail
                go_roundw
                case rel => first | exact ⟨t + 1, by omega, by go_num, by rw [E.out], HK9⟩ | ((repeat apply Exists.intro); exact ⟨⟨t + 1, by omega, by go_num, by rw [E.out], HK9⟩, rfl⟩)
                case measure => simp [intOf]; omega
          · rw [hqt] at hcl hed
            have E := Lib.hid (ivB_no (lt := lt) (e := edg x y q) (t := t) hed)
            clear hed hzt hBI VI XI
            generalize ivB lt (fulL (edg x y q) t) = bv at *
            go_wp2_with fail
            go_quiet (fail)
            go_wp2_with fail
            go_roundw
            case rel => exact ⟨t + 1, by omega, by go_num, by rw [E.out], by first | exact hI | exact hI.out.drew | exact belowN hI.out⟩
            case measure => simp [intOf]; omega
        · obtain rfl : t = n := by omega
          have HC2 : ivB lt (fulL (edg x y q) t) = (cc : Int) := HCC.out
          have VI := Lib.hid (hV.out.below hI.out)
          have XI := Lib.hid (hX.out.below hI.out)
          have OI := Lib.hid (hO.out.below hI.out)
          have v2 := VI.out.c2
          have hcl := XI.out.cell cc hcn
          have hfr := XI.out.free cc hcn
          unfold bo at hcl
          have IB : ButIn g (g + 1) wr (wr.setCell ⟨g, cc, none⟩ (.bool true)) := (ButIn.refl g (g + 1) wr).set (q := ⟨g, cc, none⟩) (Nat.le_refl _) (Nat.lt_succ_self _) _
          have X7 : Hid (RowM (wr.setCell ⟨g, cc, none⟩ (.bool true)) g t (bo (ivJ lt x y t a (k + 1)).1)) := (XI.out.set (k := cc) (u := .bool true) hcn).ext fun j _ => by
            rw [HST.out]
            show (if j = cc then Value.bool true else Value.bool (q j)) = Value.bool (decide (j = cc) || q j)
            by_cases hj : j = cc
            · rw [if_pos hj, decide_eq_true hj]; rfl
            · rw [if_neg hj, decide_eq_false hj]; rfl
          have V7 : Hid (VarT (wr.setCell ⟨g, cc, none⟩ (.bool true)) (g + 1) x y (some ⟨g, 0, none⟩) t t) := VI.out.but IB (.inr (Nat.le_refl _))
          have O7 : Hid (GroI (wr.setCell ⟨g, cc, none⟩ (.bool true)) (g + 1 + 1) LL A' c') := OI.out.but IB fun a ha => .inr (by have := (OI.out.lt a ha).1; omega)
          have B7 : Hid (Below w.heap.size w (wr.setCell ⟨g, cc, none⟩ (.bool true))) := (hB.out.trans (hI.out.mono hB.out.size)).setCell hWG _
          have hsz : Hid (g + 1 + 1 ≤ (wr.setCell ⟨g, cc, none⟩ (.bool true)).heap.size) := by show _ ≤ _; exact Nat.le_trans VI.out.lt IB.size
          have hll : LL.length ≤ 1048576 := by have := HLK.out; omega
          rw [HC2]
          clear VI XI OI IB hO hX hV hI HC2 HCC hl
          go_upto_region 15 with fail
          generalize hw7 : wr.setCell ⟨g, cc, none⟩ (.bool true) = w7 at *
          clear hw7 v2 hcl hfr
          go_wp2_with (at_builtin; refine wpGroI rfl _ _ rfl (w0 := w7) O7.out rfl rfl rfl hll hsz.out ?_; intro g2 c2 w8 O8 B8; have HO8 := Lib.hid O8; have HB8 := Lib.hid B8; clear O8 B8)
          have X8 : Hid (RowM w8 g t (bo (ivJ lt x y t a (k + 1)).1)) := X7.out.heap (HB8.out.block g (by omega))
          have V8 : Hid (VarT w8 (g + 1) x y (some ⟨g, 0, none⟩) t t) := V7.out.but (Below.inB HB8.out) (.inl (by omega))
          have B8 : Hid (Below w.heap.size w w8) := B7.out.trans (HB8.out.mono (by omega))
          go_roundw
          case rel => exact ⟨k + 1, some ⟨g2, 0, none⟩, c2, by omega, by rw [HST.out]; show _ = Value.slice _ (LL ++ [(cc : Int)]).length _; rw [List.length_append]; rfl, by rw [HST.out]; exact HO8, X8, V8, B8⟩
          case measure => show cnt - (LL.length + 1) < cnt - LL.length; omega
    · have hkc : k + 1 = cnt := by omega
      have hlk := HLN.out k (by omega)
      have hlti : ¬ (((ivJ lt x y n a k).2.length : Int) < (cnt : Int)) := by omega
      have R9 : Hid (RowW wr w.heap.size wr.heap.size A' cnt (iv (atI (ivJ lt x y n a (cnt - 1)).2))) := by
        have := hO.out.rowW.lower (lo' := w.heap.size) (by omega)
        rw [hlk, hkc, show k = cnt - 1 by omega] at this
        exact this
      have HE : Hid ((ivJ lt x y n a k).2.length = cnt) := by show _ = _; omega
      clear hlk hkc hO hX hV
      go_wp2_with fail
      go_ret2
      exact ⟨A', c', by rw [← HE.out]; rfl, by rw [HL0.out]; exact R9, hB⟩
end Go.Proofs.Ythhimielelpcoaa
