/-
  What is proved here: CantorSet, of both packages, as walks. Conditions: none.
-/
import Derived.Test.YtjnfonjbbbghpaaSlp
namespace Go.Proofs.Ytjnfonjbbbghpaa
open Flt Go.RowKit
attribute [local go_sem] run_store_float
set_option linter.unusedVariables false

def lowF (f : Nat → Option Nat) (j : Nat) : Option Nat := fop .quo .f32 (f j) (can .f32 1077936128)
def highF (f : Nat → Option Nat) (j : Nat) : Option Nat := fop .add .f32 (lowF f j) (can .f32 1059760811)
/-- the left ends of pieces -/
def canF : Nat → Nat → Option Nat
  | 0, _ => can .f32 0
  | k + 1, j => if j < 2 ^ k then lowF (canF k) j else highF (canF k) (j - 2 ^ k)
theorem canF_low {k j : Nat} (h : j < 2 ^ k) : canF (k + 1) j = lowF (canF k) j := if_pos h
theorem canF_high {k j : Nat} : canF (k + 1) (2 ^ k + j) = highF (canF k) j := by
  show (if _ then _ else _) = _
  rw [if_neg (by omega), Nat.add_sub_cancel_left]
theorem pow_256 {k : Nat} (h : k ≤ 8) : 2 ^ k ≤ 256 := Nat.pow_le_pow_right (n := 2) (by decide) h

theorem Tl.append {f g F : Nat → Option Nat} {n m : Nat} {xs ys : List Nat} (hx : Tl f n xs) (hy : Tl g m ys) (h1 : ∀ j, j < n → f j = F j) (h2 : ∀ j, j < m → g j = F (n + j)) : Tl F (n + m) (xs ++ ys) :=
  ⟨by rw [List.length_append, hx.len, hy.len], fun j hj => by
    have hl := hx.len
    by_cases h : j < n
    · have e : at0 (xs ++ ys) j = at0 xs j := by
        unfold at0
        rw [List.getD_eq_getElem?_getD, List.getD_eq_getElem?_getD, List.getElem?_append_left (by omega)]
      rw [e, hx.at' j h, h1 j h]
    · have e : at0 (xs ++ ys) j = at0 ys (j - n) := by
        unfold at0
        rw [List.getD_eq_getElem?_getD, List.getD_eq_getElem?_getD, List.getElem?_append_right (by omega), hl]
      rw [e, hy.at' (j - n) (by omega), h2 (j - n) (by omega)]
      congr 1; omega⟩

theorem OwnA.cell {w : World} {G g c j : Nat} {L : List Nat} (h : OwnA w G L g c) (hj : j < L.length) : w.cell? ⟨g, j, none⟩ = some (.float .f32 (at0 L j)) := by
  rw [World.ownsRow.cellAt h j (by omega), List.getElem?_map]
  simp [at0, List.getD, hj]
theorem OwnA.lit (w : World) {X : Nat} (h : X ≤ w.heap.size) : OwnA (w.alloc (.cells #[] 26)) X [] w.heap.size 0 := World.ownsRow_lit w #[] 0 h (by decide) rfl

/-- an append to nothing -/
theorem wpNil {ops : Array Oper} {rest : List Oper} {o : Oper} {a : Act} {Q : Exit → Act → World → Prop} (hgd : o.guard = none) (s x : Operand)
    (ho : o.op = .call { callee := .builtin .append, args := #[s, x], argTypes := #[22, 22] })
    {w w0 : World} {G y : Nat} (hG : G ≤ w0.heap.size) (hw : w = w0.alloc (.cells #[.float .f32 y] 26)) (hs : a.eval s = .slice none 0 0) (hx : a.eval x = .slice (some ⟨w0.heap.size, 0, none⟩) 1 1)
    (h : ∀ g' c' w', OwnA w' G [y] g' c' → Below w0.heap.size w0 w' → w0.heap.size ≤ g' → wpList Try.prog ops Q rest (a.put o.dst (.slice (some ⟨g', 0, none⟩) 1 c')) w') : wpList Try.prog ops Q (o :: rest) a w := by
  subst hw
  obtain ⟨i0, hi, hz0, hz1, hz2⟩ := info_parts info_f32k
  refine wpList_append_lies _ hgd s x 22 ho G 26 i0 (.float .f32 0) 1 4 Try.underlying22 hi hz0 hz1 hz2 rfl (by decide) _ 0 [] hs (World.ownsRow_nil _ _ _ _) ⟨w0.heap.size, 0, none⟩ 1 1 [.float .f32 y] hx rfl (World.ownsRow.cells (World.ownsRow_lit (base := G) (e := 26) (size := 1) w0 #[.float .f32 y] 1 hG (by decide) rfl) rfl) (by intro u hu; rw [List.mem_singleton.1 hu]; rfl) (by decide) (by unfold maxLen; omega) (by omega) (by simp; omega) _ rfl ?_
  intro g' cap w' h1 h2 h3 h4
  have hb : Below w0.heap.size w0 (w0.alloc (.cells #[.float .f32 y] 26)) := (Below.refl _ _).alloc (Nat.le_refl _) _
  refine h g' cap w' h1 ?_ ?_
  · exact ⟨h2.os.trans hb.os, h2.tape.trans hb.tape, h2.output.trans hb.output, Nat.le_trans hb.size h2.size, fun k hk => by
      rw [h2.block k (Nat.lt_of_lt_of_le hk hb.size) (by intro e; cases e)]
      exact hb.block k hk⟩
  · rcases h3 with h3 | h3
    · cases h3
    · rw [h3]; exact hb.size
/-- an append of another row that is owned -/
theorem wpCat {ops : Array Oper} {rest : List Oper} {o : Oper} {a : Act} {Q : Exit → Act → World → Prop} (hgd : o.guard = none) (s x : Operand)
    (ho : o.op = .call { callee := .builtin .append, args := #[s, x], argTypes := #[22, 22] })
    {w : World} {G g c g2 c2 : Nat} {L R : List Nat} (hO : OwnA w G L g c) (hR : OwnA w G R g2 c2) (hs : a.eval s = .slice (some ⟨g, 0, none⟩) L.length c) (hx : a.eval x = .slice (some ⟨g2, 0, none⟩) R.length c2) (hL : L.length ≤ 1048576) (hR0 : 0 < R.length) (hRl : R.length ≤ 1048576) (hG : G ≤ w.heap.size)
    (h : ∀ g' c' w', OwnA w' G (L ++ R) g' c' → ButIn g (g + 1) w w' → wpList Try.prog ops Q rest (a.put o.dst (.slice (some ⟨g', 0, none⟩) (L.length + R.length) c')) w') : wpList Try.prog ops Q (o :: rest) a w := by
  obtain ⟨i0, hi, hz0, hz1, hz2⟩ := info_parts info_f32k
  refine wpList_append_lies _ hgd s x 22 ho G 26 i0 (.float .f32 0) 1 4 Try.underlying22 hi hz0 hz1 hz2 rfl (by decide) _ L.length (L.map (Value.float .f32)) hs hO ⟨g2, 0, none⟩ R.length c2 (R.map (Value.float .f32)) hx (by simp) (World.ownsRow.cells hR rfl) (by intro u hu; obtain ⟨z, _, rfl⟩ := List.mem_map.1 hu; rfl) hR0 (by unfold maxLen; omega) (by omega) hG _ rfl ?_
  intro g' cap w' h1 h2 h3 h4
  refine h g' cap w' ?_ ?_
  · unfold OwnA
    rw [List.length_append, List.map_append]
    exact h1
  · exact ⟨h2.os, h2.tape, h2.output, h2.size, fun k hk hd => h2.block k hk (by intro e; injection e with e; have e : k = g := e; omega)⟩

theorem can_zero : Tl (canF 0) (2 ^ 0) [0] := ⟨rfl, fun j hj => by
  obtain rfl : j = 0 := by
    have : 2 ^ 0 = 1 := rfl
    omega
  rfl⟩

set_option maxHeartbeats 8000000 in
theorem specCan (d : Nat) (hd : d ≤ 8) (w : World) :
    Calls Try.prog 34 #[.int .i64 d] w (LP (canF d) (2 ^ d) true w) := by
  have HD := Lib.hid (fun W => inS_any (d : Int) 0 8 W)
  rw [show inB (d : Int) 0 8 = true by simp [inB]; omega] at HD
  go_enter Try.func34, Try.ntmps34
  go_wp2_with (go_at_call 51; refine (HD.out _).mono ?_; rintro e w' ⟨rfl, rfl⟩)
  clear HD
  go_loopw [4, 5] (fun o i wr => ∃ (k g c : Nat) (L : List Nat), o = .slice (some ⟨g, 0, none⟩) L.length c ∧ i = .int .i64 k ∧ k ≤ d ∧ Hid (Tl (canF k) (2 ^ k) L) ∧ Hid (OwnA wr w.heap.size L g c) ∧ Hid (Below w.heap.size w wr)) (fun _ i _ => d - (intOf i).toNat)
  case atStart => exact ⟨0, _, 1, [0], rfl, rfl, Nat.zero_le _, can_zero, OwnA.lit1 w 0, (Below.refl _ _).alloc (Nat.le_refl _) _⟩
  case round =>
    obtain ⟨k, g, c, L, rfl, rfl, hk, hT, hO, hB⟩ := hrel
    have hsz : Hid (w.heap.size ≤ wr.heap.size) := hB.out.size
    have HP := Lib.hid (pow_256 (k := k) (by omega))
    have hl : L.length ≤ 256 := by rw [hT.out.len]; exact HP.out
    have hlo := hO.out.lo
    by_cases hlt : k < d
    · have O1 := Lib.hid (hO.out.below ((Below.refl _ _).alloc (Nat.le_refl _) (.cells #[] 26)))
      have M1 := Lib.hid (OwnA.lit wr hsz.out)
      have B1 : Hid (Below w.heap.size w (wr.alloc (.cells #[] 26))) := hB.out.alloc hsz.out _
      have n1 : wr.heap.size ≠ g := by omega
      clear hO hB
      go_wp2_with fail
      generalize wr.alloc (.cells #[] 26) = wa at *
      generalize wr.heap.size = h0 at *
      go_loopw [6, 7] (fun o i wq => ∃ (j h e : Nat) (M : List Nat), o = .slice (some ⟨h, 0, none⟩) M.length e ∧ i = .int .i64 j ∧ j ≤ L.length ∧ h ≠ g ∧ Hid (Tl (canF (k + 1)) j M) ∧ Hid (OwnA wq w.heap.size M h e) ∧ Hid (OwnA wq w.heap.size L g c) ∧ Hid (Below w.heap.size w wq)) (fun _ i _ => L.length - (intOf i).toNat)
      case atStart => exact ⟨0, h0, 0, [], rfl, rfl, Nat.zero_le _, n1, Tl.nil _, M1, O1, B1⟩
      case round =>
        clear O1 M1 B1 hsz
        obtain ⟨j, h, e, M, rfl, rfl, hj, hhg, hM, hMO, hLO, hBq⟩ := hrel
        have hs2 : Hid (w.heap.size ≤ wr.heap.size) := hBq.out.size
        have hm : M.length ≤ 256 := by rw [hM.out.len]; omega
        have hlm := hMO.out.lo
        have hll := hLO.out.lo
        by_cases hjl : j < L.length
        · have hc := hLO.out.cell hjl
          have EL := Lib.hid (hT.out.at' j (by rw [← hT.out.len]; exact hjl))
          have EC := Lib.hid (canF_low (k := k) (j := j) (by rw [← hT.out.len]; exact hjl))
          go_wp2_with (first | ((with_reducible refine upon_bin rfl ?_); intro r2 n2 w2 e2) | (at_builtin; refine wpApp2 rfl _ _ rfl (show OwnA (wr.drewN _) _ _ _ _ from hMO.out) rfl rfl rfl (by omega) hs2.out ?_; intro g2 c2 w4 O4 B4 G4; have HO4 := Lib.hid O4; have HL4 := Lib.hid ((show OwnA (wr.drewN n2) _ L _ _ from hLO.out).but B4 (by omega)); have HB4 := Lib.hid (below_app (belowN hBq.out) (Nat.le_refl _) hlm.1 B4); have G4' : g2 = h ∨ wr.heap.size ≤ g2 := G4; clear O4 B4 G4))
          have HT2 : Hid (Tl (canF (k + 1)) (j + 1) (M ++ [r2])) := hM.out.snoc (by rw [e2.out, EL.out, EC.out]; rfl)
          go_roundw
          case rel => exact ⟨j + 1, g2, c2, M ++ [r2], by rw [snoc_len], by go_num, by omega, by omega, HT2, HO4, HL4, HB4⟩
          case measure => simp [intOf]; omega
        · have hje : j = L.length := by omega
          have hM2 : Hid (Tl (canF (k + 1)) (L.length + 0) M) := by have := hM.out; rw [hje] at this; exact this
          clear hM hje
          go_wp2_with fail
          clear hs2 hjl hj
          generalize wr = wb at *
          go_loopw [6, 8] (fun o i wq => ∃ (j h e : Nat) (M : List Nat), o = .slice (some ⟨h, 0, none⟩) M.length e ∧ i = .int .i64 j ∧ j ≤ L.length ∧ h ≠ g ∧ Hid (Tl (canF (k + 1)) (L.length + j) M) ∧ Hid (OwnA wq w.heap.size M h e) ∧ Hid (OwnA wq w.heap.size L g c) ∧ Hid (Below w.heap.size w wq)) (fun _ i _ => L.length - (intOf i).toNat)
          case atStart => exact ⟨0, h, e, M, rfl, rfl, Nat.zero_le _, hhg, hM2, hMO, hLO, hBq⟩
          case round =>
            clear hMO hLO hBq hM2 hlm hll hm hhg
            obtain ⟨j, h, e, M, rfl, rfl, hj, hhg, hM, hMO, hLO, hBq⟩ := hrel
            have hs2 : Hid (w.heap.size ≤ wr.heap.size) := hBq.out.size
            have hm : M.length ≤ 512 := by rw [hM.out.len]; omega
            have hlm := hMO.out.lo
            have hll := hLO.out.lo
            by_cases hjl : j < L.length
            · have hc := hLO.out.cell hjl
              have EL := Lib.hid (hT.out.at' j (by rw [← hT.out.len]; exact hjl))
              have EC : Hid (canF (k + 1) (L.length + j) = highF (canF k) j) := by show _ = _; rw [hT.out.len]; exact canF_high
              go_wp2_with (first | ((with_reducible refine upon_bin (op := .quo) rfl ?_); intro r1 n1 w1 e1) | ((with_reducible refine upon_bin (op := .add) rfl ?_); intro r2 n2 w2 e2) | (at_builtin; refine wpApp2 rfl _ _ rfl (show OwnA (wr.drewN _) _ _ _ _ from hMO.out) rfl rfl rfl (by omega) hs2.out ?_; intro g2 c2 w4 O4 B4 G4; have HO4 := Lib.hid O4; have HL4 := Lib.hid ((show OwnA (wr.drewN (n1 + n2)) _ L _ _ from hLO.out).but B4 (by omega)); have HB4 := Lib.hid (below_app (belowN hBq.out) (Nat.le_refl _) hlm.1 B4); have G4' : g2 = h ∨ wr.heap.size ≤ g2 := G4; clear O4 B4 G4))
              have HT2 : Hid (Tl (canF (k + 1)) (L.length + (j + 1)) (M ++ [r2])) := hM.out.snoc (by rw [e2.out, e1.out, EL.out, EC.out]; rfl)
              go_roundw
              case rel => exact ⟨j + 1, g2, c2, M ++ [r2], by rw [snoc_len], by go_num, by omega, by omega, HT2, HO4, HL4, HB4⟩
              case measure => simp [intOf]; omega
            · have hM2 : Hid (Tl (canF (k + 1)) (2 ^ (k + 1)) M) := by
                have h1 := hM.out
                have h2 := hT.out.len
                rw [show L.length + j = 2 ^ (k + 1) by rw [show j = L.length by omega, h2, Nat.pow_succ]; omega] at h1
                exact h1
              clear hM
              go_wp2_with fail
              go_roundw
              case rel => exact ⟨k + 1, h, e, M, rfl, by go_num, by omega, hM2, hMO, hBq⟩
              case measure => simp [intOf]; omega
    · have HK : Hid (k = d) := by show k = d; omega
      have hE := hT.out.len
      rw [HK.out] at hT hE
      go_wp2_with fail
      go_ret2
      rw [hE]
      exact lp_yes rfl rfl hT.out hO.out.rowIn hB.out

set_option maxHeartbeats 8000000 in
theorem implCan (d : Nat) (hd : d ≤ 8) (w : World) :
    Calls Try.prog 35 #[.int .i64 d] w (LP (canF d) (2 ^ d) true w) := by
  have HD := Lib.hid (fun W => within_any (d : Int) 0 8 W)
  rw [show inB (d : Int) 0 8 = true by simp [inB]; omega] at HD
  go_enter Try.func35, Try.ntmps35
  go_wp2_with (go_at_call 53; refine (HD.out _).mono ?_; rintro e w' ⟨rfl, rfl⟩)
  clear HD
  go_loopw [4, 15] (fun o i wr => ∃ (k g c : Nat) (L : List Nat), o = .slice (some ⟨g, 0, none⟩) L.length c ∧ i = .int .i64 k ∧ k ≤ d ∧ Hid (Tl (canF k) (2 ^ k) L) ∧ Hid (OwnA wr w.heap.size L g c) ∧ Hid (Below w.heap.size w wr)) (fun _ i _ => d - (intOf i).toNat)
  case atStart => exact ⟨0, _, 1, [0], rfl, rfl, Nat.zero_le _, can_zero, OwnA.lit1 w 0, (Below.refl _ _).alloc (Nat.le_refl _) _⟩
  case round =>
    obtain ⟨k, g, c, L, rfl, rfl, hk, hT, hO, hB⟩ := hrel
    have HP := Lib.hid (pow_256 (k := k) (by omega))
    have hl : L.length ≤ 256 := by rw [hT.out.len]; exact HP.out
    have hpos : 0 < L.length := by rw [hT.out.len]; exact Nat.two_pow_pos _
    by_cases hlt : k < d
    · go_wp2_with fail
      generalize wr = wa at *
      go_loopw [5, 6, 19] (fun l r i wq => ∃ (j : Nat) (X Y : List Nat), i = .int .i64 j ∧ j ≤ L.length ∧ Hid (Tl (lowF (canF k)) j X) ∧ Hid (Tl (highF (canF k)) j Y) ∧ Hid (OwnA wq w.heap.size L g c) ∧ Hid (Below w.heap.size w wq) ∧ ((l = .slice none 0 0 ∧ r = .slice none 0 0 ∧ j = 0) ∨ ∃ gx cx gy cy, l = .slice (some ⟨gx, 0, none⟩) X.length cx ∧ r = .slice (some ⟨gy, 0, none⟩) Y.length cy ∧ gx ≠ gy ∧ gx ≠ g ∧ gy ≠ g ∧ Hid (OwnA wq w.heap.size X gx cx) ∧ Hid (OwnA wq w.heap.size Y gy cy))) (fun _ _ i _ => L.length - (intOf i).toNat)
      case atStart => exact ⟨0, [], [], rfl, Nat.zero_le _, Tl.nil _, Tl.nil _, hO, hB, .inl ⟨rfl, rfl, rfl⟩⟩
      case round =>
        clear hO hB
        obtain ⟨j, X, Y, rfl, hj, hX, hY, hLO, hBq, hC⟩ := hrel
        have hs2 : Hid (w.heap.size ≤ wr.heap.size) := hBq.out.size
        have hx : X.length ≤ 256 := by rw [hX.out.len]; omega
        have hy : Y.length ≤ 256 := by rw [hY.out.len]; omega
        have hll := hLO.out.lo
        by_cases hjl : j < L.length
        · have hc := hLO.out.cell hjl
          have EL := Lib.hid (hT.out.at' j (by rw [← hT.out.len]; exact hjl))
          rcases hC with ⟨rfl, rfl, h0⟩ | ⟨gx, cx, gy, cy, rfl, rfl, d1, d2, d3, hXO, hYO⟩
          · have H0 := Lib.hid h0
            have HXn : Hid (X = []) := by have := hX.out.len; rw [h0] at this; exact List.eq_nil_of_length_eq_zero this
            have HYn : Hid (Y = []) := by have := hY.out.len; rw [h0] at this; exact List.eq_nil_of_length_eq_zero this
            clear h0
            go_wp2_with (first | ((with_reducible refine upon_bin (op := .quo) rfl ?_); intro r1 n1 w1 e1) | ((with_reducible refine upon_bin (op := .add) rfl ?_); intro r2 n2 w2 e2) | (at_builtin; (first | (refine wpNil rfl _ _ rfl (w0 := wr.drewN n1) (G := w.heap.size) hs2.out rfl rfl rfl ?_; intro ga ca wA OA BA GA; have HOA := Lib.hid OA; have HLA := Lib.hid ((show OwnA (wr.drewN n1) _ L _ _ from hLO.out).below BA); have HBA : Hid (Below w.heap.size w wA) := (belowN hBq.out).trans (BA.mono hs2.out); have hsA : wr.heap.size ≤ wA.heap.size := BA.size; have GA' : wr.heap.size ≤ ga := GA; have LA := OA.lo; clear OA BA GA hc) | (refine wpNil rfl _ _ rfl (w0 := wA.drewN n2) (G := w.heap.size) (Nat.le_trans hs2.out hsA) rfl rfl rfl ?_; intro gb cb wB OB BB GB; have HOB := Lib.hid OB; have HOA2 := Lib.hid ((show OwnA (wA.drewN n2) _ _ _ _ from HOA.out).below BB); have HLB := Lib.hid ((show OwnA (wA.drewN n2) _ L _ _ from HLA.out).below BB); have HBB : Hid (Below w.heap.size w wB) := (belowN HBA.out).trans (BB.mono (Nat.le_trans hs2.out hsA)); have GB' : wA.heap.size ≤ gb := GB; clear OB BB GB))))
            have T1 : Hid (Tl (lowF (canF k)) (j + 1) [r1]) := by have := hX.out.snoc (u := r1) (by rw [e1.out, EL.out]; rfl); rw [HXn.out] at this; exact this
            have T2 : Hid (Tl (highF (canF k)) (j + 1) [r2]) := by have := hY.out.snoc (u := r2) (by rw [e2.out, e1.out, EL.out]; rfl); rw [HYn.out] at this; exact this
            go_roundw
            case rel => exact ⟨j + 1, [r1], [r2], by go_num, by omega, T1, T2, HLB, HBB, .inr ⟨ga, ca, gb, cb, rfl, rfl, by omega, by omega, by omega, HOA2, HOB⟩⟩
            case measure => simp [intOf]; omega
          · have lx := hXO.out.lo
            have ly := hYO.out.lo
            go_wp2_with (first | ((with_reducible refine upon_bin (op := .quo) rfl ?_); intro r1 n1 w1 e1) | ((with_reducible refine upon_bin (op := .add) rfl ?_); intro r2 n2 w2 e2) | (at_builtin; (first | (refine wpApp2 rfl _ _ rfl (show OwnA (wr.drewN n1) _ X _ _ from hXO.out) rfl rfl rfl (by omega) hs2.out ?_; intro ga ca wA OA BA GA; have HOA := Lib.hid OA; have HLA := Lib.hid ((show OwnA (wr.drewN n1) _ L _ _ from hLO.out).but BA (by omega)); have HYA := Lib.hid ((show OwnA (wr.drewN n1) _ Y _ _ from hYO.out).but BA (by omega)); have HBA := Lib.hid (below_app (belowN hBq.out) (Nat.le_refl _) lx.1 BA); have hsA : wr.heap.size ≤ wA.heap.size := BA.size; have GA' : ga = gx ∨ wr.heap.size ≤ ga := GA; have LA := OA.lo; clear OA BA GA hc) | (refine wpApp2 rfl _ _ rfl (show OwnA (wA.drewN n2) _ Y _ _ from HYA.out) rfl rfl rfl (by omega) (Nat.le_trans hs2.out hsA) ?_; intro gb cb wB OB BB GB; have HOB := Lib.hid OB; have HOA2 := Lib.hid ((show OwnA (wA.drewN n2) _ _ _ _ from HOA.out).but BB (by omega)); have HLB := Lib.hid ((show OwnA (wA.drewN n2) _ L _ _ from HLA.out).but BB (by omega)); have HBB := Lib.hid (below_app (belowN HBA.out) (Nat.le_refl _) ly.1 BB); have GB' : gb = gy ∨ wA.heap.size ≤ gb := GB; clear OB BB GB))))
            have T1 : Hid (Tl (lowF (canF k)) (j + 1) (X ++ [r1])) := hX.out.snoc (by rw [e1.out, EL.out]; rfl)
            have T2 : Hid (Tl (highF (canF k)) (j + 1) (Y ++ [r2])) := hY.out.snoc (by rw [e2.out, e1.out, EL.out]; rfl)
            go_roundw
            case rel => exact ⟨j + 1, X ++ [r1], Y ++ [r2], by go_num, by omega, T1, T2, HLB, HBB, .inr ⟨ga, ca, gb, cb, by rw [snoc_len], by rw [snoc_len], by omega, by omega, by omega, HOA2, HOB⟩⟩
            case measure => simp [intOf]; omega
        · rcases hC with ⟨rfl, rfl, h0⟩ | ⟨gx, cx, gy, cy, rfl, rfl, d1, d2, d3, hXO, hYO⟩
          · exfalso; omega
          · have lx := hXO.out.lo
            have hyp : 0 < Y.length := by rw [hY.out.len]; omega
            have hT2 : Hid (Tl (canF (k + 1)) (2 ^ (k + 1)) (X ++ Y)) := by
              have h2 := hT.out.len
              have hje : j = 2 ^ k := by omega
              have a := hX.out
              have b := hY.out
              rw [hje] at a b
              have := Tl.append (F := canF (k + 1)) a b (fun j hj => (canF_low hj).symm) (fun j hj => canF_high.symm)
              rw [show 2 ^ k + 2 ^ k = 2 ^ (k + 1) by rw [Nat.pow_succ]; omega] at this
              exact this
            go_wp2_with (at_builtin; refine wpCat rfl _ _ rfl hXO.out hYO.out rfl rfl (by omega) hyp (by omega) hs2.out ?_; intro ga ca wA OA BA; have HOA := Lib.hid OA; have HBA := Lib.hid (below_app hBq.out (Nat.le_refl _) lx.1 BA); clear OA BA)
            go_roundw
            case rel => exact ⟨k + 1, ga, ca, X ++ Y, by rw [List.length_append], by go_num, by omega, hT2, HOA, HBA⟩
            case measure => simp [intOf]; omega
    · have HK : Hid (k = d) := by show k = d; omega
      have hE := hT.out.len
      rw [HK.out] at hT hE
      go_wp2_with fail
      go_ret2
      rw [hE]
      exact lp_yes rfl rfl hT.out hO.out.rowIn hB.out

theorem specCanNo (d : Int) (hb : inB d 0 8 = false) (w : World) :
    Calls Try.prog 34 #[.int .i64 d] w (LP (canF 0) 0 false w) := by
  have HD := Lib.hid (fun W => inS_any d 0 8 W)
  rw [hb] at HD
  clear hb
  go_enter Try.func34, Try.ntmps34
  go_wp2_with (go_at_call 51; refine (HD.out _).mono ?_; rintro e w' ⟨rfl, rfl⟩)
  go_ret2
  exact lp_no (Below.refl _ _)
theorem implCanNo (d : Int) (hb : inB d 0 8 = false) (w : World) :
    Calls Try.prog 35 #[.int .i64 d] w (LP (canF 0) 0 false w) := by
  have HD := Lib.hid (fun W => within_any d 0 8 W)
  rw [hb] at HD
  clear hb
  go_enter Try.func35, Try.ntmps35
  go_wp2_with (go_at_call 53; refine (HD.out _).mono ?_; rintro e w' ⟨rfl, rfl⟩)
  go_ret2
  exact lp_no (Below.refl _ _)

theorem canBoth (d : Int) : ∃ f n ok, n ≤ 1048576 ∧ (∀ W, Calls Try.prog 34 #[.int .i64 d] W (LP f n ok W)) ∧ (∀ W, Calls Try.prog 35 #[.int .i64 d] W (LP f n ok W)) := by
  cases hb : inB d 0 8 with
  | false => exact ⟨_, 0, _, by omega, specCanNo d hb, implCanNo d hb⟩
  | true =>
    obtain ⟨a, b⟩ := inB_yes hb
    obtain ⟨n, rfl⟩ := Int.eq_ofNat_of_zero_le a
    have := pow_256 (k := n) (by omega)
    exact ⟨_, _, _, by omega, specCan n (by omega), implCan n (by omega)⟩

end Go.Proofs.Ytjnfonjbbbghpaa
