/-
  What is proved here: InvadeFrom of the program, as a walk. Conditions: weights of a field, a cell of it, at least one round and at most as many as it has cells.
-/
import Derived.Test.YthhimielelpcoaaIvs
import Derived.Test.YthhimielelpcoaaEdx
namespace Go.Proofs.Ythhimielelpcoaa
open Flt Go.RowKit
set_option linter.unusedVariables false
set_option linter.unusedSimpArgs false

theorem Frt.heap2 {w w' : World} {FB B m n : Nat} {x y : Int} {q : Nat → Bool} (r : Frt w FB B m x y n q) (e1 : w'.heap[FB]? = w.heap[FB]?) (e2 : w'.heap[B]? = w.heap[B]?) : Frt w' FB B m x y n q := ⟨r.row.heap e1, r.ed.heap e2⟩
set_option maxHeartbeats 16000000 in
set_option maxRecDepth 1000000 in
theorem implInvYes (x y : Int) (b off n c a cnt : Nat) (zs : List Nat) (w : World) (hb : b < w.heap.size) (hz : ∀ j, j < n → w.cell? ⟨b, off + j, none⟩ = some (.float .f32 (at0 zs j))) (hf : ∀ j, j < n → nanW .f32 (at0 zs j) = false) (hv : fvB x y n = true)
    (HW : Hid (∀ W, Below w.heap.size w W → Calls Try.prog 64 #[.slice (some ⟨b, off, none⟩) n c, .int .i64 x, .int .i64 y] W fun e w' => e = .returned (.bool true) ∧ Hid (Below W.heap.size W w'))) (ha : a < n) (hc : 1 ≤ cnt) (hc2 : cnt ≤ n) :
    Calls Try.prog 18 #[.slice (some ⟨b, off, none⟩) n c, .int .i64 x, .int .i64 y, .int .i64 (a : Nat), .int .i64 (cnt : Nat)] w (IvPost x y n a cnt zs w) := by
  obtain ⟨⟨hx, hy⟩, hnn, hn1, hn2⟩ := fvB_yes hv
  have HNN := Lib.hid hnn
  have HSD : Hid (sidB x y = true) := by
    unfold fvB at hv
    rw [Bool.and_eq_true] at hv
    exact hv.1
  have hsub : IntKind.i64.wrap ((n : Int) - 1) = (n : Int) - 1 := IntWalk.i64_in _ (by omega)
  have HA : Hid (∀ W, Calls Try.prog 53 #[.int .i64 (a : Nat), .int .i64 0, .int .i64 ((n : Int) - 1)] W fun e w' => e = .returned (.bool true) ∧ W = w') := fun W => by
    have := within_any (a : Int) 0 ((n : Int) - 1) W
    rwa [inB_in (by omega) (by omega)] at this
  have HCN : Hid (∀ W, Calls Try.prog 53 #[.int .i64 (cnt : Nat), .int .i64 1, .int .i64 (n : Nat)] W fun e w' => e = .returned (.bool true) ∧ W = w') := fun W => by
    have := within_any (cnt : Int) 1 (n : Int) W
    rwa [inB_in (by omega) (by omega)] at this
  have HGO : Hid (∀ k, k + 1 < n → 0 < (edL x y n (ivJ (ltW zs) x y n a k).1).length ∧ ∃ cc : Nat, ivB (ltW zs) (edL x y n (ivJ (ltW zs) x y n a k).1) = (cc : Int) ∧ cc < n ∧ ivJ (ltW zs) x y n a (k + 1) = (fiP (ivJ (ltW zs) x y n a k).1 cc, (ivJ (ltW zs) x y n a k).2 ++ [(cc : Int)])) := fun k hk => ivJ_go hx.1 hnn ha hk
  have HLN : Hid (∀ k, k < n → (ivJ (ltW zs) x y n a k).2.length = k + 1) := fun k hk => (ivJ_ok hx.1 hnn ha k hk).2.2
  have HFO : Hid (∀ (G g : Nat) (W : World), GroI W G [(a : Int)] (some ⟨g, 0, none⟩) 1 → Calls Try.prog 55 #[.int .i64 x, .int .i64 y, .slice (some ⟨g, 0, none⟩) 1 1] W fun e w' => ∃ FB B, e = .returned (.agg #[.int .i64 x, .int .i64 y, .slice (some ⟨FB, 0, none⟩) n n, .map (some B)]) ∧ FB ≠ B ∧ W.heap.size ≤ FB ∧ W.heap.size ≤ B ∧ Hid (Frt w' FB B 4 x y n (frQ [(a : Int)])) ∧ Hid (Below W.heap.size W w')) := fun G g W hO =>
    implFro x y n G 1 [(a : Int)] (some ⟨g, 0, none⟩) W HSD.out hnn (fun z hz => by rw [List.mem_singleton] at hz; subst hz; omega) (by show 1 ≤ 256; omega) hO
  have HMI : Hid (∀ (bx g gc : Nat) (q : Nat → Bool) (W : World), 0 < (edL x y n q).length → W.cell? ⟨bx, 0, none⟩ = some (.slice (some ⟨b, off, none⟩) n c) → (∀ j, j < (edL x y n q).length → W.cell? ⟨g, j, none⟩ = some (.int .i64 (atI (edL x y n q) j))) → Below w.heap.size w W → Calls Try.prog 65 #[.slice (some ⟨g, 0, none⟩) (edL x y n q).length gc, .func (.func 66) #[] #[.pointer (some ⟨bx, 0, none⟩)]] W fun e w' => e = .returned (.int .i64 (ivB (ltW zs) (edL x y n q))) ∧ ∃ k, w' = W.drewN k) := fun bx g gc q W hl hbx hX hB => by
    have h := minInv bx b off n c g gc zs (edL x y n q) W hn2 hl (by show (fulL _ _).length ≤ _; rw [fulL_len]; have := fulN_le (edg x y q) n; omega) (fun j hj => by
      obtain ⟨i, h1, h2, _⟩ := fulL_mem.1 (getD_mem hj)
      exact ⟨i, h1, h2⟩) hX hbx (fun j hj => (hB.cell (p := ⟨b, off + j, none⟩) hb).trans (hz j hj)) hf
    have e : ivB (ltW zs) (edL x y n q) = ivM (ltW zs) (edL x y n q) ((edL x y n q).length - 1) := by unfold ivB; rw [if_neg (by omega)]
    rw [e]; exact h
  have HFI : Hid (∀ (m FB B cc lo hi : Nat) (q r : Nat → Bool) (W : World), cc < n → m ≤ 1000000 → lo ≤ FB → FB < hi → lo ≤ B → B < hi → FB ≠ B → hi ≤ W.heap.size → Frt W FB B m x y n q → (∀ k, k < n → r k = fiP q cc k) → Calls Try.prog 59 #[.agg #[.int .i64 x, .int .i64 y, .slice (some ⟨FB, 0, none⟩) n n, .map (some B)], .int .i64 (cc : Int)] W fun en w' => en = .returned (.tuple #[]) ∧ Hid (Frt w' FB B (m + 4) x y n r) ∧ Hid (ButIn lo hi W w')) := fun m FB B cc lo hi q r W h1 h2 h3 h4 h5 h6 h7 h8 hF hr => by
    refine (implFil2 x y n n m FB B cc lo hi q r W HSD.out hnn h1 h2 h3 h4 h5 h6 h7 h8 hF hr).mono ?_
    rintro en w' ⟨he, r1, r2, r3⟩
    exact ⟨he, ⟨r1.out, r2.out.ext (edg_ext hx.1 hnn fun k hk => (hr k hk).symm)⟩, r3⟩
  have b1 : Below w.heap.size w (w.alloc (.cells #[.slice (some ⟨b, off, none⟩) n c] 33)) := (Below.refl _ _).alloc (Nat.le_refl _) _
  have HW1 := Lib.hid (HW.out _ b1)
  have c1 : (w.alloc (.cells #[.slice (some ⟨b, off, none⟩) n c] 33)).cell? ⟨w.heap.size, 0, none⟩ = some (.slice (some ⟨b, off, none⟩) n c) := cell1_new w _ _
  have hs1 : (w.alloc (.cells #[.slice (some ⟨b, off, none⟩) n c] 33)).heap.size = w.heap.size + 1 := by simp
  have HB1 := Lib.hid b1
  have HC1 := Lib.hid c1
  have HS1 := Lib.hid hs1
  clear hz hf hv hnn hx hy HW b1 c1 hs1 hb
  generalize hLT0 : ltW zs = lt at *
  have HL0 := Lib.hid hLT0
  clear hLT0
  go_enter Try.func18, Try.ntmps18
  go_upto_region 1 with fail
  generalize hw1 : w.alloc (.cells #[.slice (some ⟨b, off, none⟩) n c] 33) = w1 at *
  clear hw1
  have cw := HC1.out
  go_wp2_with fail
  refine HW1.out.mono ?_
  rintro e w2 ⟨rfl, hb2⟩
  have hl1 : w.heap.size < w1.heap.size := by have := HS1.out; omega
  have HB2 := Lib.hid (HB1.out.trans (hb2.out.mono HB1.out.size))
  have HC2 : Hid (w2.cell? ⟨w.heap.size, 0, none⟩ = some (.slice (some ⟨b, off, none⟩) n c)) := (hb2.out.cell (p := ⟨w.heap.size, 0, none⟩) hl1).trans HC1.out
  have hl2 : w.heap.size < w2.heap.size := Nat.lt_of_lt_of_le hl1 hb2.out.size
  clear HW1 HB1 HC1 HS1 cw hb2 hl1 w1
  go_upto_region 4 with (go_at_call 53; (with_reducible first | refine (HA.out _).mono ?_ | refine (HCN.out _).mono ?_); rintro e w' ⟨rfl, rfl⟩)
  have O3 : Hid (GroI (w2.alloc (.cells #[.int .i64 (a : Nat)] 2)) w2.heap.size [(a : Int)] (some ⟨w2.heap.size, 0, none⟩) 1) := GroI.lit1 w2 (Nat.le_refl _) (a : Int)
  have b3 : Below w2.heap.size w2 (w2.alloc (.cells #[.int .i64 (a : Nat)] 2)) := (Below.refl _ _).alloc (Nat.le_refl _) _
  have s3 : (w2.alloc (.cells #[.int .i64 (a : Nat)] 2)).heap.size = w2.heap.size + 1 := by simp
  have HB3 := Lib.hid b3
  have HS3 := Lib.hid s3
  clear b3 s3 hsub HA HCN
  go_upto_region 5 with fail
  generalize hw3 : w2.alloc (.cells #[.int .i64 (a : Nat)] 2) = w3 at *
  clear hw3
  have HF3 := Lib.hid (HFO.out _ _ w3 O3.out)
  clear HFO
  go_wp2_with fail
  refine HF3.out.mono ?_
  rintro e w4 ⟨FB, B, rfl, hne, hlF, hlB, hF4, hb4⟩
  have hs3 := HS3.out
  have O4 := Lib.hid (O3.out.below hb4.out)
  have V5 := Lib.hid (varG_new w4 x y FB n n B 89)
  have b5 : Below w4.heap.size w4 (w4.alloc (.cells #[.int .i64 x, .int .i64 y, .slice (some ⟨FB, 0, none⟩) n n, .map (some B)] 89)) := (Below.refl _ _).alloc (Nat.le_refl _) _
  have F5 : Hid (Frt (w4.alloc (.cells #[.int .i64 x, .int .i64 y, .slice (some ⟨FB, 0, none⟩) n n, .map (some B)] 89)) FB B (4 + 4 * 0) x y n (ivJ lt x y n a 0).1) := hF4.out.below b5
  have O5 : Hid (GroI (w4.alloc (.cells #[.int .i64 x, .int .i64 y, .slice (some ⟨FB, 0, none⟩) n n, .map (some B)] 89)) w2.heap.size (ivJ lt x y n a 0).2 (some ⟨w2.heap.size, 0, none⟩) 1) := O4.out.below b5
  have B5 : Hid (Below w2.heap.size w2 (w4.alloc (.cells #[.int .i64 x, .int .i64 y, .slice (some ⟨FB, 0, none⟩) n n, .map (some B)] 89))) := (HB3.out.trans (hb4.out.mono HB3.out.size)).trans (b5.mono (Nat.le_trans HB3.out.size hb4.out.size))
  have hFl := hF4.out.row.lt
  have hBl := hF4.out.ed.lt
  rw [hs3] at hlF hlB
  clear hF4 hb4 O3 O4 HB3 HF3 HS3 hs3 b5
  go_wp2_with fail
  generalize hhi : w4.heap.size = hi at *
  generalize hw5 : w4.alloc (.cells #[.int .i64 x, .int .i64 y, .slice (some ⟨FB, 0, none⟩) n n, .map (some B)] 89) = w5 at *
  clear hw5 hhi
  generalize hlo : w2.heap.size + 1 = lo at *
  have hwl : w2.heap.size < lo := by omega
  clear hlo
  go_loopw [13] (fun o wr => ∃ (k og c' : Nat), k + 1 ≤ cnt ∧ o = .slice (some ⟨og, 0, none⟩) (ivJ lt x y n a k).2.length c' ∧ (og < lo ∨ hi < og) ∧ Hid (GroI wr w2.heap.size (ivJ lt x y n a k).2 (some ⟨og, 0, none⟩) c') ∧ Hid (VarG wr hi x y FB n n B) ∧ Hid (Frt wr FB B (4 + 4 * k) x y n (ivJ lt x y n a k).1) ∧ Hid (Below w2.heap.size w2 wr)) (fun o _ => cnt - lenV o)
  case atStart => exact ⟨0, _, _, hc, rfl, .inl hwl, O5, V5, F5, B5⟩
  case round =>
    clear O5 V5 F5 B5
    obtain ⟨k, og, c', hk, rfl, hog, hO, hV, hF, hB⟩ := hrel
    have hvl : hi < wr.heap.size := hV.out.lt
    by_cases hlt : k + 1 < cnt
    · obtain ⟨hl, cc, hcc, hcn, hst⟩ := HGO.out k (by omega)
      have hlk := HLN.out k (by omega)
      generalize hq : (ivJ lt x y n a k).1 = q at *
      generalize hL : (ivJ lt x y n a k).2 = LL at *
      clear hq hL
      have HLK := Lib.hid hlk
      have hlti : (LL.length : Int) < (cnt : Int) := by omega
      have HST := Lib.hid hst
      have HCC := Lib.hid hcc
      clear hst hcc hlk
      have HCE : Hid (Calls Try.prog 57 #[.agg #[.int .i64 x, .int .i64 y, .slice (some ⟨FB, 0, none⟩) n n, .map (some B)]] wr fun e w' => ∃ A c, e = .returned (.slice A (edL x y n q).length c) ∧ Hid (GroI w' wr.heap.size (edL x y n q) A c) ∧ Hid (Below wr.heap.size wr w')) := implCes x y (some ⟨FB, 0, none⟩) n n n (4 + 4 * k) B (edg x y q) wr hF.out.ed (by omega)
      have v0 := hV.out.c0
      have v1 := hV.out.c1
      have v2 := hV.out.c2
      have v3 := hV.out.c3
      go_wp2_with fail
      refine HCE.out.mono ?_
      rintro e w6 ⟨A6, c6, rfl, hO6, hb6⟩
      have V6 := Lib.hid (hV.out.heap (hb6.out.block _ hV.out.lt))
      have F6 := Lib.hid (hF.out.below hb6.out)
      have OO6 := Lib.hid (hO.out.below hb6.out)
      have B6 : Hid (Below w2.heap.size w2 w6) := hB.out.trans (hb6.out.mono hB.out.size)
      have hv6 : hi < w6.heap.size := V6.out.lt
      obtain ⟨lg, rfl⟩ := hO6.out.adr hl
      have HM6 := Lib.hid (HMI.out w.heap.size lg c6 q w6 hl ((B6.out.cell (p := ⟨w.heap.size, 0, none⟩) hl2).trans HC2.out) (fun j hj => hO6.out.at hj) (HB2.out.trans (B6.out.mono HB2.out.size)))
      rw [HCC.out] at HM6
      have HF7 := Lib.hid (fun (W : World) (h1 : hi ≤ W.heap.size) (h2 : Frt W FB B (4 + 4 * k) x y n q) => HFI.out (4 + 4 * k) FB B cc lo hi q (ivJ lt x y n a (k + 1)).1 W hcn (by omega) hlF hFl hlB hBl hne h1 h2 (fun j _ => by rw [HST.out]))
      have u0 := V6.out.c0
      have u1 := V6.out.c1
      have u2 := V6.out.c2
      have u3 := V6.out.c3
      clear hO hV hF hB hb6 HCE v0 v1 v2 v3 hO6 hl
      generalize (edL x y n q).length = el at *
      go_wp2_with (go_at_call 65; refine HM6.out.mono ?_; rintro e w7 ⟨rfl, k7, rfl⟩)
      refine (HF7.out _ (by exact Nat.le_of_lt hv6) (by exact F6.out.heap2 rfl rfl)).mono ?_
      rintro e w8 ⟨rfl, F8, hI8⟩
      have V8 : Hid (VarG w8 hi x y FB n n B) := V6.out.heap (hI8.out.block hi hv6 (.inr (Nat.le_refl _)))
      have O8 : Hid (GroI w8 w2.heap.size LL (some ⟨og, 0, none⟩) c') := (OO6.out.dn (n := k7)).but hI8.out (fun z hz => by injection hz with hz; subst hz; exact hog.imp id Nat.le_of_lt)
      have h68 : Below w2.heap.size (w6.drewN k7) w8 := hI8.out.toBelow (by omega) B6.out.size
      have B8 : Hid (Below w2.heap.size w2 w8) := (belowN (n := k7) B6.out).trans h68
      clear h68
      have hv8 : hi < w8.heap.size := V8.out.lt
      have hll : LL.length ≤ 1048576 := by have := HLK.out; omega
      have hg8 : Hid (w2.heap.size ≤ w8.heap.size) := B8.out.size
      clear V6 F6 OO6 B6 HM6 HF7 hI8 u0 u1 u2 u3 hv6
      go_wp2_with (at_builtin; refine wpGroY rfl _ _ rfl (w0 := w8) O8.out rfl rfl rfl hll hg8.out ?_; intro g9 c9 w9 O9 A9 hg9; have HO9 := Lib.hid O9; have HA9 := Lib.hid A9; have HG9 := Lib.hid hg9; clear O9 A9 hg9)
      have V9 : Hid (VarG w9 hi x y FB n n B) := V8.out.heap (HA9.out.block hi hv8 (fun z hz => by injection hz with hz; subst hz; show og ≠ hi; omega))
      have F9 : Hid (Frt w9 FB B (4 + 4 * (k + 1)) x y n (ivJ lt x y n a (k + 1)).1) := (F8.out.heap2 (HA9.out.block FB (by omega) (fun z hz => by injection hz with hz; subst hz; show og ≠ FB; omega)) (HA9.out.block B (by omega) (fun z hz => by injection hz with hz; subst hz; show og ≠ B; omega))).mono (by omega)
      have B9 : Hid (Below w2.heap.size w2 w9) := ButA.below B8.out HA9.out hg8.out (fun z hz => (O8.out.lt z hz).1)
      have hog9 : g9 < lo ∨ hi < g9 := by
        rcases HG9.out with ⟨z, hz, e9⟩ | h
        · injection hz with hz
          subst hz
          have e9' : og = g9 := e9
          omega
        · omega
      go_roundw
      case rel => exact ⟨k + 1, g9, c9, by omega, by rw [HST.out]; show _ = Value.slice _ (LL ++ [(cc : Int)]).length _; rw [List.length_append]; rfl, hog9, by rw [HST.out]; exact HO9, V9, F9, B9⟩
      case measure => show cnt - (LL.length + 1) < cnt - LL.length; have := HLK.out; omega
    · have hkc : k + 1 = cnt := by omega
      have hlk := HLN.out k (by omega)
      have hlti : ¬ (((ivJ lt x y n a k).2.length : Int) < (cnt : Int)) := by omega
      have R9 : Hid (RowW wr w.heap.size wr.heap.size (some ⟨og, 0, none⟩) cnt (iv (atI (ivJ lt x y n a (cnt - 1)).2))) := by
        have := hO.out.rowW.lower (lo' := w.heap.size) (by omega)
        rw [hlk, hkc, show k = cnt - 1 by omega] at this
        exact this
      have HE : Hid ((ivJ lt x y n a k).2.length = cnt) := by show _ = _; omega
      have B9 : Hid (Below w.heap.size w wr) := HB2.out.trans (hB.out.mono HB2.out.size)
      clear hlk hkc hO hV hF hB
      go_wp2_with fail
      go_ret2
      exact ⟨_, c', by rw [← HE.out]; rfl, by rw [HL0.out]; exact R9, B9⟩
end Go.Proofs.Ythhimielelpcoaa
