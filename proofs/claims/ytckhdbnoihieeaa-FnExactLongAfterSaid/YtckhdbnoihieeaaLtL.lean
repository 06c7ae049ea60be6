/-
  What is proved here: the law LettersAfter, as a walk. Conditions: the grammar is one that a machine can hold.
-/
import Derived.Test.YtckhdbnoihieeaaLtH
import Derived.Test.YtckhdbnoihieeaaOpenG
import Derived.Deep.RegionHeld3
namespace Go.Proofs.Ytckhdbnoihieeaa
open Go.RowKit Go.Maps

theorem keepL {W wa wb : World} {x : Nat} {st : ByteArray} {A : Option Addr} {n c : Nat} (hb : Below wa.heap.size wa wb) (h0 : wa.cell? ⟨x, 0, none⟩ = some (.string st)) (h1 : wa.cell? ⟨x, 1, none⟩ = some (.slice A n c)) (hB : Hid (Below W.heap.size W wa)) (hx : x < W.heap.size) :
    wb.cell? ⟨x, 0, none⟩ = some (.string st) ∧ wb.cell? ⟨x, 1, none⟩ = some (.slice A n c) := by
  have := Nat.lt_of_lt_of_le hx hB.out.size
  exact ⟨by rw [hb.cell (p := ⟨x, 0, none⟩) this]; exact h0, by rw [hb.cell (p := ⟨x, 1, none⟩) this]; exact h1⟩
theorem ButG.inn {B g : Nat} {w w' : World} (h : ButG B (some ⟨g, 0, none⟩) w w') : ButIn g (g + 1) w w' :=
  ⟨h.os, h.tape, h.output, h.size, fun k hk hd => h.block k hk fun a ha => by cases ha; show k ≠ g; omega⟩
theorem VarG.butIn {w w' : World} {x l h : Nat} {st : ByteArray} {A : Option Addr} {n c : Nat} (V : VarG w x st A n c) (hb : ButIn l h w w') (hx : x < l ∨ h ≤ x) : VarG w' x st A n c := by
  have e : w'.heap[x]? = w.heap[x]? := hb.block x V.lt hx
  exact ⟨Nat.lt_of_lt_of_le V.lt hb.size, by rw [World.cell?_of_block (w := w) e]; exact V.c0, by rw [World.cell?_of_block (w := w) e]; exact V.c1⟩
theorem atS_littl {ss : List ByteArray} {b : Nat} (h : ∀ j, j < ss.length → (atS ss j).size ≤ b) (j : Nat) : (atS ss j).size ≤ b := by
  by_cases g : j < ss.length
  · exact h j g
  · have : atS ss j = ByteArray.empty := by simp [atS, List.getD, List.getElem?_eq_none (Nat.not_lt.1 g)]
    rw [this]
    exact Nat.zero_le _

set_option maxHeartbeats 16000000 in
set_option maxRecDepth 1000000 in
theorem lawLt (st : ByteArray) (A : Option Addr) (n c : Nat) (ss : List ByteArray) (q : Int) {w : World} (G : GramIn w st A n ss) :
    Calls Try.prog 9 #[.agg #[.string st, .slice A n c], .int .i64 q] w fun e w' => e = .returned (.bool true) ∧ Below w.heap.size w w' := by
  obtain ⟨hr, hn, hN, hst, hS⟩ := G
  have B0 : Below w.heap.size w (w.alloc (.cells #[.string st, .slice A n c] 49)) := (Below.refl _ _).alloc (Nat.le_refl _) _
  have HV := Lib.hid (varG_new w st A n c 49)
  have HZ := Lib.hid (szGrammar_is st A n c ss 1048576 _ (hr.carry B0) hn hN hst hS (Nat.le_refl _))
  have HR := Lib.hid hr
  have HL := Lib.hid hn
  have HB := Lib.hid B0
  have HX : Hid (w.heap.size < (w.alloc (.cells #[.string st, .slice A n c] 49)).heap.size) := by show _ < _; simp
  clear hr hn hS B0
  go_enter Try.func9, Try.ntmps9
  go_wp2_with fail
  generalize w.alloc (.cells #[.string st, .slice A n c] 49) = a0 at *
  generalize hX : w.heap.size = X at *
  have HXX := Lib.hid hX
  clear hX
  refine HZ.out.mono ?_
  rintro e w1 ⟨r, rfl, hsz, hb⟩
  have B1 : Hid (Below X w w1) := HB.out.trans (hb.mono (Nat.le_of_lt HX.out))
  have V1 := Lib.hid (HV.out.below hb)
  have x1 : Hid (X < w1.heap.size) := V1.out.lt
  clear hb HZ HB HV HX
  by_cases hr0 : r < 0
  · go_wp2_with fail
    go_ret
    exact ⟨rfl, by rw [HXX.out]; exact B1.out⟩
  · obtain ⟨s1, s2, s3⟩ := hsz.out.1 (by omega)
    have HS : Hid (∀ j, (atS ss j).size ≤ 1048576) := atS_littl s3
    have hr1 : 0 ≤ r := by omega
    clear s3 hsz hr0
    have hmm := ltLn_le st n ss q
    have c0 := V1.out.c0
    have c1 := V1.out.c1
    have hR1 : RowU w1 w1.heap.size A ss := (HR.out.below B1.out).mono (Nat.le_of_lt x1.out)
    have H1 := Lib.hid (toGrammar_is st A n c ss w1 hR1 HL.out s2)
    clear hR1
    go_wp2_with fail
    -- what the model answers
    refine H1.out.mono ?_
    rintro e w2 ⟨g2, rfl, l2, t2, O2, hb2⟩
    have B2 : Hid (Below X w w2) := B1.out.trans (hb2.out.mono (Nat.le_of_lt x1.out))
    have V2 := Lib.hid (V1.out.below hb2.out)
    have x2 : Hid (X < w2.heap.size) := V2.out.lt
    clear H1 c0 c1 V1 B1 x1 hb2 l2 t2
    go_wp2_with fail
    refine (specLtr n n (some ⟨g2, 0, none⟩) st ss q w2 O2.out.row HL.out s2 hst HS.out).mono ?_
    rintro e w3 ⟨As, cs, rfl, RS, hb3⟩
    have HI := Lib.hid (fun (g : Nat) (W : World) (h : RowU W W.heap.size (some ⟨g, 0, none⟩) ss) => implLtr n n (some ⟨g, 0, none⟩) st ss q W h HL.out s2)
    unfold LtQ at HI
    generalize ltLn st n ss q = m at *
    generalize ltBo st n ss q = b at *
    generalize ltFn st n ss q = f at *
    have B3 : Hid (Below X w w3) := B2.out.trans (hb3.out.mono (Nat.le_of_lt x2.out))
    have V3 := Lib.hid (V2.out.below hb3.out)
    have x3 : Hid (X < w3.heap.size) := V3.out.lt
    obtain ⟨ls, hs, RS3, els, ehs⟩ : ∃ ls hs, Hid (RowW w3 ls hs As m (iv f)) ∧ Hid (X < ls) ∧ Hid (hs ≤ w3.heap.size) := ⟨_, _, RS, x2, Nat.le_refl _⟩
    clear hb3 B2 V2 x2 O2 RS
    have c0 := V3.out.c0
    have c1 := V3.out.c1
    have hR3 : RowU w3 w3.heap.size A ss := (HR.out.below B3.out).mono (Nat.le_of_lt x3.out)
    have H3 := Lib.hid (toGrammar_is st A n c ss w3 hR3 HL.out s2)
    clear hR3
    go_wp2_with fail
    -- the copy that the program gets
    refine H3.out.mono ?_
    rintro e w4 ⟨g4, rfl, l4, t4, O4, hb4⟩
    have B4 : Hid (Below X w w4) := B3.out.trans (hb4.out.mono (Nat.le_of_lt x3.out))
    have V4 := Lib.hid (V3.out.below hb4.out)
    have x4 : Hid (X < w4.heap.size) := V4.out.lt
    have RS4 := Lib.hid (RS3.out.below hb4.out)
    have eg : Hid (hs ≤ g4) := Nat.le_trans ehs.out l4
    have xg : Hid (X < g4) := Nat.lt_of_lt_of_le x3.out l4
    have hb5 : Below w4.heap.size w4 (w4.alloc (.cells #[.string st, .slice (some ⟨g4, 0, none⟩) n n] 56)) := (Below.refl _ _).alloc (Nat.le_refl _) _
    have U5 := Lib.hid (varG_new w4 st (some ⟨g4, 0, none⟩) n n 56)
    have O5 := Lib.hid (O4.out.below hb5)
    have B5 := Lib.hid (B4.out.trans (hb5.mono (Nat.le_of_lt x4.out)))
    have V5 := Lib.hid (V4.out.below hb5)
    have RS5 := Lib.hid (RS4.out.below hb5)
    have T4 := Lib.hid t4
    clear hb5 O4 B4 V4 x4 H3 c0 c1 V3 B3 x3 hb4 l4 t4 RS3 RS4 ehs
    go_wp2_with fail
    generalize w4.alloc (.cells #[.string st, .slice (some ⟨g4, 0, none⟩) n n] 56) = a5 at *
    generalize w4.heap.size = y5 at *
    refine (HI.out g4 a5 O5.out.row).mono ?_
    rintro e w6 ⟨Ai, ci, rfl, RI, hb6⟩
    have U6 := Lib.hid (U5.out.below hb6.out)
    have O6 := Lib.hid (O5.out.below hb6.out)
    have V6 := Lib.hid (V5.out.below hb6.out)
    have RS6 := Lib.hid (RS5.out.below hb6.out)
    have x6 : Hid (X < w6.heap.size) := V6.out.lt
    have B6 : Hid (Below X w w6) := B5.out.trans (hb6.out.mono (Nat.le_of_lt V5.out.lt))
    obtain ⟨li, hi, RI6, eli⟩ : ∃ li hi, Hid (RowW w6 li hi Ai m (iv f)) ∧ Hid (y5 < li) := ⟨_, _, RI, U5.out.lt⟩
    clear hb6 U5 O5 V5 B5 RS5 RI
    go_wp2_with fail
    -- the lists are equal
    refine (eqIv Ai As m ci cs li hi ls hs f w6 RI6.out RS6.out (by omega)).mono ?_
    rintro e w7 ⟨rfl, hb7⟩
    have U7 := Lib.hid (U6.out.below hb7.out)
    have O7 := Lib.hid (O6.out.below hb7.out)
    have V7 := Lib.hid (V6.out.below hb7.out)
    have RS7 := Lib.hid (RS6.out.below hb7.out)
    have RI7 := Lib.hid (RI6.out.below hb7.out)
    have B7 : Hid (Below X w w7) := B6.out.trans (hb7.out.mono (Nat.le_of_lt x6.out))
    have x7 : X < w7.heap.size := V7.out.lt
    have y7 : y5 < w7.heap.size := U7.out.lt
    clear hb7 U6 O6 V6 RS6 RI6 B6 x6
    -- the copy is as it was
    have c0 := V7.out.c0
    have c1 := V7.out.c1
    have d0 := U7.out.c0
    have d1 := U7.out.c1
    have hR7 : Hid (RowU w7 w7.heap.size A ss) := (HR.out.below B7.out).mono (Nat.le_of_lt x7)
    have hO7 : Hid (RowU w7 w7.heap.size (some ⟨g4, 0, none⟩) ss) := O7.out.row
    have K0 : Hid (Below w7.heap.size w7 w7.drew) := (Below.refl _ _).drew
    go_wp2_with fail
    go_region_held3 (fun w' => w'.cell? ⟨y5, 0, none⟩ = some (.string st) ∧ w'.cell? ⟨y5, 1, none⟩ = some (.slice (some ⟨g4, 0, none⟩) n n) ∧ w'.cell? ⟨X, 0, none⟩ = some (.string st) ∧ w'.cell? ⟨X, 1, none⟩ = some (.slice A n c) ∧ Hid (Below w7.heap.size w7 w')) (first | (exact ⟨by assumption, by assumption, by assumption, by assumption, by assumption⟩) | go_keep)
      (first
        | ((go_at_call 31; refine (toGrammar_is st A n c ss _ (hR7.out.carry ((‹Hid (Below w7.heap.size w7 _)›).out)) HL.out s2).mono ?_; rintro e w8 ⟨g7, rfl, l7, t7, O8, hb8⟩; have K8 := Lib.hid ((‹Hid (Below w7.heap.size w7 _)›).out.trans (hb8.out.mono (‹Hid (Below w7.heap.size w7 _)›).out.size)); obtain ⟨e0, e1⟩ := keepL (x := X) hb8.out (by assumption) (by assumption) (by assumption) x7; obtain ⟨f0, f1⟩ := keepL (x := y5) hb8.out (by assumption) (by assumption) (by assumption) y7))
        | ((go_at_call 34; refine (eqGrammar_is st _ _ n _ _ ss _ _ (Nat.le_refl _) (hO7.out.carry (‹Hid (Below w7.heap.size w7 _)›).out) (‹Hid (OwnU _ _ _ ss)›).out.row HL.out s2).mono ?_; rintro e w9 ⟨rfl, hb9⟩; have K9 := Lib.hid ((‹Hid (Below w7.heap.size w7 _)›).out.trans (hb9.out.mono (‹Hid (Below w7.heap.size w7 _)›).out.size)); obtain ⟨e0, e1⟩ := keepL (x := X) hb9.out (by assumption) (by assumption) (by assumption) x7; obtain ⟨f0, f1⟩ := keepL (x := y5) hb9.out (by assumption) (by assumption) (by assumption) y7)))
    have hb9 : Hid (Below w7.heap.size w7 w9) := ‹Hid (Below w7.heap.size w7 w9)›
    have B9 : Hid (Below X w w9) := B7.out.trans (hb9.out.mono (Nat.le_of_lt x7))
    have V9 := Lib.hid (V7.out.below hb9.out)
    have U9 := Lib.hid (U7.out.below hb9.out)
    have O9 := Lib.hid (O7.out.below hb9.out)
    have RS9 := Lib.hid (RS7.out.below hb9.out)
    have RI9 := Lib.hid (RI7.out.below hb9.out)
    have HY : Hid (y5 < w9.heap.size) := U9.out.lt
    clear hb9 V7 U7 O7 RS7 RI7 B7 x7 y7 hR7 hO7 K0 c0 c1 d0 d1
    -- the copy is marked
    have d0 := U9.out.c0
    have d1 := U9.out.c1
    go_wp2_with fail
    refine (markGrammar_is st g4 n n 1 ss w9 (by have := HY.out; have := T4.out; omega) O9.out HL.out s2 (by decide) (by decide)).mono ?_
    rintro e w10 ⟨rfl, -, hb10⟩
    have hbi := hb10.out.inn
    have B10 : Hid (Below X w w10) := B9.out.trans (hb10.out.toBelow.mono (Nat.le_of_lt xg.out))
    have V10 := Lib.hid (V9.out.butIn hbi (.inl xg.out))
    have RS10 := Lib.hid (RS9.out.but hbi (.inl eg.out))
    have RI10 := Lib.hid (RI9.out.but hbi (.inr (by have := eli.out; have := T4.out; omega)))
    have b3 : ¬ ((1 + n * 2 : Nat) : Int) < 0 := by omega
    clear hbi hb10 d0 d1 U9 V9 O9 RS9 RI9 B9
    go_wp2_with (go_at_call 33; refine (eqIv Ai As m ci cs li hi ls hs f w10 RI10.out RS10.out (by omega)).mono ?_; rintro e w11 ⟨rfl, hb11⟩)
    have B11 : Hid (Below X w w11) := B10.out.trans (hb11.out.mono (Nat.le_of_lt V10.out.lt))
    have V11 := Lib.hid (V10.out.below hb11.out)
    have RS11 := Lib.hid (RS10.out.below hb11.out)
    have RI11 := Lib.hid (RI10.out.below hb11.out)
    clear hb11 V10 RS10 RI10 B10 b3
    go_wp2_with fail
    -- the list is marked
    refine (markIv Ai m ci 1 li hi f w11 RI11.out (by omega) (by decide)).mono ?_
    rintro e w12 ⟨rfl, RI12, hb12⟩
    have V12 := Lib.hid (V11.out.butIn hb12.out (.inl (by have := xg.out; have := T4.out; have := eli.out; omega)))
    have RS12 := Lib.hid (RS11.out.but hb12.out (.inl (by have := eg.out; have := T4.out; have := eli.out; omega)))
    have B12 : Hid (Below X w w12) := B11.out.trans (hb12.out.toBelow (by have := xg.out; have := T4.out; have := eli.out; omega) (Nat.le_of_lt V11.out.lt))
    clear hb12 V11 RS11 RI11 B11
    go_wp2_with fail
    refine (heldIv Ai m ci 1 li hi w12 RI12.out (by omega) (by decide)).mono ?_
    rintro e w13 ⟨rfl, hb13⟩
    have V13 := Lib.hid (V12.out.below hb13.out)
    have RS13 := Lib.hid (RS12.out.below hb13.out)
    have RI13 := Lib.hid (RI12.out.below hb13.out)
    have B13 : Hid (Below X w w13) := B12.out.trans (hb13.out.mono (Nat.le_of_lt V12.out.lt))
    have b4 : ¬ ((1 + m : Nat) : Int) < 0 := by omega
    have c0 := V13.out.c0
    have c1 := V13.out.c1
    have hR13 : RowU w13 w13.heap.size A ss := (HR.out.below B13.out).mono (Nat.le_of_lt V13.out.lt)
    have H13 := Lib.hid (toGrammar_is st A n c ss w13 hR13 HL.out s2)
    clear hb13 V12 RS12 RI12 B12 hR13
    go_wp2_with fail
    -- once more
    refine H13.out.mono ?_
    rintro e w14 ⟨g14, rfl, -, -, O14, hb14⟩
    have RS14 := Lib.hid (RS13.out.below hb14.out)
    have RI14 := Lib.hid (RI13.out.below hb14.out)
    have x14 : Hid (X < w14.heap.size) := (V13.out.below hb14.out).lt
    have B14 : Hid (Below X w w14) := B13.out.trans (hb14.out.mono (Nat.le_of_lt V13.out.lt))
    clear H13 hb14 V13 RS13 RI13 B13 c0 c1
    go_wp2_with fail
    refine (HI.out g14 w14 O14.out.row).mono ?_
    rintro e w15 ⟨Aj, cj, rfl, RJ, hb15⟩
    have RS15 := Lib.hid (RS14.out.below hb15.out)
    have RI15 := Lib.hid (RI14.out.below hb15.out)
    have x15 : Hid (X < w15.heap.size) := Nat.lt_of_lt_of_le x14.out hb15.out.size
    have B15 : Hid (Below X w w15) := B14.out.trans (hb15.out.mono (Nat.le_of_lt x14.out))
    clear O14 hb15 RS14 RI14 B14
    go_wp2_with fail
    refine (eqIv Aj As m cj cs _ _ ls hs f w15 RJ.out RS15.out (by omega)).mono ?_
    rintro e w16 ⟨rfl, hb16⟩
    have RI16 := Lib.hid (RI15.out.below hb16.out)
    have B16 : Hid (Below X w w16) := B15.out.trans (hb16.out.mono (Nat.le_of_lt x15.out))
    have x16 : Hid (X < w16.heap.size) := Nat.lt_of_lt_of_le x15.out hb16.out.size
    clear hb16 RJ RS15 RI15 B15
    go_wp2_with fail
    refine (heldIv Ai m ci 1 li hi w16 RI16.out (by omega) (by decide)).mono ?_
    rintro e w17 ⟨rfl, hb17⟩
    have B17 : Hid (Below X w w17) := B16.out.trans (hb17.out.mono (Nat.le_of_lt x16.out))
    clear hb17 RI16 B16
    go_wp2_with fail
    go_ret
    exact ⟨rfl, by rw [HXX.out]; exact B17.out⟩

end Go.Proofs.Ytckhdbnoihieeaa
