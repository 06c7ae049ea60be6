/-
  What is proved here: the law SameGrammar, as a walk. Conditions: the grammars are ones that a machine can hold.
-/
import Derived.Test.YtedmigemplojlaaLwv
namespace Go.Proofs.Ytedmigemplojlaa
open Go.RowKit

set_option maxHeartbeats 8000000 in
set_option maxRecDepth 1000000 in
theorem lawSameG (s1 : ByteArray) (A1 : Option Addr) (n1 c1 : Nat) (r1 : List ByteArray) (s2 : ByteArray) (A2 : Option Addr) (n2 c2 : Nat) (r2 : List ByteArray) {w : World} (G1 : GramIn w s1 A1 n1 r1) (G2 : GramIn w s2 A2 n2 r2) :
    Calls Try.prog 5 #[.agg #[.string s1, .slice A1 n1 c1], .agg #[.string s2, .slice A2 n2 c2]] w fun e w' => e = .returned (.bool true) ∧ Below w.heap.size w w' := by
  obtain ⟨hr1, hn1, hN1, hst1, hS1⟩ := G1
  obtain ⟨hr2, hn2, hN2, hst2, hS2⟩ := G2
  have bb1 : Below w.heap.size w (w.alloc (.cells #[.string s1, .slice A1 n1 c1] 25)) := (Below.refl _ _).alloc (Nat.le_refl _) _
  have HV1 := varG_new w s1 A1 n1 c1 25
  have hx : (w.alloc (.cells #[.string s1, .slice A1 n1 c1] 25)).heap.size = w.heap.size + 1 := by simp
  generalize hw1 : w.alloc (.cells #[.string s1, .slice A1 n1 c1] 25) = b1 at *
  have bb2 : Below b1.heap.size b1 (b1.alloc (.cells #[.string s2, .slice A2 n2 c2] 25)) := (Below.refl _ _).alloc (Nat.le_refl _) _
  have HV2 := varG_new b1 s2 A2 n2 c2 25
  rw [hx] at HV2
  have V1 := Lib.hid (HV1.below bb2)
  have V2 := Lib.hid HV2
  have B0 := Lib.hid (bb1.trans (bb2.mono bb1.size))
  have R1 := Lib.hid hr1
  have R2 := Lib.hid hr2
  have L1 := Lib.hid hn1
  have L2 := Lib.hid hn2
  rw [← hw1] at V1 V2 B0
  have E1 := Lib.hid hS1
  have E2 := Lib.hid hS2
  clear hr1 hr2 hn1 hn2 hS1 hS2 bb1 bb2 HV1 HV2 hx hw1
  go_enter Try.func5, Try.ntmps5
  go_wp2_with fail
  generalize (w.alloc (.cells #[.string s1, .slice A1 n1 c1] 25)).alloc (.cells #[.string s2, .slice A2 n2 c2] 25) = a0 at *
  generalize hY : w.heap.size + 1 = Y at *
  generalize hX : w.heap.size = X at *
  have HXX := Lib.hid hX
  clear hX hY
  have x0 : Hid (X ≤ a0.heap.size) := Nat.le_of_lt V1.out.lt
  -- sizes
  refine (szGrammar_is s1 A1 n1 c1 r1 1048576 a0 ((R1.out.below B0.out).mono x0.out) L1.out hN1 hst1 E1.out (Nat.le_refl _)).mono ?_
  rintro e w1 ⟨p, rfl, hsz1, hb⟩
  have B1 : Hid (Below X w w1) := B0.out.trans (hb.mono x0.out)
  have V1b := Lib.hid (V1.out.below hb)
  have V2b := Lib.hid (V2.out.below hb)
  have x1 : Hid (X ≤ w1.heap.size) := Nat.le_of_lt V1b.out.lt
  clear hb V1 V2 B0 x0 E1
  by_cases hp0 : p < 0
  · go_wp2_with fail
    go_ret
    exact ⟨rfl, by rw [HXX.out]; exact B1.out⟩
  · obtain ⟨_, m1, _⟩ := hsz1.out.1 (by omega)
    have hpl := hsz1.out.2.2
    obtain ⟨q, rfl⟩ : ∃ q : Nat, p = q := ⟨p.toNat, by omega⟩
    have hq : q ≤ 1048576 := by omega
    have c0 := V2b.out.c0
    have c1' := V2b.out.c1
    have H2 := Lib.hid (szGrammar_is s2 A2 n2 c2 r2 q w1 ((R2.out.below B1.out).mono x1.out) L2.out hN2 hst2 E2.out hq)
    clear hsz1 hpl hp0 E2
    go_wp2_with fail
    refine H2.out.mono ?_
    rintro e w2 ⟨p2, rfl, hsz2, hb⟩
    have B2 : Hid (Below X w w2) := B1.out.trans (hb.mono x1.out)
    have V1c := Lib.hid (V1b.out.below hb)
    have V2c := Lib.hid (V2b.out.below hb)
    clear hb V1b V2b B1 H2 c0 c1' x1
    by_cases hp2 : p2 < 0
    · go_wp2_with fail
      go_ret
      exact ⟨rfl, by rw [HXX.out]; exact B2.out⟩
    · obtain ⟨_, m2, _⟩ := hsz2.out.1 (by omega)
      have m2' : n2 ≤ 1048576 := by omega
      have hp2' : 0 ≤ p2 := by omega
      clear hsz2 hp2 m2 hq
      have x2 : X < w2.heap.size := V1c.out.lt
      have y2 : Y < w2.heap.size := V2c.out.lt
      have c0 := V1c.out.c0
      have c1' := V1c.out.c1
      have d0 := V2c.out.c0
      have d1 := V2c.out.c1
      have Q1 : Hid (RowS w2 w2.heap.size A1 r1) := (R1.out.below B2.out).mono (Nat.le_of_lt x2)
      have Q2 : Hid (RowS w2 w2.heap.size A2 r2) := (R2.out.below B2.out).mono (Nat.le_of_lt x2)
      have K0 : Hid (Below w2.heap.size w2 w2.drew) := (Below.refl _ _).drew
      go_wp2_with fail
      -- what the model answers
      go_region_held3 (fun w' => w'.cell? ⟨X, 0, none⟩ = some (.string s1) ∧ w'.cell? ⟨X, 1, none⟩ = some (.slice A1 n1 c1) ∧ w'.cell? ⟨Y, 0, none⟩ = some (.string s2) ∧ w'.cell? ⟨Y, 1, none⟩ = some (.slice A2 n2 c2) ∧ Hid (Below w2.heap.size w2 w')) (first | (exact ⟨by assumption, by assumption, by assumption, by assumption, by assumption⟩) | go_keep)
        (first
          | ((go_at_call 19; (with_reducible refine (toGrammar_is s1 A1 n1 c1 r1 _ (Q1.out.carry ((‹Hid (Below w2.heap.size w2 _)›).out)) L1.out m1).mono ?_); rintro e w7 ⟨g7, rfl, l7, t7, O7, hb7⟩; have K7 := Lib.hid ((‹Hid (Below w2.heap.size w2 _)›).out.trans (hb7.out.mono (‹Hid (Below w2.heap.size w2 _)›).out.size)); obtain ⟨e0, e1⟩ := keepV (x := X) hb7.out (by assumption) (by assumption) (by assumption) x2; obtain ⟨f0, f1⟩ := keepV (x := Y) hb7.out (by assumption) (by assumption) (by assumption) y2; try have P7 := Lib.hid ((‹Hid (OwnS _ _ _ r2)›).out.below hb7.out)))
          | ((go_at_call 19; (with_reducible refine (toGrammar_is s2 A2 n2 c2 r2 _ (Q2.out.carry ((‹Hid (Below w2.heap.size w2 _)›).out)) L2.out m2').mono ?_); rintro e w7 ⟨g7, rfl, l7, t7, O7, hb7⟩; have K7 := Lib.hid ((‹Hid (Below w2.heap.size w2 _)›).out.trans (hb7.out.mono (‹Hid (Below w2.heap.size w2 _)›).out.size)); obtain ⟨e0, e1⟩ := keepV (x := X) hb7.out (by assumption) (by assumption) (by assumption) x2; obtain ⟨f0, f1⟩ := keepV (x := Y) hb7.out (by assumption) (by assumption) (by assumption) y2; try have P7 := Lib.hid ((‹Hid (OwnS _ _ _ r1)›).out.below hb7.out)))
          | ((go_at_call 22; refine (specSameG n1 n2 _ _ _ _ s1 s2 r1 r2 _ (‹Hid (OwnS _ _ _ r1)›).out.row (‹Hid (OwnS _ _ _ r2)›).out.row L1.out L2.out m1 m2').mono ?_; rintro e w8 ⟨rfl, hb8⟩; have K8 := Lib.hid ((‹Hid (Below w2.heap.size w2 _)›).out.trans (hb8.out.mono (‹Hid (Below w2.heap.size w2 _)›).out.size)); obtain ⟨e0, e1⟩ := keepV (x := X) hb8.out (by assumption) (by assumption) (by assumption) x2; obtain ⟨f0, f1⟩ := keepV (x := Y) hb8.out (by assumption) (by assumption) (by assumption) y2)))
      have K3 : Hid (Below w2.heap.size w2 w8) := ‹Hid (Below w2.heap.size w2 w8)›
      have B3 := Lib.hid (B2.out.trans (K3.out.mono (Nat.le_of_lt x2)))
      have V1d := Lib.hid (V1c.out.below K3.out)
      have V2d := Lib.hid (V2c.out.below K3.out)
      clear c0 c1' d0 d1 Q1 Q2 K0 x2 y2 V1c V2c B2
      have x3 : Hid (X ≤ w8.heap.size) := Nat.le_of_lt V1d.out.lt
      have c0 := V1d.out.c0
      have c1' := V1d.out.c1
      have H4 := Lib.hid (toGrammar_is s1 A1 n1 c1 r1 w8 ((R1.out.below B3.out).mono x3.out) L1.out m1)
      go_wp2_with fail
      -- the copies that the program gets
      refine H4.out.mono ?_
      rintro e w9 ⟨ga, rfl, la, ta, Oa, ha⟩
      have ba : Below w9.heap.size w9 (w9.alloc (.cells #[.string s1, .slice (some ⟨ga, 0, none⟩) n1 n1] 30)) := (Below.refl _ _).alloc (Nat.le_refl _) _
      have Ua := Lib.hid (varG_new w9 s1 (some ⟨ga, 0, none⟩) n1 n1 30)
      have d0 := (V2d.out.below ha.out).c0
      have d1 := (V2d.out.below ha.out).c1
      have hy : Y < w9.heap.size := (V2d.out.below ha.out).lt
      have V1e := Lib.hid ((V1d.out.below ha.out).below ba)
      have V2e := Lib.hid ((V2d.out.below ha.out).below ba)
      have B4 := Lib.hid ((B3.out.trans (ha.out.mono x3.out)).trans (ba.mono (Nat.le_trans x3.out ha.out.size)))
      have Oa2 := Lib.hid (Oa.out.below ba)
      clear H4 c0 c1' V1d V2d B3 x3 K3 la ta Oa ha ba
      go_wp2_with fail
      clear d0 d1 hy
      generalize w9.alloc (.cells #[.string s1, .slice (some ⟨ga, 0, none⟩) n1 n1] 30) = a9 at *
      generalize w9.heap.size = ya at *
      have x4 : Hid (X ≤ a9.heap.size) := Nat.le_of_lt V1e.out.lt
      refine (toGrammar_is s2 A2 n2 c2 r2 a9 ((R2.out.below B4.out).mono x4.out) L2.out m2').mono ?_
      rintro e w10 ⟨gb, rfl, lb, tb, Ob, hb⟩
      have bb : Below w10.heap.size w10 (w10.alloc (.cells #[.string s2, .slice (some ⟨gb, 0, none⟩) n2 n2] 30)) := (Below.refl _ _).alloc (Nat.le_refl _) _
      have Ub := Lib.hid (varG_new w10 s2 (some ⟨gb, 0, none⟩) n2 n2 30)
      have d0 := (Ua.out.below hb.out).c0
      have d1 := (Ua.out.below hb.out).c1
      have hy : ya < w10.heap.size := (Ua.out.below hb.out).lt
      have Ua2 := Lib.hid ((Ua.out.below hb.out).below bb)
      have V1f := Lib.hid ((V1e.out.below hb.out).below bb)
      have V2f := Lib.hid ((V2e.out.below hb.out).below bb)
      have B5 := Lib.hid ((B4.out.trans (hb.out.mono x4.out)).trans (bb.mono (Nat.le_trans x4.out hb.out.size)))
      have Oa3 := Lib.hid ((Oa2.out.below hb.out).below bb)
      have Ob3 := Lib.hid (Ob.out.below bb)
      clear V1e V2e B4 x4 lb tb Ob hb bb Ua Oa2
      go_wp2_with fail
      clear d0 d1 hy
      generalize w10.alloc (.cells #[.string s2, .slice (some ⟨gb, 0, none⟩) n2 n2] 30) = a10 at *
      generalize w10.heap.size = yb at *
      have x5 : Hid (X ≤ a10.heap.size) := Nat.le_of_lt V1f.out.lt
      refine (implSameG n1 n2 _ _ _ _ s1 s2 r1 r2 a10 Oa3.out.row Ob3.out.row L1.out L2.out m1 m2').mono ?_
      rintro e w11 ⟨rfl, hc⟩
      have B6 := Lib.hid (B5.out.trans (hc.out.mono x5.out))
      have V1g := Lib.hid (V1f.out.below hc.out)
      have V2g := Lib.hid (V2f.out.below hc.out)
      have Ua4 := Lib.hid (Ua2.out.below hc.out)
      have Ub4 := Lib.hid (Ub.out.below hc.out)
      have P1 : Hid (RowS w11 w11.heap.size (some ⟨ga, 0, none⟩) r1) := (Oa3.out.below hc.out).row
      have P2 : Hid (RowS w11 w11.heap.size (some ⟨gb, 0, none⟩) r2) := (Ob3.out.below hc.out).row
      clear V1f V2f B5 x5 hc Ua2 Ub Oa3 Ob3
      have x6 : X < w11.heap.size := V1g.out.lt
      have ya6 : ya < w11.heap.size := Ua4.out.lt
      have c0 := V1g.out.c0
      have c1' := V1g.out.c1
      have d0 := Ua4.out.c0
      have d1 := Ua4.out.c1
      have Q1 : Hid (RowS w11 w11.heap.size A1 r1) := (R1.out.below B6.out).mono (Nat.le_of_lt x6)
      have K0 : Hid (Below w11.heap.size w11 w11.drew) := (Below.refl _ _).drew
      go_wp2_with fail
      -- the copies are as they were
      go_region_held3 (fun w' => w'.cell? ⟨ya, 0, none⟩ = some (.string s1) ∧ w'.cell? ⟨ya, 1, none⟩ = some (.slice (some ⟨ga, 0, none⟩) n1 n1) ∧ w'.cell? ⟨X, 0, none⟩ = some (.string s1) ∧ w'.cell? ⟨X, 1, none⟩ = some (.slice A1 n1 c1) ∧ Hid (Below w11.heap.size w11 w')) (first | (exact ⟨by assumption, by assumption, by assumption, by assumption, by assumption⟩) | go_keep)
        (first
          | ((go_at_call 19; refine (toGrammar_is s1 A1 n1 c1 r1 _ (Q1.out.carry ((‹Hid (Below w11.heap.size w11 _)›).out)) L1.out m1).mono ?_; rintro e w7 ⟨g7, rfl, l7, t7, O7, hb7⟩; have K7 := Lib.hid ((‹Hid (Below w11.heap.size w11 _)›).out.trans (hb7.out.mono (‹Hid (Below w11.heap.size w11 _)›).out.size)); obtain ⟨e0, e1⟩ := keepV (x := X) hb7.out (by assumption) (by assumption) (by assumption) x6; obtain ⟨f0, f1⟩ := keepV (x := ya) hb7.out (by assumption) (by assumption) (by assumption) ya6))
          | ((go_at_call 21; refine (eqGrammar_is s1 _ _ n1 _ _ r1 _ _ (Nat.le_refl _) (P1.out.carry (‹Hid (Below w11.heap.size w11 _)›).out) (‹Hid (OwnS _ _ _ r1)›).out.row L1.out m1).mono ?_; rintro e w8 ⟨rfl, hb8⟩; have K8 := Lib.hid ((‹Hid (Below w11.heap.size w11 _)›).out.trans (hb8.out.mono (‹Hid (Below w11.heap.size w11 _)›).out.size)); obtain ⟨e0, e1⟩ := keepV (x := X) hb8.out (by assumption) (by assumption) (by assumption) x6; obtain ⟨f0, f1⟩ := keepV (x := ya) hb8.out (by assumption) (by assumption) (by assumption) ya6)))
      have K4 : Hid (Below w11.heap.size w11 w8) := ‹Hid (Below w11.heap.size w11 w8)›
      have B7 := Lib.hid (B6.out.trans (K4.out.mono (Nat.le_of_lt x6)))
      have V2h := Lib.hid (V2g.out.below K4.out)
      have Ub5 := Lib.hid (Ub4.out.below K4.out)
      have P3 : Hid (RowS w8 w8.heap.size (some ⟨gb, 0, none⟩) r2) := P2.out.carry K4.out
      have x7 : Hid (X < w8.heap.size) := Nat.lt_of_lt_of_le x6 K4.out.size
      clear c0 c1' d0 d1 Q1 K0 x6 ya6 V1g V2g Ua4 Ub4 B6 P1 P2
      have y7 : Y < w8.heap.size := V2h.out.lt
      have yb7 : yb < w8.heap.size := Ub5.out.lt
      have c0 := V2h.out.c0
      have c1' := V2h.out.c1
      have d0 := Ub5.out.c0
      have d1 := Ub5.out.c1
      have Q2 : Hid (RowS w8 w8.heap.size A2 r2) := (R2.out.below B7.out).mono (Nat.le_of_lt x7.out)
      have K0 : Hid (Below w8.heap.size w8 w8.drew) := (Below.refl _ _).drew
      go_wp2_with fail
      go_region_held3 (fun w' => w'.cell? ⟨yb, 0, none⟩ = some (.string s2) ∧ w'.cell? ⟨yb, 1, none⟩ = some (.slice (some ⟨gb, 0, none⟩) n2 n2) ∧ w'.cell? ⟨Y, 0, none⟩ = some (.string s2) ∧ w'.cell? ⟨Y, 1, none⟩ = some (.slice A2 n2 c2) ∧ Hid (Below w8.heap.size w8 w')) (first | (exact ⟨by assumption, by assumption, by assumption, by assumption, by assumption⟩) | go_keep)
        (first
          | ((go_at_call 19; refine (toGrammar_is s2 A2 n2 c2 r2 _ (Q2.out.carry ((‹Hid (Below w8.heap.size w8 _)›).out)) L2.out m2').mono ?_; rintro e w7 ⟨g7, rfl, l7, t7, O7, hb7⟩; have K7 := Lib.hid ((‹Hid (Below w8.heap.size w8 _)›).out.trans (hb7.out.mono (‹Hid (Below w8.heap.size w8 _)›).out.size)); obtain ⟨e0, e1⟩ := keepV (x := Y) hb7.out (by assumption) (by assumption) (by assumption) y7; obtain ⟨f0, f1⟩ := keepV (x := yb) hb7.out (by assumption) (by assumption) (by assumption) yb7))
          | ((go_at_call 21; refine (eqGrammar_is s2 _ _ n2 _ _ r2 _ _ (Nat.le_refl _) (P3.out.carry (‹Hid (Below w8.heap.size w8 _)›).out) (‹Hid (OwnS _ _ _ r2)›).out.row L2.out m2').mono ?_; rintro e w12 ⟨rfl, hb8⟩; have K8 := Lib.hid ((‹Hid (Below w8.heap.size w8 _)›).out.trans (hb8.out.mono (‹Hid (Below w8.heap.size w8 _)›).out.size)); obtain ⟨e0, e1⟩ := keepV (x := Y) hb8.out (by assumption) (by assumption) (by assumption) y7; obtain ⟨f0, f1⟩ := keepV (x := yb) hb8.out (by assumption) (by assumption) (by assumption) yb7)))
      have HE := Lib.hid (B7.out.trans ((‹Hid (Below w8.heap.size w8 w12)›).out.mono (Nat.le_of_lt x7.out)))
      go_wp2_with fail
      go_ret
      exact ⟨rfl, by rw [HXX.out]; exact HE.out⟩

end Go.Proofs.Ytedmigemplojlaa
