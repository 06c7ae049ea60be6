/-
  What is proved here: JournalOf of the program, and the law, as walks. Conditions: the library's variables hold what it lays.
-/
import Derived.Test.YtegbclfjcckglaaDoorJns
import Derived.Test.YtegbclfjcckglaaDoorBld
import Derived.Test.YtegbclfjcckglaaDoorShelfK
namespace Go.Proofs.YtegbclfjcckglaaDoor
open Go.RowKit

/-- a builder stands behind more memory -/
theorem atF_more {B b : Nat} {p : Value} {bs : List Value} {W W' : World} (h : Lib.BuilderAtF 106 5 B b p bs W) (hb : Below W.heap.size W W') : Lib.BuilderAtF 106 5 B b p bs W' := by
  have hlt := h.lt
  obtain ⟨h1, v, h2, h3, h4⟩ := h
  refine ⟨h1, v, by rw [hb.block b hlt]; exact h2, ?_, h4⟩
  exact h3.kept (row := none) ⟨hb.os, hb.tape, hb.output, hb.size, fun k hk _ => hb.block k hk⟩ (Classical.em _)
theorem isB_more {B b : Nat} {bs : List Value} {W W' : World} (h : IsB B b bs W) (hb : Below W.heap.size W W') : IsB B b bs W' := by
  rcases h with h | h
  · exact .inl (atF_more h hb)
  · exact .inr (atF_more h hb)

theorem contains_nl (l : List UInt8) : decide (0 ≤ Lib.indexByte l 10) = decide ((10 : UInt8) ∈ l) := by
  rw [← Lib.index_one]
  rcases index_sep 10 l with ⟨h1, h2⟩ | ⟨p, r, h1, _, h3⟩
  · rw [h1, decide_eq_false (fun h => h2 10 h rfl)]; rfl
  · rw [h3, decide_eq_true (p := (10 : UInt8) ∈ l) (by rw [h1]; simp)]
    exact decide_eq_true (Int.natCast_nonneg _)

set_option maxHeartbeats 1000000 in
set_option maxRecDepth 10000 in
theorem implJO (A : Option Addr) (c : Nat) (ss : List ByteArray) (w : World) (hr : RowT w w.heap.size A ss) (hN : ss.length ≤ 1048576) (hS : ∀ j, j < ss.length → (atT ss j).size ≤ 1048576) (hp : Pow w) :
    Calls Tryd.prog 29 #[.slice A ss.length c] w (JNP ss w) := by
  have HR := Lib.hid hr
  have HS := Lib.hid hS
  have HP : Hid (∀ W, Below w.heap.size w W → Pow W) := fun W h => hp.below h
  have I0 : Hid (IsB w.heap.size w.heap.size (Lib.byteCells (joTo ss 0)) (w.alloc (.cells #[.pointer none, .slice none 0 0] 106))) := Lib.IsBuilderF.of (Lib.fresh_isBuilder 106 5 w)
  have B0 : Hid (Below w.heap.size w (w.alloc (.cells #[.pointer none, .slice none 0 0] 106))) := (Below.refl _ _).alloc (Nat.le_refl _) _
  clear hr hS hp
  go_enter Tryd.func29, Tryd.ntmps29
  go_wp2_with fail
  generalize w.alloc (.cells #[.pointer none, .slice none 0 0] 106) = w1 at *
  generalize hX : w.heap.size = X at *
  have HX := Lib.hid hX
  clear hX
  go_loopw [5, 12] (fun q i wr => ∃ k : Nat, k ≤ ss.length ∧ i = .int .i64 k ∧ q = .int .i64 (ckTo ss k) ∧ (joTo ss k).length ≤ 16000 ∧ Hid (∀ j, j < k → (10 : UInt8) ∉ (atT ss j).data.toList) ∧ Hid (IsB X X (Lib.byteCells (joTo ss k)) wr) ∧ Hid (Below X w wr)) (fun _ i _ => ss.length - (intOf i).toNat)
  case atStart => exact ⟨0, Nat.zero_le _, rfl, rfl, Nat.zero_le _, fun j h => absurd h (Nat.not_lt_zero _), I0, B0⟩
  case round =>
    obtain ⟨k, hk, rfl, rfl, hlen, hJ, hI, hB⟩ := hrel
    have hz : Hid (X ≤ wr.heap.size) := by show X ≤ _; rw [← HX.out]; exact hB.out.size
    by_cases hlt : k < ss.length
    · obtain ⟨b, off, rfl, hb, hcell⟩ := HR.out (by omega)
      have hc := hcell k hlt
      rw [← hB.out.cell (p := ⟨b, _, none⟩) hb] at hc
      have hx := HS.out k hlt
      have hcb := ckTo_bd (ss := ss) k hk
      have hel := (ent_len hcb (atT ss k).data.toList).2
      have HE := Lib.hid (entryOf_is (ckTo ss k) (atT ss k) hcb hx wr (HP.out _ hB.out))
      have hbytes : Lib.byteCells (joTo ss (k + 1)) = Lib.byteCells (joTo ss k) ++ Lib.strCells (entB (ckTo ss k) (atT ss k)) := by
        rw [joTo_succ hlt, Lib.byteCells_append, Lib.strCells_eq]; rfl
      have hesz : (entB (ckTo ss k) (atT ss k)).size ≤ 1048596 := by
        show (List.toArray _).size ≤ _
        rw [size_list] at hel
        simp only [List.size_toArray]
        omega
      have hbl : (Lib.byteCells (joTo ss k)).length ≤ 16000 := by rw [Lib.byteCells_length]; exact hlen
      have HW : Hid (∀ w2, Below wr.heap.size wr w2 → Calls Tryd.prog 74 #[.pointer (some ⟨X, 0, none⟩), .string (entB (ckTo ss k) (atT ss k))] w2 fun e w' => e = .returned (.tuple #[.int .i64 (entB (ckTo ss k) (atT ss k)).size, .nilIface]) ∧ IsB X X (Lib.byteCells (joTo ss (k + 1))) w' ∧ Below X w2 w') := fun w2 h => (wr_string X X _ (entB (ckTo ss k) (atT ss k)) w2 (isB_more hI.out h) (by omega) (Nat.le_trans hz.out h.size)).mono fun e w' ⟨h1, h2⟩ => ⟨h1, by rw [hbytes]; exact h2.1, h2.2.1⟩
      have HCo : Hid (∀ W, Calls Tryd.prog 75 #[.string (atT ss k), .string ⟨#[10]⟩] W fun e w' => e = .returned (.bool (decide ((10 : UInt8) ∈ (atT ss k).data.toList))) ∧ w' = W) := fun W => by
        rw [← contains_nl]; exact Tryd.strings_Contains_one (atT ss k) 10 W
      have HLn : Hid (∀ w3, IsB X X (Lib.byteCells (joTo ss (k + 1))) w3 → Calls Tryd.prog 76 #[.pointer (some ⟨X, 0, none⟩)] w3 fun e w' => e = .returned (.int .i64 (joTo ss (k + 1)).length) ∧ w' = w3) := fun w3 h => by
        have := Tryd.Builder_Len_f X X _ w3 h
        rwa [Lib.byteCells_length] at this
      have hcs := ckTo_succ hlt
      have NL : Hid ((10 : UInt8) ∈ (atT ss k).data.toList → jB ss = false ∧ jnT ss = ⟨#[]⟩) := fun h => jb_line hlt h
      have NB : Hid (16000 < (joTo ss (k + 1)).length → jB ss = false ∧ jnT ss = ⟨#[]⟩) := fun h => jb_long h
      have HJ2 : Hid ((10 : UInt8) ∉ (atT ss k).data.toList → ∀ j, j < k + 1 → (10 : UInt8) ∉ (atT ss j).data.toList) := fun h j hj => by
        by_cases e : j = k
        · rw [e]; exact h
        · exact hJ.out j (by omega)
      have HCK : Hid (chk (ckTo ss k) (atT ss k).data.toList = ckTo ss (k + 1)) := hcs.symm
      clear hcell hx hcb hel hbytes hesz hbl hcs hJ
      generalize entB (ckTo ss k) (atT ss k) = ee at *
      generalize chk (ckTo ss k) (atT ss k).data.toList = c3 at *
      generalize ckTo ss k = cc at *
      by_cases h10 : (10 : UInt8) ∈ (atT ss k).data.toList
      · have N := Lib.hid (NL.out h10)
        rw [decide_eq_true h10] at HCo
        clear h10 NL NB HJ2 HLn
        generalize atT ss k = x at *
        go_wp2_with fail
        refine HE.out.mono ?_
        rintro e w2 ⟨rfl, b2⟩
        have B2 := Lib.hid b2
        clear b2
        go_wp2_with fail
        refine (HW.out w2 B2.out).mono ?_
        rintro e w3 ⟨rfl, I3, b3⟩
        have B3 : Hid (Below X w w3) := (hB.out.trans (B2.out.mono hz.out)).trans b3
        clear I3 b3
        go_wp2_with fail
        refine (HCo.out _).mono ?_
        rintro e w4 ⟨rfl, rfl⟩
        go_wp2_with fail
        go_ret2
        exact ⟨by rw [N.out.1, N.out.2]; rfl, by rw [HX.out]; exact B3⟩
      · have HJ3 := Lib.hid (HJ2.out h10)
        rw [decide_eq_false h10] at HCo
        by_cases hbig : 16000 < (joTo ss (k + 1)).length
        · have N := Lib.hid (NB.out hbig)
          clear h10 NL NB HJ2 HJ3
          generalize atT ss k = x at *
          generalize (joTo ss (k + 1)).length = nn at *
          go_wp2_with fail
          refine HE.out.mono ?_
          rintro e w2 ⟨rfl, b2⟩
          have B2 := Lib.hid b2
          clear b2
          go_wp2_with fail
          refine (HW.out w2 B2.out).mono ?_
          rintro e w3 ⟨rfl, I3, b3⟩
          have B3 : Hid (Below X w w3) := (hB.out.trans (B2.out.mono hz.out)).trans b3
          have HL3 := Lib.hid (HLn.out w3 I3)
          clear I3 b3
          go_wp2_with (first | (go_at_call 75; refine (HCo.out _).mono ?_; rintro e w4 ⟨rfl, rfl⟩) | (go_at_call 76; refine HL3.out.mono ?_; rintro e w5 ⟨rfl, rfl⟩))
          go_ret2
          exact ⟨by rw [N.out.1, N.out.2]; rfl, by rw [HX.out]; exact B3⟩
        · have hlen2 : (joTo ss (k + 1)).length ≤ 16000 := by omega
          clear h10 NL NB HJ2 hbig
          generalize atT ss k = x at *
          generalize hnn : (joTo ss (k + 1)).length = nn at *
          have HNN := Lib.hid hnn
          clear hnn
          go_wp2_with fail
          refine HE.out.mono ?_
          rintro e w2 ⟨rfl, b2⟩
          have B2 := Lib.hid b2
          clear b2
          go_wp2_with fail
          refine (HW.out w2 B2.out).mono ?_
          rintro e w3 ⟨rfl, I3, b3⟩
          have B3 : Hid (Below X w w3) := (hB.out.trans (B2.out.mono hz.out)).trans b3
          have HL3 := Lib.hid (HLn.out w3 I3)
          have HI3 := Lib.hid I3
          clear I3 b3
          go_wp2_with (first | (go_at_call 75; refine (HCo.out _).mono ?_; rintro e w4 ⟨rfl, rfl⟩) | (go_at_call 76; refine HL3.out.mono ?_; rintro e w5 ⟨rfl, rfl⟩))
          go_roundw
          case rel => exact ⟨k + 1, by omega, by go_num, by rw [HCK.out], by rw [HNN.out]; exact hlen2, HJ3, HI3, B3⟩
          case measure => simp [intOf]; omega
    · obtain rfl : k = ss.length := by omega
      have N := Lib.hid (jb_yes hJ.out (by rw [← joTo_all]; exact hlen))
      have HC := Lib.hid (Tryd.Builder_String_any_k X X (joTo ss ss.length) wr hI.out hz.out)
      have HA : Hid ((⟨(joTo ss ss.length).toArray⟩ : ByteArray) = ⟨(joL 0 ss).toArray⟩) := by show _ = _; rw [joTo_all]
      clear hI hJ
      go_wp2_with fail
      refine HC.out.mono ?_
      rintro e w2 ⟨rfl, _, b2, _⟩
      have B2 : Hid (Below X w w2) := hB.out.trans b2
      clear b2
      go_wp2_with fail
      go_ret2
      exact ⟨by rw [N.out.1, N.out.2, ← HA.out]; rfl, by rw [HX.out]; exact B2⟩

set_option maxHeartbeats 1000000 in
theorem lawJO (A : Option Addr) (len c : Nat) (ss : List ByteArray) {w : World} (G : StrsIn w A len ss) (hp : Pow w) :
    Calls Tryd.prog 7 #[.slice A len c] w fun e w' => e = .returned (.bool true) ∧ Below w.heap.size w w' := by
  obtain ⟨hr, rfl, hN, hS⟩ := G
  have HR := Lib.hid hr
  have HP := Lib.hid hp
  have HZ := Lib.hid (szStr_is A c ss 1048576 w hr hN hS (Nat.le_refl _))
  clear hr hp hS
  go_enter Tryd.func7, Tryd.ntmps7
  go_wp2_with fail
  refine HZ.out.mono ?_
  rintro e w1 ⟨r, rfl, hsz, rfl⟩
  clear HZ
  by_cases hr0 : r < 0
  · go_wp2_with fail
    go_ret
    exact ⟨rfl, Below.refl _ _⟩
  · obtain ⟨s1, s2⟩ := hsz.1 (by omega)
    have HS := Lib.hid s2
    have hr1 : 0 ≤ r := by omega
    clear hsz s2 hr0
    generalize hX : w1.heap.size = X at *
    have HX := Lib.hid hX
    have HR : Hid (RowT w1 X A ss) := by show RowT w1 X A ss; have := HR.out; exact this
    have B0 : Hid (Below X w1 w1) := Below.refl _ _
    go_wp2_with fail
    refine (toStr_is A _ ss w1 (by rw [hX]; exact HR.out) s1).mono ?_
    rintro e w2 ⟨g2, rfl, O2, b2⟩
    have B2 : Hid (Below X w1 w2) := by show Below X w1 w2; rw [← hX]; exact b2.out
    clear b2
    go_wp2_with fail
    refine (specJO _ _ ss w2 O2.out.row s1 HS.out).mono ?_
    rintro e w3 ⟨rfl, b3⟩
    have z2 : Hid (X ≤ w2.heap.size) := by show X ≤ _; rw [← hX]; exact B2.out.size
    have B3 := Lib.hid (B2.out.trans (b3.out.mono z2.out))
    have z3 : Hid (X ≤ w3.heap.size) := Nat.le_trans z2.out b3.out.size
    clear b3 B2 O2 z2
    go_wp2_with fail
    refine (toStr_is A _ ss w3 ((HR.out.below B3.out).mono z3.out) s1).mono ?_
    rintro e w4 ⟨g4, rfl, O4, b4⟩
    have B4 := Lib.hid (B3.out.trans (b4.out.mono z3.out))
    have z4 : Hid (X ≤ w4.heap.size) := Nat.le_trans z3.out b4.out.size
    clear b4 B3 z3
    go_wp2_with fail
    refine (implJO _ _ ss w4 O4.out.row s1 HS.out (HP.out.below (by rw [hX]; exact B4.out))).mono ?_
    rintro e w5 ⟨rfl, b5⟩
    have B5 := Lib.hid (B4.out.trans (b5.out.mono z4.out))
    have z5 : Hid (X ≤ w5.heap.size) := Nat.le_trans z4.out b5.out.size
    have P5 := Lib.hid (O4.out.below b5.out).row
    clear b5 B4 z4 O4
    go_wp2_with fail
    refine (toStr_is A _ ss w5 ((HR.out.below B5.out).mono z5.out) s1).mono ?_
    rintro e w6 ⟨g6, rfl, O6, b6⟩
    have B6 := Lib.hid (B5.out.trans (b6.out.mono z5.out))
    have P6 := Lib.hid ((P5.out.below b6.out).mono b6.out.size)
    clear b6 B5 z5 P5
    go_wp2_with fail
    refine (eqStr_is _ _ _ _ ss w6 w6.heap.size P6.out O6.out.row s1).mono ?_
    rintro e w7 ⟨rfl, n, rfl⟩
    have B7 : Hid (Below X w1 (w6.drewN n)) := B6.out.trans ⟨rfl, rfl, rfl, Nat.le_refl _, fun _ _ => rfl⟩
    go_wp2_with fail
    go_ret
    exact ⟨rfl, by rw [hX]; exact B7.out⟩

end Go.Proofs.YtegbclfjcckglaaDoor
