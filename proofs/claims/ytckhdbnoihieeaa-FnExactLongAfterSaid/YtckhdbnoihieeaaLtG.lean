/-
  What is proved here: the counts of letters after so many turns, by the program, as a walk. Conditions: a valid grammar; at most 64 turns.
-/
import Derived.Test.YtckhdbnoihieeaaLtF
import Derived.Maps.RangeWalk
namespace Go.Proofs.Ytckhdbnoihieeaa
open Go.RowKit Go.Maps

theorem ltC_far (l : List UInt8) (j : Nat) (hj : 27 ≤ j) : ltC l j = 0 := by
  unfold ltC
  have : (l.filter fun b => decide (ltI b = j)) = [] := List.filter_eq_nil_iff.2 fun b _ => by
    have := ltI_lt b
    simp; omega
  rw [this]; rfl
theorem nxP_far (now : Nat → Int) (ss : List ByteArray) (n j : Nat) (hj : 27 ≤ j) : ∀ i, nxP now (byF ss n) i j = 0
  | 0 => by unfold nxP; rw [if_neg (by omega)]
  | i + 1 => by
    unfold nxP
    rw [nxP_far now ss n j hj i]
    unfold byF
    rw [ltC_far _ _ hj]; simp
/-- counts of letters, all small -/
def CtB (F : Nat → Int) : Prop := ∀ j, 0 ≤ F j ∧ F j ≤ 1000000000000
theorem CtB.start {st : ByteArray} (h : wordB st 32 = true) : CtB (ltC st.data.toList) := fun j => by
  have h1 := ltC_le st.data.toList j
  have h2 : st.data.toList.length ≤ 32 := by simpa using wordB_size h
  omega
theorem CtB.step {ss : List ByteArray} {n : Nat} {F : Nat → Int} (hok : ∀ k, k < n → okAt ss k = true) (h : CtB F) (ho : okF (stepF ss n F) = true) : CtB (stepF ss n F) := fun j => by
  by_cases hj : j < 27
  · have h1 := (adF_bd hok h n (Nat.le_refl _) j).1
    rw [turn_same hok hj] at h1
    have h2 := of_decide_eq_true ho ⟨j, hj⟩
    exact ⟨h1, h2⟩
  · have : stepF ss n F j = 0 := nxP_far _ _ _ _ (by omega) _
    rw [this]; omega
theorem CtM.ext {w : World} {B n : Nat} {F G : Nat → Int} (h : CtM w B n F) (e : ∀ j, j < 27 → F j = G j) : CtM w B n G := by
  obtain ⟨D, hown, h1, h2⟩ := h
  exact ⟨D, hown, fun j hj => by rw [h1 j hj, e j hj], h2⟩
theorem CtM.made (w : World) : CtM (w.alloc (.map #[] 0)) w.heap.size 0 (fun _ => 0) :=
  ⟨.map [], World.ownsMap_made _ _ _ _, fun j _ => rfl, fun c h => by cases h⟩

/-- what the program gives -/
def CtPost (o : Option (Nat → Int)) (w : World) (e : Ending) (w' : World) : Prop :=
  Hid (Below w.heap.size w w') ∧ ((o = none ∧ e = .returned (.tuple #[.map none, .bool false])) ∨ ∃ F C, o = some F ∧ e = .returned (.tuple #[.map (some C), .bool true]) ∧ Hid (CtM w' C 20000 F))

set_option maxHeartbeats 8000000 in
set_option maxRecDepth 1000000 in
theorem countsAfter_is (A : Option Addr) (n c Q : Nat) (st : ByteArray) (ss : List ByteArray) (w : World) (hr : RowU w w.heap.size A ss) (hn : ss.length = 2 * n) (hN : n ≤ 8) (hok : ∀ k, k < n → okAt ss k = true) (hst : wordB st 32 = true) (hQ : Q ≤ 64) :
    Calls Try.prog 80 #[.agg #[.string st, .slice A n c], .int .i64 Q] w (CtPost (afN ss n st Q) w) := by
  have hmm := @run_makeMap Try.prog
  have HR := Lib.hid hr
  have HL := Lib.hid hn
  have HK := Lib.hid hok
  have HW := Lib.hid hst
  have hst32 := wordB_size hst
  clear hr hn hok hst
  go_enter Try.func80, Try.ntmps80
  have y0 : Below w.heap.size w (w.alloc (.cells #[.string st, .slice A n c] 56)) := (Below.refl _ _).alloc (Nat.le_refl _) _
  have hx1 : (w.alloc (.cells #[.string st, .slice A n c] 56)).heap.size = w.heap.size + 1 := by simp
  have e1 : (w.alloc (.cells #[.string st, .slice A n c] 56)).cell? ⟨w.heap.size, 1, none⟩ = some (.slice A n c) := by simp [World.cell?, World.alloc, -World.alloc_eq]
  have y1 : Below (w.heap.size + 1) (w.alloc (.cells #[.string st, .slice A n c] 56)) ((w.alloc (.cells #[.string st, .slice A n c] 56)).alloc (.map #[] 0)) := (Below.refl _ _).alloc (by omega) _
  have E1 := Lib.hid ((y1.cell (p := ⟨w.heap.size, 1, none⟩) (Nat.lt_succ_self _)).trans e1)
  have HB0 : Hid (Below w.heap.size w ((w.alloc (.cells #[.string st, .slice A n c] 56)).alloc (.map #[] 0))) := y0.trans (y1.mono (Nat.le_succ _))
  have HC0 : Hid (CtM ((w.alloc (.cells #[.string st, .slice A n c] 56)).alloc (.map #[] 0)) (w.heap.size + 1) 0 (fun _ => 0)) := by
    show CtM _ _ _ _
    rw [← hx1]
    exact CtM.made _
  have hs0 : ((w.alloc (.cells #[.string st, .slice A n c] 56)).alloc (.map #[] 0)).heap.size = w.heap.size + 2 := by simp
  clear y0 e1 y1
  go_wp2_with fail
  clear hx1
  generalize (w.alloc (.cells #[.string st, .slice A n c] 56)).alloc (.map #[] 0) = a0 at *
  clear hmm
  refine (countLetters_is (w.heap.size + 1) 0 (fun _ => 0) st 1 _ HC0.out HW.out (fun _ => by omega) (by omega) (by omega)).mono ?_
  rintro e w1 ⟨rfl, hC1, hG1⟩
  have hC2 : Hid (CtM w1 (w.heap.size + 1) (32 + 0 * 256) (ltC st.data.toList)) := (hC1.out.mono (by omega)).ext fun j _ => by
    show 0 + 1 * _ = _; omega
  have HB1 : Hid (Below w.heap.size w w1) := HB0.out.grown hG1.out (by omega) (fun j hj => by cases hj; omega)
  have E2 : Hid (w1.cell? ⟨w.heap.size, 1, none⟩ = some (.slice A n c)) := (World.cell?_of_block (w := a0) (hG1.out.block w.heap.size (by omega) (fun e => by injection e with e; omega))).trans E1.out
  have hs1 : w.heap.size < w1.heap.size := by have := hG1.out.size; omega
  have HRw : Hid (RowU w1 w1.heap.size A ss) := HR.out.carry HB1.out
  clear hC1 hG1 HC0 HB0 E1 hs0
  generalize hX : w.heap.size = X at *
  have HX := Lib.hid hX
  clear hX
  go_wp2_with fail
  go_loopw [6, 15] (fun cv iv wr => ∃ (k C : Nat) (F : Nat → Int), k ≤ Q ∧ cv = .map (some C) ∧ iv = .int .i64 k ∧ Hid (CtM wr C (32 + k * 256) F) ∧ Hid (afN ss n st k = some F) ∧ Hid (CtB F) ∧ Hid (Below w1.heap.size w1 wr)) (fun _ iv _ => Q - (intOf iv).toNat)
  case atStart => exact ⟨0, X + 1, _, Nat.zero_le _, rfl, rfl, hC2, rfl, CtB.start HW.out, Below.refl _ _⟩
  case round =>
    obtain ⟨k, C, F, hk, rfl, rfl, hC, hA, hF, hB⟩ := hrel
    by_cases hlt : k < Q
    · have hc1 : wr.cell? ⟨X, 1, none⟩ = some (.slice A n c) := (hB.out.cell (p := ⟨X, 1, none⟩) hs1).trans E2.out
      have HR2 : Hid (RowU wr wr.heap.size A ss) := HRw.out.carry hB.out
      go_wp2_with fail
      refine (behind_is A n c C (32 + k * 256) ss F wr HR2.out HL.out hN HK.out hC.out hF.out (by omega)).mono ?_
      rintro e w2 ⟨C2, rfl, hC2', hCt, hB2⟩
      have hT : Hid (CtM w2 C2 (32 + (k + 1) * 256) (stepF ss n F)) := (hCt.out.mono (by omega)).ext fun j hj => turn_same HK.out hj
      have hB3 : Hid (Below w1.heap.size w1 w2) := hB.out.trans (hB2.out.mono hB.out.size)
      have hS : Hid (okF (stepF ss n F) = true → CtB (stepF ss n F)) := fun ho => CtB.step HK.out hF.out ho
      have hY : Hid (okF (stepF ss n F) = true → afN ss n st (k + 1) = some (stepF ss n F)) := fun ho => afN_yes hA.out ho
      have hZ : Hid (okF (stepF ss n F) = false → afN ss n st Q = none) := fun ho => afN_none (afN_no hA.out ho) Q (by omega)
      generalize stepF ss n F = G at *
      obtain ⟨D, hown, hat, hhas⟩ := hT.out
      have HAt := Lib.hid hat
      have HHs := Lib.hid hhas
      clear hat hhas hC hA hF hB HR2 hCt hB2 hc1 hC2' hT
      go_wp2_with (first
        | (at_range; refine wpList_range_own _ rfl _ 94 rfl 21 2 lawK Try.underlying94 _ C2 _ D rfl hown ?_; intro w0 hrg0 hg0 hs0)
        | go_in)
      go_frame
      go_loopw [] (fun wr => ∃ (left : Lit → Bool) (cnt : Nat), wr.ranges Try.prog 21 (plainElem Try.prog 2) C2 w2.heap.size (32 + (k + 1) * 256) D left cnt ∧ Hid (∀ kl, left kl = true → Maps.has D kl = true) ∧ Hid (∀ j, j < 27 → left (.int .i32 (keyN j)) = false → G j ≤ 1000000000000) ∧ Hid (Below w1.heap.size w1 wr)) (fun wr => wr.rangeLeft C2 w2.heap.size)
      case atStart =>
        refine ⟨_, _, hrg0, fun kl h => h, fun j hj h => ?_, hB3.out.grown hg0 hB3.out.size (fun j hj => by cases hj)⟩
        have := HAt.out j hj
        rw [atKey_of_not_has h] at this
        injection this with this
        injection this with _ this
        omega
      case round =>
        obtain ⟨left, cnt, hrg, hle, hdone, hB4⟩ := hrel
        go_wp2_with (first
          | (at_next; refine wpList_next_ranges_ii _ rfl _ rfl 21 2 .i32 .i64 lawK Try.underlying21 Try.underlying2 C2 w2.heap.size (32 + (k + 1) * 256) _ _ _ rfl hrg ?_ ?_)
          | go_in)
        · intro hc0 hl0
          have hok2 : okF G = true := okF_yes fun j hj => hdone.out j hj (hl0 _)
          have T2 : Hid (CtM wr C2 (32 + (k + 1) * 256) G) := ⟨D, hrg.owns, HAt.out, HHs.out⟩
          have Y2 : Hid (afN ss n st (k + 1) = some G) := hY.out hok2
          have S2 : Hid (CtB G) := hS.out hok2
          clear hok2 hl0 hc0 hdone hle hrg
          go_wp2_with fail
          go_roundw
          case rel => exact ⟨k + 1, C2, G, by omega, rfl, by go_num, T2, Y2, S2, hB4⟩
          case measure => simp [intOf]; omega
        · intro x cc w3 cnt3 hwx hwc hlx hat3 hrg3 hlt3 hg3 hs3 hen
          obtain ⟨j, hj, hxj⟩ := HHs.out x (hle.out _ hlx)
          have hcj : G j = cc := by
            have h1 := hat3 (.lit (.int .i64 0))
            rw [hxj, HAt.out j hj] at h1
            injection h1 with h1
            injection h1 with _ h1
          have B5 : Hid (Below w1.heap.size w1 w3) := hB4.out.grown hg3 hB4.out.size (fun j hj => by cases hj; exact hB3.out.size)
          have HCJ := Lib.hid hcj
          have HXJ := Lib.hid hxj
          have Hlx := Lib.hid hlx
          clear hcj hxj hlx hat3 hg3 hs3 hwx
          by_cases hbig : 1000000000000 < cc
          · have hno : Hid (afN ss n st Q = none) := hZ.out (okF_no hj (by rw [HCJ.out]; exact hbig))
            go_wp2_with fail
            go_ret2
            exact ⟨by rw [HX.out]; exact HB1.out.trans (B5.out.mono (by omega)), .inl ⟨hno.out, rfl⟩⟩
          · go_wp2_with fail
            go_roundw
            case rel =>
              refine ⟨_, _, hrg3, fun kl h => hle.out kl (by simp only [Bool.and_eq_true] at h; exact h.1), fun i hi h => ?_, B5⟩
              simp only [Bool.and_eq_false_iff] at h
              rcases h with h | h
              · exact hdone.out i hi h
              · have h2 : (Lit.int IntKind.i32 (keyN i)).sameKey (.int .i32 x) = true := by simpa using h
                have h3 : ((keyN i : Nat) : Int) = x := by simpa [Lit.sameKey] using h2
                have h4 : i = j := keyN_inj hi hj (by have := HXJ.out; omega)
                rw [h4, HCJ.out]; omega
            case measure => rw [hrg3.left_eq, hrg.left_eq]; exact hlt3
    · have hkq : k = Q := by omega
      have A2 : Hid (afN ss n st Q = some F) := by rw [← hkq]; exact hA.out
      have C3 : Hid (CtM wr C 20000 F) := hC.out.mono (by omega)
      have B3 : Hid (Below X w wr) := HB1.out.trans (hB.out.mono (by omega))
      clear hA hC hkq hB
      go_wp2_with fail
      go_ret2
      exact ⟨by rw [HX.out]; exact B3, .inr ⟨F, C, A2.out, rfl, C3⟩⟩

end Go.Proofs.Ytckhdbnoihieeaa
