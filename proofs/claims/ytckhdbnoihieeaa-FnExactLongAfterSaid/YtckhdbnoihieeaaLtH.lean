/-
  What is proved here: how many letters the start becomes, by the model and by the program, as walks. Conditions: the grammar is one that a machine can hold.
-/
import Derived.Test.YtckhdbnoihieeaaLtG
import Derived.Test.YtckhdbnoihieeaaGri
namespace Go.Proofs.Ytckhdbnoihieeaa
open Go.RowKit Go.Maps

theorem tx32 {ss : List ByteArray} {n : Nat} {c : UInt8} (h : ∀ k, k < n → okAt ss k = true) : ∀ f k, f + k ≤ n → (txF ss c f k).size ≤ 32
  | 0, k, _ => by rw [txF]; show 1 ≤ 32; omega
  | f + 1, k, hk => by
    rw [txF]
    split
    · exact wordB_size (okAt_text (h k (by omega)))
    · exact tx32 h f (k + 1) (by omega)
theorem validB_few {st : ByteArray} {n : Nat} {ss : List ByteArray} (h : validB st n ss = true) : n ≤ 8 := by
  unfold validB at h
  simp only [Bool.and_eq_true, decide_eq_true_eq] at h
  exact h.2.1

/-- what comes of it -/
def ltO (st : ByteArray) (n : Nat) (ss : List ByteArray) (q : Int) : Option (Nat → Int) := if (validB st n ss && winB q 0 64) = true then afN ss n st q.toNat else none
def ltBo (st : ByteArray) (n : Nat) (ss : List ByteArray) (q : Int) : Bool := (ltO st n ss q).isSome
def ltLn (st : ByteArray) (n : Nat) (ss : List ByteArray) (q : Int) : Nat := if (ltO st n ss q).isSome = true then 27 else 0
def ltFn (st : ByteArray) (n : Nat) (ss : List ByteArray) (q : Int) : Nat → Int := (ltO st n ss q).getD fun _ => 0
theorem ltLn_le (st : ByteArray) (n : Nat) (ss : List ByteArray) (q : Int) : ltLn st n ss q ≤ 27 := by unfold ltLn; split <;> omega
/-- a list and whether there is one -/
def RowP (b : Bool) (m : Nat) (f : Nat → Int) (w : World) (e : Ending) (w' : World) : Prop :=
  ∃ A c, e = .returned (.tuple #[.slice A m c, .bool b]) ∧ Hid (RowW w' w.heap.size w'.heap.size A m (iv f)) ∧ Hid (Below w.heap.size w w')
def LtQ (st : ByteArray) (n : Nat) (ss : List ByteArray) (q : Int) (w : World) (e : Ending) (w' : World) : Prop := RowP (ltBo st n ss q) (ltLn st n ss q) (ltFn st n ss q) w e w'
theorem ltq_no {st : ByteArray} {n : Nat} {ss : List ByteArray} {q : Int} {w w' : World} (h : ltO st n ss q = none) (hb : Hid (Below w.heap.size w w')) : LtQ st n ss q w (.returned (.tuple #[.slice none 0 0, .bool false])) w' := by
  unfold LtQ ltBo ltLn ltFn
  rw [h]
  exact ⟨none, 0, rfl, ⟨Nat.le_refl _, (fun a ha => by cases ha), fun h => absurd h (Nat.lt_irrefl _)⟩, hb⟩
theorem ltq_yes {st : ByteArray} {n c : Nat} {ss : List ByteArray} {q : Int} {f : Nat → Int} {A : Option Addr} {w w' : World} (h : ltO st n ss q = some f) (hr : Hid (RowW w' w.heap.size w'.heap.size A 27 (iv f))) (hb : Hid (Below w.heap.size w w')) : LtQ st n ss q w (.returned (.tuple #[.slice A 27 c, .bool true])) w' := by
  unfold LtQ ltBo ltLn ltFn
  rw [h]
  exact ⟨A, c, rfl, hr, hb⟩
theorem ltO_no {st : ByteArray} {n : Nat} {ss : List ByteArray} {q : Int} (h : (validB st n ss && winB q 0 64) = false) : ltO st n ss q = none := by unfold ltO; rw [h]; rfl
theorem ltO_is {st : ByteArray} {n m : Nat} {ss : List ByteArray} (h1 : validB st n ss = true) (h2 : winB (m : Int) 0 64 = true) : ltO st n ss m = afN ss n st m := by unfold ltO; rw [h1, h2, Int.toNat_natCast]; rfl
theorem OneI.rowW {w : World} {G n lo : Nat} {f : Nat → Int} (h : OneI w G n f) (hl : lo ≤ G) : RowW w lo w.heap.size (some ⟨G, 0, none⟩) n (iv f) :=
  ⟨Nat.le_refl _, (fun a ha => by cases ha; exact ⟨hl, h.size⟩), fun _ => ⟨G, 0, rfl, hl, h.size, (fun j hj => by rw [Nat.zero_add]; exact h.cell j hj), fun j _ => h.free _⟩⟩

theorem specLtr (n c : Nat) (A : Option Addr) (st : ByteArray) (ss : List ByteArray) (q : Int) (w : World) (hr : RowU w w.heap.size A ss) (hn : ss.length = 2 * n) (hN : n ≤ 1048576) (hst : st.size ≤ 9223372036854775807) (hS : ∀ j, (atS ss j).size ≤ 1048576) :
    Calls Try.prog 30 #[.agg #[.string st, .slice A n c], .int .i64 q] w (LtQ st n ss q w) := by
  have B0 : Below w.heap.size w (w.alloc (.cells #[.string st, .slice A n c] 56)) := (Below.refl _ _).alloc (Nat.le_refl _) _
  have V0 := varG_new w st A n c 56
  have HC := Lib.hid (specIs w.heap.size n c A st ss _ V0 (hr.carry B0) hn hN hst (fun j _ => Nat.le_trans (hS j) (by decide)))
  have HB := Lib.hid B0
  have HV := Lib.hid V0
  have HR := Lib.hid hr
  have HL := Lib.hid hn
  clear hr hn hS B0 V0
  cases h1 : validB st n ss
  · have N := Lib.hid (ltO_no (q := q) (by rw [h1]; rfl : (validB st n ss && winB q 0 64) = false))
    rw [h1] at HC
    clear h1
    go_enter Try.func30, Try.ntmps30
    go_wp2_with fail
    refine HC.out.mono ?_
    rintro e w1 ⟨rfl, hb⟩
    have HE : Hid (Below w.heap.size w w1) := HB.out.trans (hb.out.mono HB.out.size)
    clear hb HC
    go_wp2_with fail
    go_ret2
    exact ltq_no N.out HE
  · rw [h1] at HC
    have HW := fun W => win_s q 0 64 W
    cases h2 : winB q 0 64
    · have N := Lib.hid (ltO_no (q := q) (by rw [h1, h2]; rfl : (validB st n ss && winB q 0 64) = false))
      rw [h2] at HW
      have HW2 := Lib.hid HW
      clear h1 h2 HW
      go_enter Try.func30, Try.ntmps30
      go_wp2_with fail
      refine HC.out.mono ?_
      rintro e w1 ⟨rfl, hb⟩
      have HE : Hid (Below w.heap.size w w1) := HB.out.trans (hb.out.mono HB.out.size)
      clear hb HC
      go_wp2_with (go_at_call 58; refine (HW2.out _).mono ?_; rintro e w' ⟨rfl, rfl⟩)
      go_ret2
      exact ltq_no N.out HE
    · obtain ⟨m, rfl⟩ : ∃ m : Nat, q = m := ⟨q.toNat, by have := winB_yes h2; omega⟩
      have hm : m ≤ 64 := by have := winB_yes h2; omega
      have N := Lib.hid (ltO_is h1 h2)
      have HOK := Lib.hid (validB_all h1)
      have h32 := Lib.hid (wordB_size (validB_word h1))
      rw [h2] at HW
      have HW2 := Lib.hid HW
      clear h1 h2 HW
      go_enter Try.func30, Try.ntmps30
      go_wp2_with fail
      refine HC.out.mono ?_
      rintro e w1 ⟨rfl, hb⟩
      have HE : Hid (Below w.heap.size w w1) := HB.out.trans (hb.out.mono HB.out.size)
      have V1 := HV.out.below hb.out
      have H1 := Lib.hid (specAfter w.heap.size n c m A st ss w1 V1 ((HR.out.carry HB.out).carry hb.out) HL.out hN (fun k => tx32 HOK.out n 0 (Nat.le_refl _)) h32.out hm)
      clear hb HC V1
      go_wp2_with (go_at_call 58; refine (HW2.out _).mono ?_; rintro e w' ⟨rfl, rfl⟩)
      refine H1.out.mono ?_
      intro e w2 hP
      cases ho : afN ss n st m with
      | none =>
        rw [ho] at hP N
        obtain ⟨rfl, hb2⟩ := hP
        have HE2 : Hid (Below w.heap.size w w2) := HE.out.trans (hb2.out.mono HE.out.size)
        clear hb2 H1 ho
        go_wp2_with fail
        go_ret2
        exact ltq_no N.out HE2
      | some f =>
        rw [ho] at hP N
        obtain ⟨g, rfl, hg, hO, hb2⟩ := hP
        have HE2 : Hid (Below w.heap.size w w2) := HE.out.trans (hb2.out.mono HE.out.size)
        have HO : Hid (RowW w2 w.heap.size w2.heap.size (some ⟨g, 0, none⟩) 27 (iv f)) := hO.out.rowW (Nat.le_trans HE.out.size hg)
        clear hb2 H1 ho hO hg
        go_wp2_with fail
        go_ret2
        exact ltq_yes N.out HO HE2

/-- the counts of the first letters -/
def cntL (F : Nat → Int) (k : Nat) : List Int := (List.range k).map F
theorem cntL_len (F : Nat → Int) (k : Nat) : (cntL F k).length = k := by simp [cntL]
theorem cntL_up (F : Nat → Int) (k : Nat) : cntL F (k + 1) = cntL F k ++ [F k] := by simp [cntL, List.range_succ]
theorem cntL_at (F : Nat → Int) {k j : Nat} (h : j < k) : atI (cntL F k) j = F j := by simp [cntL, atI, List.getD, h]

set_option maxHeartbeats 8000000 in
set_option maxRecDepth 1000000 in
theorem implLtr (n c : Nat) (A : Option Addr) (st : ByteArray) (ss : List ByteArray) (q : Int) (w : World) (hr : RowU w w.heap.size A ss) (hn : ss.length = 2 * n) (hN : n ≤ 1048576) :
    Calls Try.prog 32 #[.agg #[.string st, .slice A n c], .int .i64 q] w (LtQ st n ss q w) := by
  have B0 : Below w.heap.size w (w.alloc (.cells #[.string st, .slice A n c] 56)) := (Below.refl _ _).alloc (Nat.le_refl _) _
  have V0 := varG_new w st A n c 56
  have HC := Lib.hid (implValid n c A st ss _ (hr.carry B0) hn hN)
  have HB := Lib.hid B0
  have HV := Lib.hid V0
  have HR := Lib.hid hr
  have HL := Lib.hid hn
  clear hr hn B0 V0
  cases h1 : validB st n ss
  · have N := Lib.hid (ltO_no (q := q) (by rw [h1]; rfl : (validB st n ss && winB q 0 64) = false))
    rw [h1] at HC
    clear h1
    go_enter Try.func32, Try.ntmps32
    go_wp2_with fail
    refine HC.out.mono ?_
    rintro e w1 ⟨rfl, hb⟩
    have HE : Hid (Below w.heap.size w w1) := HB.out.trans (hb.out.mono HB.out.size)
    clear hb HC
    go_wp2_with fail
    go_ret2
    exact ltq_no N.out HE
  · rw [h1] at HC
    have HW := fun W => win_i q 0 64 W
    cases h2 : winB q 0 64
    · have N := Lib.hid (ltO_no (q := q) (by rw [h1, h2]; rfl : (validB st n ss && winB q 0 64) = false))
      rw [h2] at HW
      have HW2 := Lib.hid HW
      clear h1 h2 HW
      go_enter Try.func32, Try.ntmps32
      go_wp2_with fail
      refine HC.out.mono ?_
      rintro e w1 ⟨rfl, hb⟩
      have HE : Hid (Below w.heap.size w w1) := HB.out.trans (hb.out.mono HB.out.size)
      clear hb HC
      go_wp2_with (go_at_call 61; refine (HW2.out _).mono ?_; rintro e w' ⟨rfl, rfl⟩)
      go_ret2
      exact ltq_no N.out HE
    · obtain ⟨m, rfl⟩ : ∃ m : Nat, q = m := ⟨q.toNat, by have := winB_yes h2; omega⟩
      have hm : m ≤ 64 := by have := winB_yes h2; omega
      have N := Lib.hid (ltO_is h1 h2)
      have HOK := Lib.hid (validB_all h1)
      have HWd := Lib.hid (validB_word h1)
      have h8 := validB_few h1
      rw [h2] at HW
      have HW2 := Lib.hid HW
      clear h1 h2 HW
      go_enter Try.func32, Try.ntmps32
      go_wp2_with fail
      refine HC.out.mono ?_
      rintro e w1 ⟨rfl, hb⟩
      have HE : Hid (Below w.heap.size w w1) := HB.out.trans (hb.out.mono HB.out.size)
      have V1 := HV.out.below hb.out
      have c0 := V1.c0
      have c1 := V1.c1
      have H1 := Lib.hid (countsAfter_is A n c m st ss w1 (HR.out.carry HE.out) HL.out h8 HOK.out HWd.out hm)
      clear hb HC V1
      go_wp2_with (go_at_call 61; refine (HW2.out _).mono ?_; rintro e w' ⟨rfl, rfl⟩)
      refine H1.out.mono ?_
      rintro e w2 ⟨hb2, hP⟩
      have HE2 : Hid (Below w.heap.size w w2) := HE.out.trans (hb2.out.mono HE.out.size)
      clear hb2 H1 c0 c1 HE
      rcases hP with ⟨ho, rfl⟩ | ⟨F, C, ho, rfl, hC⟩
      · rw [ho] at N
        clear ho
        go_wp2_with fail
        go_ret2
        exact ltq_no N.out HE2
      · rw [ho] at N
        clear ho
        go_wp2_with fail
        go_loopw [8, 9] (fun sl lt wr => ∃ (k : Nat) (A' : Option Addr) (c' : Nat), k ≤ 26 ∧ sl = .slice A' (cntL F k).length c' ∧ lt = .int .i32 (65 + (k : Int)) ∧ Hid (GroI wr w2.heap.size (cntL F k) A' c') ∧ Hid (Below w2.heap.size w2 wr)) (fun _ lt _ => 91 - (intOf lt).toNat)
        case atStart => exact ⟨0, none, 0, Nat.zero_le _, rfl, rfl, GroI.nil _ _, Below.refl _ _⟩
        case round =>
          obtain ⟨k, A', c', hk, rfl, rfl, hO, hB⟩ := hrel
          have hsz : Hid (w2.heap.size ≤ wr.heap.size) := hB.out.size
          have hln := cntL_len F k
          have HLn : Hid ((cntL F k).length ≤ 1048576) := by show _ ≤ _; omega
          clear hln
          by_cases hlt : k < 26
          · have hlk := (hC.out.below hB.out).look (j := k) (by omega)
            have hk1 : ((keyN k : Nat) : Int) = 65 + (k : Int) := by unfold keyN; rw [if_pos hlt]; omega
            rw [hk1] at hlk
            clear hk1
            go_wp2_with (at_builtin; refine wpGroI rfl _ _ rfl (w0 := wr) hO.out rfl rfl rfl HLn.out hsz.out ?_; intro g2 c2 w4 O4 B4; have HO4 := Lib.hid O4; have HB4 := Lib.hid (hB.out.trans B4); clear O4 B4)
            go_roundw
            case rel => exact ⟨k + 1, _, _, by omega, by rw [cntL_up, List.length_append]; rfl, by go_num, by rw [cntL_up]; exact HO4, HB4⟩
            case measure => simp [intOf]; omega
          · have hkk : k = 26 := by omega
            subst hkk
            have hlk := (hC.out.below hB.out).look (j := 26) (by omega)
            have hk1 : ((keyN 26 : Nat) : Int) = 43 := rfl
            rw [hk1] at hlk
            clear hk1 hk hlt
            go_wp2_with (at_builtin; refine wpGroI rfl _ _ rfl (w0 := wr) hO.out rfl rfl rfl HLn.out hsz.out ?_; intro g2 c2 w4 O4 B4; have HO4 := Lib.hid O4; have HB4 := Lib.hid (hB.out.trans B4); clear O4 B4)
            go_ret2
            have e27 : (cntL F 26).length + 1 = 27 := by rw [cntL_len]
            have R := HO4.out.rowW
            rw [← cntL_up, cntL_len] at R
            rw [e27]
            exact ltq_yes N.out ((R.lower HE2.out.size).ext fun j hj => by unfold iv; rw [cntL_at F hj]) (HE2.out.trans (HB4.out.mono HE2.out.size))

end Go.Proofs.Ytckhdbnoihieeaa
