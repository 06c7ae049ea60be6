/-
  What is proved here: Rewrite of both packages, as walks. Conditions: texts of at most 1048576 letters.
-/
import Derived.Test.YtedmigemplojlaaRoi
import Derived.Deep.RegionHeld3
namespace Go.Proofs.Ytedmigemplojlaa
open Go.RowKit

/-- within bounds -/
def winB (n lo hi : Int) : Bool := decide (lo ≤ n ∧ n ≤ hi)
theorem winB_yes {n lo hi : Int} (h : winB n lo hi = true) : lo ≤ n ∧ n ≤ hi := by simpa [winB] using h

theorem win_i (n lo hi : Int) (w : World) :
    Calls Try.prog 73 #[.int .i64 n, .int .i64 lo, .int .i64 hi] w fun e w' => e = .returned (.bool (winB n lo hi)) ∧ w = w' := by
  by_cases h1 : lo ≤ n
  · by_cases h2 : n ≤ hi
    · have N : Hid (winB n lo hi = true) := decide_eq_true ⟨h1, h2⟩
      go_enter Try.func73, Try.ntmps73
      go_wp2
      go_ret
      exact ⟨by rw [N.out]; rfl, rfl⟩
    · have N : Hid (winB n lo hi = false) := decide_eq_false fun h => h2 h.2
      go_enter Try.func73, Try.ntmps73
      go_wp2
      go_ret
      exact ⟨by rw [N.out]; rfl, rfl⟩
  · have N : Hid (winB n lo hi = false) := decide_eq_false fun h => h1 h.1
    go_enter Try.func73, Try.ntmps73
    go_wp2
    go_ret
    exact ⟨by rw [N.out]; rfl, rfl⟩

theorem win_s (n lo hi : Int) (w : World) :
    Calls Try.prog 72 #[.int .i64 n, .int .i64 lo, .int .i64 hi] w fun e w' => e = .returned (.bool (winB n lo hi)) ∧ w = w' := by
  by_cases h1 : lo ≤ n
  · by_cases h2 : n ≤ hi
    · have N : Hid (winB n lo hi = true) := decide_eq_true ⟨h1, h2⟩
      go_enter Try.func72, Try.ntmps72
      go_wp2
      go_ret
      exact ⟨by rw [N.out]; rfl, rfl⟩
    · have N : Hid (winB n lo hi = false) := decide_eq_false fun h => h2 h.2
      go_enter Try.func72, Try.ntmps72
      go_wp2
      go_ret
      exact ⟨by rw [N.out]; rfl, rfl⟩
  · have N : Hid (winB n lo hi = false) := decide_eq_false fun h => h1 h.1
    go_enter Try.func72, Try.ntmps72
    go_wp2
    go_ret
    exact ⟨by rw [N.out]; rfl, rfl⟩

/-- what the start becomes -/
def rwN (ss : List ByteArray) (n : Nat) (st : ByteArray) : Nat → Option ByteArray
  | 0 => some st
  | k + 1 => (rwN ss n st k).bind fun t => if onceB ss n t = true then some (onceT ss n t) else none
theorem rwN_none {ss : List ByteArray} {n : Nat} {st : ByteArray} {k : Nat} (h : rwN ss n st k = none) : ∀ m, k ≤ m → rwN ss n st m = none := by
  intro m hm
  obtain ⟨d, rfl⟩ : ∃ d, m = k + d := ⟨m - k, by omega⟩
  clear hm
  induction d with
  | zero => exact h
  | succ d ih =>
    show rwN ss n st (k + d + 1) = none
    unfold rwN
    rw [ih]; rfl
theorem rwN_yes {ss : List ByteArray} {n : Nat} {st t : ByteArray} {k : Nat} (h : rwN ss n st k = some t) (ho : onceB ss n t = true) : rwN ss n st (k + 1) = some (onceT ss n t) := by
  unfold rwN; rw [h]; show (if onceB ss n t = true then _ else _) = _; rw [if_pos ho]
theorem rwN_no {ss : List ByteArray} {n : Nat} {st t : ByteArray} {k : Nat} (h : rwN ss n st k = some t) (ho : onceB ss n t = false) : rwN ss n st (k + 1) = none := by
  unfold rwN; rw [h]; show (if onceB ss n t = true then _ else _) = _; rw [if_neg (by rw [ho]; exact Bool.false_ne_true)]

/-- Rewrite: whether, and what -/
def reB (st : ByteArray) (n : Nat) (ss : List ByteArray) (q : Int) : Bool := (validB st n ss && winB q 0 16) && (rwN ss n st q.toNat).isSome
def reT (st : ByteArray) (n : Nat) (ss : List ByteArray) (q : Int) : ByteArray := if (validB st n ss && winB q 0 16) = true then (rwN ss n st q.toNat).getD ⟨#[]⟩ else ⟨#[]⟩
theorem re_no {st : ByteArray} {n : Nat} {ss : List ByteArray} {q : Int} (h : (validB st n ss && winB q 0 16) = false) : reB st n ss q = false ∧ reT st n ss q = ⟨#[]⟩ := by
  unfold reB reT; rw [h]; exact ⟨rfl, rfl⟩
theorem re_none {st : ByteArray} {n : Nat} {ss : List ByteArray} {q : Int} (h : rwN ss n st q.toNat = none) : reB st n ss q = false ∧ reT st n ss q = ⟨#[]⟩ := by
  unfold reB reT; rw [h]
  exact ⟨Bool.and_false _, by split <;> rfl⟩
theorem re_some {st t : ByteArray} {n : Nat} {ss : List ByteArray} {q : Int} (h1 : validB st n ss = true) (h2 : winB q 0 16 = true) (h : rwN ss n st q.toNat = some t) : reB st n ss q = true ∧ reT st n ss q = t := by
  unfold reB reT; rw [h1, h2, h]; exact ⟨rfl, rfl⟩

/-- words stay words -/
theorem wordB_mem {t : ByteArray} {n : Nat} (h : wordB t n = true) : ∀ b ∈ t.data.toList, wLet b.toNat = true := by
  unfold wordB at h
  simp only [Bool.and_eq_true, decide_eq_true_eq] at h
  intro b hb
  obtain ⟨i, hi, rfl⟩ := List.getElem_of_mem hb
  exact h.2 ⟨i, by simpa using hi⟩
theorem wordB_mk {t : ByteArray} {n : Nat} (h1 : t.size ≤ n) (h2 : ∀ b ∈ t.data.toList, wLet b.toNat = true) : wordB t n = true := by
  unfold wordB
  rw [decide_eq_true h1, decide_eq_true (p := ∀ i : Fin t.size, wLet (t[i.val]'i.isLt).toNat = true) (fun i => h2 _ (by
    have hi : i.val < t.data.toList.length := by simp
    have : t[i.val]'i.isLt = t.data.toList[i.val]'hi := rfl
    rw [this]
    exact List.getElem_mem hi))]
  rfl
theorem okAt_text {ss : List ByteArray} {k : Nat} (h : okAt ss k = true) : wordB (txt ss k) 32 = true := by
  unfold okAt at h
  rw [Bool.and_eq_true] at h
  have h1 := h.1
  have hs := ruleB_one h1
  unfold ruleB at h1
  rw [dif_pos hs, Bool.and_eq_true] at h1
  exact h1.2
theorem txF_word {ss : List ByteArray} {n : Nat} {c : UInt8} (h : ∀ k, k < n → okAt ss k = true) (hc : wLet c.toNat = true) : ∀ f k, f + k ≤ n → ∀ b ∈ (txF ss c f k).data.toList, wLet b.toNat = true
  | 0, k, _ => by
    rw [txF]
    intro b hb
    simp [key1] at hb
    rw [hb]; exact hc
  | f + 1, k, hk => by
    rw [txF]
    split
    · exact wordB_mem (okAt_text (h k (by omega)))
    · exact txF_word h hc f (k + 1) (by omega)
theorem once_word {ss : List ByteArray} {n : Nat} {t : ByteArray} (h : ∀ k, k < n → okAt ss k = true) (ht : wordB t 4000 = true) (ho : onceB ss n t = true) : wordB (onceT ss n t) 4000 = true := by
  have hl : (rwTo ss n t t.size).length ≤ 4000 := by simpa [onceB] using ho
  rw [(once_yes hl).2]
  refine wordB_mk (by show (rwTo ss n t t.size).toArray.size ≤ 4000; simpa using hl) ?_
  intro b hb
  have hb' : b ∈ rwTo ss n t t.size := by simpa using hb
  unfold rwTo at hb'
  rw [List.mem_flatMap] at hb'
  obtain ⟨c, hc, hbc⟩ := hb'
  exact txF_word h (wordB_mem ht c (List.mem_of_mem_take hc)) n 0 (by omega) b hbc
theorem wordB_more {t : ByteArray} {n m : Nat} (h : wordB t n = true) (hm : n ≤ m) : wordB t m = true := wordB_mk (Nat.le_trans (wordB_size h) hm) (wordB_mem h)
theorem validB_word {st : ByteArray} {n : Nat} {ss : List ByteArray} (h : validB st n ss = true) : wordB st 32 = true := by
  unfold validB at h
  rw [Bool.and_eq_true] at h
  exact h.1

theorem specRe (n c : Nat) (A : Option Addr) (st : ByteArray) (ss : List ByteArray) (q : Int) (w : World) (hr : RowS w w.heap.size A ss) (hn : ss.length = 2 * n) (hN : n ≤ 1048576) (hst : st.size ≤ 9223372036854775807) (hS : ∀ j, (atS ss j).size ≤ 1048576) :
    Calls Try.prog 38 #[.agg #[.string st, .slice A n c], .int .i64 q] w fun e w' => e = .returned (.tuple #[.string (reT st n ss q), .bool (reB st n ss q)]) ∧ Hid (Below w.heap.size w w') := by
  have B0 : Below w.heap.size w (w.alloc (.cells #[.string st, .slice A n c] 30)) := (Below.refl _ _).alloc (Nat.le_refl _) _
  have V0 := varG_new w st A n c 30
  have HC := Lib.hid (specIs w.heap.size n c A st ss _ V0 (hr.carry B0) hn hN hst (fun j _ => Nat.le_trans (hS j) (by decide)))
  have HB := Lib.hid B0
  have HV := Lib.hid V0
  have HR := Lib.hid hr
  have HL := Lib.hid hn
  have HS := Lib.hid hS
  clear hr hn hS B0 V0
  cases h1 : validB st n ss
  · have N := re_no (q := q) (by rw [h1]; rfl : (validB st n ss && winB q 0 16) = false)
    have N1 := Lib.hid N.1
    have N2 := Lib.hid N.2
    rw [h1] at HC
    clear N h1
    go_enter Try.func38, Try.ntmps38
    go_wp2_with fail
    refine HC.out.mono ?_
    rintro e w1 ⟨rfl, hb⟩
    have HE : Hid (Below w.heap.size w w1) := HB.out.trans (hb.out.mono HB.out.size)
    clear hb HC
    go_wp2_with fail
    go_ret2
    exact ⟨by rw [N1.out, N2.out]; rfl, HE⟩
  · rw [h1] at HC
    have HW := fun W => win_s q 0 16 W
    cases h2 : winB q 0 16
    · have N := re_no (q := q) (by rw [h1, h2]; rfl : (validB st n ss && winB q 0 16) = false)
      have N1 := Lib.hid N.1
      have N2 := Lib.hid N.2
      rw [h2] at HW
      have HW2 := Lib.hid HW
      clear N h1 h2 HW
      go_enter Try.func38, Try.ntmps38
      go_wp2_with fail
      refine HC.out.mono ?_
      rintro e w1 ⟨rfl, hb⟩
      have HE : Hid (Below w.heap.size w w1) := HB.out.trans (hb.out.mono HB.out.size)
      clear hb HC
      go_wp2_with (go_at_call 72; refine (HW2.out _).mono ?_; rintro e w' ⟨rfl, rfl⟩)
      go_ret2
      exact ⟨by rw [N1.out, N2.out]; rfl, HE⟩
    · obtain ⟨m, rfl⟩ : ∃ m : Nat, q = m := ⟨q.toNat, by have := winB_yes h2; omega⟩
      have hm : m ≤ 16 := by have := winB_yes h2; omega
      have HSm := Lib.hid (fun t (h : rwN ss n st m = some t) => re_some h1 h2 (by rw [Int.toNat_natCast]; exact h))
      have HNo := Lib.hid (fun (h : rwN ss n st m = none) => re_none (st := st) (n := n) (ss := ss) (q := (m : Int)) (by rw [Int.toNat_natCast]; exact h))
      have HWd := Lib.hid (wordB_more (validB_word h1) (by decide : 32 ≤ 4000))
      have HOK := Lib.hid (validB_all h1)
      rw [h2] at HW
      have HW2 := Lib.hid HW
      clear h1 h2 HW
      go_enter Try.func38, Try.ntmps38
      go_wp2_with fail
      refine HC.out.mono ?_
      rintro e w1 ⟨rfl, hb⟩
      have HE : Hid (Below w.heap.size w w1) := HB.out.trans (hb.out.mono HB.out.size)
      have V1 := HV.out.below hb.out
      have c0 := V1.c0
      have H1 := Lib.hid (fun t ht => specOnce w.heap.size n c A st ss t w1 V1 ((HR.out.carry HB.out).carry hb.out) HL.out hN (fun k => HS.out _) ht)
      clear hb HC V1
      go_wp2_with (go_at_call 72; refine (HW2.out _).mono ?_; rintro e w' ⟨rfl, rfl⟩)
      clear c0 HW2
      go_loop [6, 7] (fun o i => ∃ (k : Nat) (t : ByteArray), k ≤ m ∧ i = .int .i64 k ∧ o = .string t ∧ Hid (rwN ss n st k = some t) ∧ Hid (wordB t 4000 = true)) (fun _ i => m - (intOf i).toNat)
      case atStart => exact ⟨0, st, Nat.zero_le _, rfl, rfl, rfl, HWd⟩
      case round =>
        obtain ⟨k, t, hk, rfl, rfl, hT, hW⟩ := hrel
        by_cases hlt : k < m
        · have hO := H1.out t (by have := wordB_size hW.out; omega)
          cases ho : onceB ss n t
          · have N := HNo.out (rwN_none (rwN_no hT.out ho) m (by omega))
            have N1 := Lib.hid N.1
            have N2 := Lib.hid N.2
            rw [ho] at hO
            have HO := Lib.hid hO
            clear N ho hO
            go_wp2_with (go_at_call 69; refine HO.out.mono ?_; rintro e w' ⟨rfl, rfl⟩)
            go_ret2
            exact ⟨by rw [N1.out, N2.out]; rfl, HE⟩
          · have hT2 := Lib.hid (rwN_yes hT.out ho)
            have hW2 := Lib.hid (once_word HOK.out hW.out ho)
            rw [ho] at hO
            have HO := Lib.hid hO
            clear ho hO
            go_wp2_with (go_at_call 69; refine HO.out.mono ?_; rintro e w' ⟨rfl, rfl⟩)
            go_round
            case rel => exact ⟨k + 1, _, by omega, by go_num, rfl, hT2, hW2⟩
            case measure => simp [intOf]; omega
        · have hkm : k = m := by omega
          have N := HSm.out t (by rw [← hkm]; exact hT.out)
          have N1 := Lib.hid N.1
          have N2 := Lib.hid N.2
          clear N hkm
          go_wp2_with fail
          go_ret2
          exact ⟨by rw [N1.out, N2.out]; rfl, HE⟩

theorem keepW {W wa wb : World} {x : Nat} {st : ByteArray} {A : Option Addr} {n c : Nat} (hb : Below wa.heap.size wa wb) (h0 : wa.cell? ⟨x, 0, none⟩ = some (.string st)) (h1 : wa.cell? ⟨x, 1, none⟩ = some (.slice A n c)) (hB : Hid (Below W.heap.size W wa)) (hx : x < W.heap.size) :
    wb.cell? ⟨x, 0, none⟩ = some (.string st) ∧ wb.cell? ⟨x, 1, none⟩ = some (.slice A n c) := by
  have := Nat.lt_of_lt_of_le hx hB.out.size
  exact ⟨by rw [hb.cell (p := ⟨x, 0, none⟩) this]; exact h0, by rw [hb.cell (p := ⟨x, 1, none⟩) this]; exact h1⟩

set_option maxHeartbeats 8000000 in
theorem implRe (n c : Nat) (A : Option Addr) (st : ByteArray) (ss : List ByteArray) (q : Int) (w : World) (hr : RowS w w.heap.size A ss) (hn : ss.length = 2 * n) (hN : n ≤ 1048576) (hS : ∀ j, (atS ss j).size ≤ 1048576) :
    Calls Try.prog 39 #[.agg #[.string st, .slice A n c], .int .i64 q] w fun e w' => e = .returned (.tuple #[.string (reT st n ss q), .bool (reB st n ss q)]) ∧ Hid (Below w.heap.size w w') := by
  have B0 : Below w.heap.size w (w.alloc (.cells #[.string st, .slice A n c] 30)) := (Below.refl _ _).alloc (Nat.le_refl _) _
  have V0 := varG_new w st A n c 30
  have HC := Lib.hid (implValid n c A st ss _ (hr.carry B0) hn hN)
  have HB := Lib.hid B0
  have HV := Lib.hid V0
  have HR := Lib.hid hr
  have HL := Lib.hid hn
  have HS := Lib.hid hS
  clear hr hn hS B0 V0
  cases h1 : validB st n ss
  · have N := re_no (q := q) (by rw [h1]; rfl : (validB st n ss && winB q 0 16) = false)
    have N1 := Lib.hid N.1
    have N2 := Lib.hid N.2
    rw [h1] at HC
    clear N h1
    go_enter Try.func39, Try.ntmps39
    go_wp2_with fail
    refine HC.out.mono ?_
    rintro e w1 ⟨rfl, hb⟩
    have HE : Hid (Below w.heap.size w w1) := HB.out.trans (hb.out.mono HB.out.size)
    clear hb HC
    go_wp2_with fail
    go_ret2
    exact ⟨by rw [N1.out, N2.out]; rfl, HE⟩
  · rw [h1] at HC
    have HW := fun W => win_i q 0 16 W
    cases h2 : winB q 0 16
    · have N := re_no (q := q) (by rw [h1, h2]; rfl : (validB st n ss && winB q 0 16) = false)
      have N1 := Lib.hid N.1
      have N2 := Lib.hid N.2
      rw [h2] at HW
      have HW2 := Lib.hid HW
      clear N h1 h2 HW
      go_enter Try.func39, Try.ntmps39
      go_wp2_with fail
      refine HC.out.mono ?_
      rintro e w1 ⟨rfl, hb⟩
      have HE : Hid (Below w.heap.size w w1) := HB.out.trans (hb.out.mono HB.out.size)
      clear hb HC
      go_wp2_with (go_at_call 73; refine (HW2.out _).mono ?_; rintro e w' ⟨rfl, rfl⟩)
      go_ret2
      exact ⟨by rw [N1.out, N2.out]; rfl, HE⟩
    · obtain ⟨m, rfl⟩ : ∃ m : Nat, q = m := ⟨q.toNat, by have := winB_yes h2; omega⟩
      have hm : m ≤ 16 := by have := winB_yes h2; omega
      have HSm := Lib.hid (fun t (h : rwN ss n st m = some t) => re_some h1 h2 (by rw [Int.toNat_natCast]; exact h))
      have HNo := Lib.hid (fun (h : rwN ss n st m = none) => re_none (st := st) (n := n) (ss := ss) (q := (m : Int)) (by rw [Int.toNat_natCast]; exact h))
      have HWd := Lib.hid (wordB_more (validB_word h1) (by decide : 32 ≤ 4000))
      have HOK := Lib.hid (validB_all h1)
      rw [h2] at HW
      have HW2 := Lib.hid HW
      clear h1 h2 HW
      go_enter Try.func39, Try.ntmps39
      go_wp2_with fail
      refine HC.out.mono ?_
      rintro e w1 ⟨rfl, hb⟩
      have HE : Hid (Below w.heap.size w w1) := HB.out.trans (hb.out.mono HB.out.size)
      have V1 := HV.out.below hb.out
      have hx := V1.lt
      have c0 := V1.c0
      have c1 := V1.c1
      have Q1 : Hid (RowS w1 w1.heap.size A ss) := HR.out.carry HE.out
      have K0 : Hid (Below w1.heap.size w1 w1.drew) := (Below.refl _ _).drew
      clear hb HC V1 HV HB
      go_wp2_with (go_at_call 73; refine (HW2.out _).mono ?_; rintro e w' ⟨rfl, rfl⟩)
      go_region_held3 (fun w' => w'.cell? ⟨w.heap.size, 0, none⟩ = some (.string st) ∧ w'.cell? ⟨w.heap.size, 1, none⟩ = some (.slice A n c) ∧ Hid (Below w1.heap.size w1 w')) (first | (exact ⟨by assumption, by assumption, by assumption⟩) | go_keep)
        ((go_at_call 71; refine (textsOf_is n c A st ss _ (Q1.out.carry ((‹Hid (Below w1.heap.size w1 _)›).out)) HL.out hN (asc_of HOK.out).1 (fun k => HS.out _)).mono ?_; rintro e w3 ⟨B, rfl, hB3, HM, hb3⟩; have K3 := Lib.hid ((‹Hid (Below w1.heap.size w1 _)›).out.trans (hb3.out.mono (‹Hid (Below w1.heap.size w1 _)›).out.size)); obtain ⟨e0, e1⟩ := keepW (x := w.heap.size) hb3.out (by assumption) (by assumption) (by assumption) hx))
      have HE3 : Hid (Below w.heap.size w w3) := HE.out.trans ((‹Hid (Below w1.heap.size w1 w3)›).out.mono HE.out.size)
      clear c0 c1 hx K0 Q1 HW2 hB3 hb3 HR
      go_wp2_with fail
      go_loopw [7, 23] (fun o i wr => ∃ (k : Nat) (t : ByteArray), k ≤ m ∧ i = .int .i64 k ∧ o = .string t ∧ Hid (rwN ss n st k = some t) ∧ Hid (wordB t 4000 = true) ∧ Hid (TxM wr B n ss) ∧ Hid (Below w.heap.size w wr)) (fun _ i _ => m - (intOf i).toNat)
      case atStart => exact ⟨0, st, Nat.zero_le _, rfl, rfl, rfl, HWd, HM, HE3⟩
      case round =>
        obtain ⟨k, t, hk, rfl, rfl, hT, hW, hM, hE⟩ := hrel
        by_cases hlt : k < m
        · have hO := rewritten_is B n ss t wr hM.out (asc_of HOK.out) hW.out (fun k => HS.out _)
          cases ho : onceB ss n t
          · have N := HNo.out (rwN_none (rwN_no hT.out ho) m (by omega))
            have N1 := Lib.hid N.1
            have N2 := Lib.hid N.2
            rw [ho] at hO
            have HO := Lib.hid hO
            clear N ho hO
            go_wp2_with fail
            refine HO.out.mono ?_
            rintro e w4 ⟨rfl, hb⟩
            have HE4 : Hid (Below w.heap.size w w4) := hE.out.trans (hb.out.mono hE.out.size)
            clear hb HO hM hE
            go_wp2_with fail
            go_ret2
            exact ⟨by rw [N1.out, N2.out]; rfl, HE4⟩
          · have hT2 := Lib.hid (rwN_yes hT.out ho)
            have hW2 := Lib.hid (once_word HOK.out hW.out ho)
            rw [ho] at hO
            have HO := Lib.hid hO
            clear ho hO
            go_wp2_with fail
            refine HO.out.mono ?_
            rintro e w4 ⟨rfl, hb⟩
            have HE4 : Hid (Below w.heap.size w w4) := hE.out.trans (hb.out.mono hE.out.size)
            have HM4 : Hid (TxM w4 B n ss) := ownsMap_below hM.out hb.out
            clear hb HO hM hE
            go_wp2_with fail
            go_roundw
            case rel => exact ⟨k + 1, _, by omega, by go_num, rfl, hT2, hW2, HM4, HE4⟩
            case measure => simp [intOf]; omega
        · have hkm : k = m := by omega
          have N := HSm.out t (by rw [← hkm]; exact hT.out)
          have N1 := Lib.hid N.1
          have N2 := Lib.hid N.2
          clear N hkm
          go_wp2_with fail
          go_ret2
          exact ⟨by rw [N1.out, N2.out]; rfl, hE⟩

end Go.Proofs.Ytedmigemplojlaa
