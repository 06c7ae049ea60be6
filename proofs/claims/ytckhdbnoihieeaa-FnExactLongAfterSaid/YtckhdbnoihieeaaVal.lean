/-
  What is proved here: whether rules and grammars are valid, of both packages, as walks. Conditions: at most 1048576 rules.
-/
import Derived.Test.YtckhdbnoihieeaaSmg
import Derived.Test.YtckhdbnoihieeaaWrd
namespace Go.Proofs.Ytckhdbnoihieeaa
open Go.RowKit

/-- a rule -/
def ruleB (a b : ByteArray) : Bool := if h : a.size = 1 then capB (a[0]'(by omega)).toNat && wordB b 32 else false
theorem ruleB_size {a b : ByteArray} (h : a.size ≠ 1) : ruleB a b = false := by unfold ruleB; rw [dif_neg h]
theorem ruleB_cap {a b : ByteArray} (h : a.size = 1) (hc : capB (a[0]'(by omega)).toNat = false) : ruleB a b = false := by unfold ruleB; rw [dif_pos h, hc]; rfl
theorem ruleB_word {a b : ByteArray} (h : a.size = 1) (hc : capB (a[0]'(by omega)).toNat = true) : ruleB a b = wordB b 32 := by unfold ruleB; rw [dif_pos h, hc]; rfl
theorem ruleB_one {a b : ByteArray} (h : ruleB a b = true) : a.size = 1 := by
  by_cases g : a.size = 1
  · exact g
  · rw [ruleB_size g] at h; exact Bool.noConfusion h

theorem capB_of {n : Nat} (h : capB n = true) : 65 ≤ n ∧ n ≤ 90 := by simpa [capB] using h
theorem capB_not {n : Nat} (h : capB n = false) : ¬ (65 ≤ n ∧ n ≤ 90) := by intro g; rw [capB_yes g.1 g.2] at h; exact Bool.noConfusion h

set_option maxHeartbeats 8000000 in
theorem specRule (p o : Nat) (a b : ByteArray) (w : World) (hc : w.cell? ⟨p, o, none⟩ = some (.string a)) (hd : w.cell? ⟨p, o + 1, none⟩ = some (.string b)) (hb : b.size ≤ 9223372036854775807) :
    Calls Try.prog 96 #[.pointer (some ⟨p, o, none⟩)] w fun e w' => e = .returned (.bool (ruleB a b)) ∧ w = w' := by
  by_cases h1 : a.size = 1
  · have h0 : 0 < a.size := by omega
    cases h2 : capB (a[0]'h0).toNat
    · have N := Lib.hid (ruleB_cap (b := b) h1 h2)
      have g := capB_not h2
      have b1 : ((a.size : Int) == 1) = true := by rw [h1]; rfl
      clear h1 h2
      by_cases g1 : 65 ≤ (a[0]'h0).toNat
      · have g2 : 90 < (a[0]'h0).toNat := by omega
        go_enter Try.func96, Try.ntmps96
        go_wp2_with fail
        go_ret
        exact ⟨by rw [N.out]; rfl, rfl⟩
      · go_enter Try.func96, Try.ntmps96
        go_wp2_with fail
        go_ret
        exact ⟨by rw [N.out]; rfl, rfl⟩
    · have N := Lib.hid (ruleB_word (b := b) h1 h2)
      obtain ⟨g1, g2⟩ := capB_of h2
      have b1 : ((a.size : Int) == 1) = true := by rw [h1]; rfl
      clear h1 h2
      go_enter Try.func96, Try.ntmps96
      go_wp2_with (go_at_call 95; refine (specWord b 32 hb (by decide) _).mono ?_; rintro e w' ⟨rfl, rfl⟩)
      go_ret
      exact ⟨by rw [N.out]; rfl, rfl⟩
  · have N := Lib.hid (ruleB_size (b := b) h1)
    have b1 : ((a.size : Int) == 1) = false := beq_eq_false_iff_ne.2 (by omega)
    clear h1
    go_enter Try.func96, Try.ntmps96
    go_wp2_with fail
    go_ret
    exact ⟨by rw [N.out]; rfl, rfl⟩

theorem letterOf_is (a b : ByteArray) (h0 : 0 < a.size) (w : World) :
    Calls Try.prog 114 #[.agg #[.string a, .string b]] w fun e w' => e = .returned (.int .i32 (a[0]'h0).toNat) ∧ Below w.heap.size w w' := by
  have hu : (a[0]'h0).toNat ≤ 255 := by have := (a[0]'h0).toNat_lt; omega
  go_enter Try.func114, Try.ntmps114
  go_wp2_with fail
  go_ret
  exact ⟨rfl, (Below.refl _ _).alloc (Nat.le_refl _) _⟩

theorem implRule (a b : ByteArray) (w : World) :
    Calls Try.prog 101 #[.agg #[.string a, .string b]] w fun e w' => e = .returned (.bool (ruleB a b)) ∧ Hid (Below w.heap.size w w') := by
  by_cases h1 : a.size = 1
  · have h0 : 0 < a.size := by omega
    have b1 : ((a.size : Int) == 1) = true := by rw [h1]; rfl
    have hu : (a[0]'h0).toNat ≤ 2147483647 := by have := (a[0]'h0).toNat_lt; omega
    have HC := fun W => isCapital_is (a[0]'h0).toNat W hu
    have HL := Lib.hid (letterOf_is a b h0 (w.alloc (.cells #[.string a, .string b] 114)))
    have B0 : Hid (Below w.heap.size w (w.alloc (.cells #[.string a, .string b] 114))) := (Below.refl _ _).alloc (Nat.le_refl _) _
    have HX : Hid (w.heap.size < (w.alloc (.cells #[.string a, .string b] 114)).heap.size) := by show _ < _; simp
    have HY : Hid ((w.alloc (.cells #[.string a, .string b] 114)).cell? ⟨w.heap.size, 1, none⟩ = some (.string b)) := by show _ = _; simp [World.cell?, World.alloc, -World.alloc_eq]
    cases h2 : capB (a[0]'h0).toNat
    · have N := Lib.hid (ruleB_cap (b := b) h1 h2)
      rw [h2] at HC
      have H := Lib.hid HC
      clear h1 h2 HC
      go_enter Try.func101, Try.ntmps101
      go_wp2_with fail
      refine HL.out.mono ?_
      rintro e w1 ⟨rfl, hb1⟩
      have HB : Hid (Below w.heap.size w w1) := B0.out.trans (hb1.mono B0.out.size)
      clear hb1 HL
      go_wp2_with (go_at_call 113; refine (H.out _).mono ?_; rintro e w' ⟨rfl, rfl⟩)
      go_ret
      exact ⟨by rw [N.out]; rfl, HB⟩
    · have N := Lib.hid (ruleB_word (b := b) h1 h2)
      rw [h2] at HC
      have H := Lib.hid HC
      clear h1 h2 HC
      go_enter Try.func101, Try.ntmps101
      go_wp2_with fail
      refine HL.out.mono ?_
      rintro e w1 ⟨rfl, hb1⟩
      have HB : Hid (Below w.heap.size w w1) := B0.out.trans (hb1.mono B0.out.size)
      have hy : w1.cell? ⟨w.heap.size, 1, none⟩ = some (.string b) := by rw [hb1.cell (p := ⟨w.heap.size, 1, none⟩) HX.out]; exact HY.out
      clear hb1 HL B0
      go_wp2_with (first | (go_at_call 113; refine (H.out _).mono ?_; rintro e w' ⟨rfl, rfl⟩) | (go_at_call 100; refine (implWord b 32 _).mono ?_; rintro e w' ⟨rfl, hb2⟩))
      have HE : Hid (Below w.heap.size w w') := HB.out.trans (hb2.mono HB.out.size)
      clear hb2
      go_ret
      exact ⟨by rw [N.out]; rfl, HE⟩
  · have N := Lib.hid (ruleB_size (b := b) h1)
    have b1 : ((a.size : Int) == 1) = false := beq_eq_false_iff_ne.2 (by omega)
    clear h1
    go_enter Try.func101, Try.ntmps101
    go_wp2_with fail
    go_ret
    exact ⟨by rw [N.out]; rfl, (Below.refl _ _).alloc (Nat.le_refl _) _⟩

/-- the letter and the text of a rule -/
def ltr (ss : List ByteArray) (k : Nat) : ByteArray := atS ss (k * 2)
def txt (ss : List ByteArray) (k : Nat) : ByteArray := atS ss (k * 2 + 1)
/-- not after one another, as bytes -/
def leS (a b : ByteArray) : Bool := Op.bytesLess a.toList b.toList || a.toList == b.toList
/-- one rule is valid behind the one before it -/
def okAt (ss : List ByteArray) (k : Nat) : Bool := ruleB (ltr ss k) (txt ss k) && (decide (k = 0) || !leS (ltr ss k) (ltr ss (k - 1)))
/-- a grammar -/
def validB (st : ByteArray) (n : Nat) (ss : List ByteArray) : Bool := wordB st 32 && (decide (n ≤ 8) && decide (∀ k : Fin n, okAt ss k.val = true))

theorem validB_start {st : ByteArray} {n : Nat} {ss : List ByteArray} (h : wordB st 32 = false) : validB st n ss = false := by unfold validB; rw [h]; rfl
theorem validB_many {st : ByteArray} {n : Nat} {ss : List ByteArray} (h : 8 < n) : validB st n ss = false := by unfold validB; rw [decide_eq_false (by omega), Bool.false_and, Bool.and_false]
theorem validB_not {st : ByteArray} {n k : Nat} {ss : List ByteArray} (hk : k < n) (h : okAt ss k = false) : validB st n ss = false := by
  unfold validB
  rw [decide_eq_false (p := ∀ k : Fin n, okAt ss k.val = true) (fun g => by have := g ⟨k, hk⟩; rw [h] at this; exact Bool.noConfusion this), Bool.and_false, Bool.and_false]
theorem validB_yes {st : ByteArray} {n : Nat} {ss : List ByteArray} (h1 : wordB st 32 = true) (h2 : n ≤ 8) (h : ∀ k, k < n → okAt ss k = true) : validB st n ss = true := by
  unfold validB
  rw [decide_eq_true (p := ∀ k : Fin n, okAt ss k.val = true) (fun g => h g.val g.isLt), decide_eq_true h2, h1]; rfl

theorem leS_parts {a b : ByteArray} : leS a b = (Op.bytesLess a.toList b.toList || a.toList == b.toList) := rfl

set_option maxHeartbeats 8000000 in
theorem specIs (x n c : Nat) (A : Option Addr) (st : ByteArray) (ss : List ByteArray) (w : World) (V : VarG w x st A n c) (hr : RowU w w.heap.size A ss) (hn : ss.length = 2 * n) (hN : n ≤ 1048576) (hst : st.size ≤ 9223372036854775807) (hS : ∀ j, j < ss.length → (atS ss j).size ≤ 9223372036854775807) :
    Calls Try.prog 76 #[.pointer (some ⟨x, 0, none⟩)] w fun e w' => e = .returned (.bool (validB st n ss)) ∧ Hid (Below w.heap.size w w') := by
  obtain ⟨hx, c0, c1⟩ := V
  have HR := Lib.hid hr
  have HN := Lib.hid hn
  have HS := Lib.hid hS
  have HC := fun W => specWord st 32 hst (by decide) W
  clear hr hn hS
  cases h1 : wordB st 32
  · have N := Lib.hid (validB_start (n := n) (ss := ss) h1)
    rw [h1] at HC
    have H := Lib.hid HC
    clear HC h1
    go_enter Try.func76, Try.ntmps76
    go_wp2_with (go_at_call 95; refine (H.out _).mono ?_; rintro e w' ⟨rfl, rfl⟩)
    go_ret
    exact ⟨by rw [N.out]; rfl, Below.refl _ _⟩
  · rw [h1] at HC
    have H := Lib.hid HC
    have H1 := Lib.hid h1
    clear HC h1
    by_cases h2 : 8 < n
    · have N := Lib.hid (validB_many (st := st) (ss := ss) h2)
      go_enter Try.func76, Try.ntmps76
      go_wp2_with (go_at_call 95; refine (H.out _).mono ?_; rintro e w' ⟨rfl, rfl⟩)
      go_ret
      exact ⟨by rw [N.out]; rfl, Below.refl _ _⟩
    · go_enter Try.func76, Try.ntmps76
      go_wp2_with (go_at_call 95; refine (H.out _).mono ?_; rintro e w' ⟨rfl, rfl⟩)
      clear H
      have HX : Hid (x < w.heap.size) := hx
      have HC0 := Lib.hid c0
      have HC1 := Lib.hid c1
      clear c0 c1 hx
      go_loopw [3] (fun i wr => ∃ k : Nat, k ≤ n ∧ i = .int .i64 k ∧ Hid (∀ j, j < k → okAt ss j = true) ∧ Hid (Below w.heap.size w wr)) (fun i _ => n - (intOf i).toNat)
      case atStart => exact ⟨0, Nat.zero_le _, rfl, fun j h => absurd h (Nat.not_lt_zero _), Below.refl _ _⟩
      case round =>
        obtain ⟨k, hk, rfl, hJ, hB⟩ := hrel
        have c1 : wr.cell? ⟨x, 1, none⟩ = some (.slice A n c) := by rw [hB.out.cell (p := ⟨x, 1, none⟩) HX.out]; exact HC1.out
        by_cases hlt : k < n
        · have P := HR.out.pair HN.out hlt
          obtain ⟨b, off, rfl, hb, hc, hd⟩ := P
          rw [← hB.out.cell (p := ⟨b, _, none⟩) hb] at hc hd
          have hC := fun W h1 h2 => specRule b (off + k * 2) (ltr ss k) (txt ss k) W h1 h2 (HS.out _ (by have := HN.out; omega))
          cases h3 : ruleB (ltr ss k) (txt ss k)
          · have N : Hid (validB st n ss = false) := validB_not hlt (by unfold okAt; rw [h3]; rfl)
            rw [h3] at hC
            have H := Lib.hid hC
            clear hC h3 hJ
            go_wp2_with fail
            go_quiet ((go_at_call 96; refine (H.out (wr.drewN _) hc hd).mono ?_; rintro e w' ⟨rfl, rfl⟩; exact ⟨rfl, _, rfl⟩))
            have HE : Hid (Below w.heap.size w (wr.drewN nq)) := hB.out.trans ⟨rfl, rfl, rfl, Nat.le_refl _, fun _ _ => rfl⟩
            go_wp2_with fail
            go_ret
            exact ⟨by rw [N.out]; rfl, HE⟩
          · have h4 := ruleB_one h3
            have H3 := Lib.hid h3
            rw [h3] at hC
            have H := Lib.hid hC
            clear hC h3
            by_cases h5 : k = 0
            · have HJ : Hid (∀ j, j < k + 1 → okAt ss j = true) := fun j hj => by
                obtain rfl : j = k := by omega
                unfold okAt; rw [H3.out, decide_eq_true h5]; rfl
              have b1 : decide ((0 : Int) < (k : Int)) = false := decide_eq_false (by omega)
              have b2 : decide (0 < k) = false := decide_eq_false (by omega)
              clear h5
              go_wp2_with fail
              go_quiet ((go_at_call 96; refine (H.out (wr.drewN _) hc hd).mono ?_; rintro e w' ⟨rfl, rfl⟩; exact ⟨rfl, _, rfl⟩))
              have HE : Hid (Below w.heap.size w (wr.drewN nq)) := hB.out.trans ⟨rfl, rfl, rfl, Nat.le_refl _, fun _ _ => rfl⟩
              go_wp2_with fail
              go_roundw
              case rel => exact ⟨k + 1, by omega, by go_num, HJ, HE⟩
              case measure => simp [intOf]; omega
            · obtain ⟨i, hi⟩ : ∃ i, k = i + 1 := ⟨k - 1, by omega⟩
              have hik : i < n := by omega
              obtain ⟨b', off', eA, _, he, _⟩ := HR.out.pair HN.out hik
              injection eA with eA
              injection eA with eA1 eA2 _
              subst eA1 eA2
              rw [← hB.out.cell (p := ⟨b, _, none⟩) hb] at he
              have hk1 : (k : Int) - 1 = (i : Int) := by omega
              have b0 : decide ((0 : Int) < (k : Int)) = true := decide_eq_true (by omega)
              have b0' : decide (0 < k) = true := decide_eq_true (by omega)
              have hk0 : 0 < k := by omega
              have HI : Hid (k - 1 = i) := by show k - 1 = i; omega
              have HK : Hid (k ≠ 0) := by show k ≠ 0; omega
              clear hi h5
              have he2 : wr.cell? ⟨b, off + i * 2, none⟩ = some (.string (ltr ss i)) := he
              have hc2 : wr.cell? ⟨b, off + k * 2, none⟩ = some (.string (ltr ss k)) := hc
              clear he hc
              cases hx : leS (ltr ss k) (ltr ss i)
              · have HJ : Hid (∀ j, j < k + 1 → okAt ss j = true) := fun j hj => by
                  by_cases ej : j = k
                  · rw [ej]; unfold okAt; rw [H3.out, HI.out, hx]; simp
                  · exact hJ.out j (by omega)
                rw [leS_parts, Bool.or_eq_false_iff] at hx
                obtain ⟨x1, x2⟩ := hx
                go_wp2_with fail
                go_quiet ((go_at_call 96; refine (H.out (wr.drewN _) hc2 hd).mono ?_; rintro e w' ⟨rfl, rfl⟩; exact ⟨rfl, _, rfl⟩))
                have HE : Hid (Below w.heap.size w (wr.drewN nq)) := hB.out.trans ⟨rfl, rfl, rfl, Nat.le_refl _, fun _ _ => rfl⟩
                go_wp2_with fail
                go_roundw
                case rel => exact ⟨k + 1, by omega, by go_num, HJ, HE⟩
                case measure => simp [intOf]; omega
              · have N : Hid (validB st n ss = false) := validB_not hlt (by unfold okAt; rw [HI.out, hx, decide_eq_false HK.out]; simp)
                rw [leS_parts, Bool.or_eq_true] at hx
                rcases hx with x1 | x1
                all_goals
                  go_wp2_with fail
                  go_quiet ((go_at_call 96; refine (H.out (wr.drewN _) hc2 hd).mono ?_; rintro e w' ⟨rfl, rfl⟩; exact ⟨rfl, _, rfl⟩))
                  have HE : Hid (Below w.heap.size w (wr.drewN nq)) := hB.out.trans ⟨rfl, rfl, rfl, Nat.le_refl _, fun _ _ => rfl⟩
                  go_wp2_with fail
                  go_ret
                  exact ⟨by rw [N.out]; rfl, HE⟩
        · have N : Hid (validB st n ss = true) := validB_yes H1.out (by omega) fun j hj => hJ.out j (by omega)
          go_wp2_with fail
          go_ret
          exact ⟨by rw [N.out]; rfl, hB⟩

end Go.Proofs.Ytckhdbnoihieeaa
