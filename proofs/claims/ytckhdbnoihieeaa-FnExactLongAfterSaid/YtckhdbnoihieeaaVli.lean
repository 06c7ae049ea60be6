/-
  What is proved here: whether grammars are valid, in the program, as walks. Conditions: at most 1048576 rules.
-/
import Derived.Test.YtckhdbnoihieeaaVal
namespace Go.Proofs.Ytckhdbnoihieeaa
open Go.RowKit

/-- the letter before a place -/
def bef (ss : List ByteArray) (k : Nat) : ByteArray := if k = 0 then ⟨#[]⟩ else ltr ss (k - 1)

theorem leS_empty {a : ByteArray} (h : a.size = 1) : leS a ⟨#[]⟩ = false := by
  have e : a.toList = a.data.toList := ByteArray.toList_eq a
  have e0 : (ByteArray.mk #[]).toList = [] := ByteArray.toList_eq _
  have hl : a.data.toList.length = 1 := by simpa using h
  unfold leS
  rw [e, e0]
  match hm : a.data.toList, hl with
  | [x], _ => rfl

theorem okAt_bef {ss : List ByteArray} {k : Nat} (h : ruleB (ltr ss k) (txt ss k) = true) : okAt ss k = !leS (ltr ss k) (bef ss k) := by
  unfold okAt bef
  rw [h]
  by_cases e : k = 0
  · rw [if_pos e, decide_eq_true e, leS_empty (ruleB_one h)]; rfl
  · rw [if_neg e, decide_eq_false e]; rfl

set_option maxHeartbeats 8000000 in
theorem implValid (n c : Nat) (A : Option Addr) (st : ByteArray) (ss : List ByteArray) (w : World) (hr : RowU w w.heap.size A ss) (hn : ss.length = 2 * n) (hN : n ≤ 1048576) :
    Calls Try.prog 79 #[.agg #[.string st, .slice A n c]] w fun e w' => e = .returned (.bool (validB st n ss)) ∧ Hid (Below w.heap.size w w') := by
  have B0 : Below w.heap.size w (w.alloc (.cells #[.string st, .slice A n c] 56)) := (Below.refl _ _).alloc (Nat.le_refl _) _
  have HV := Lib.hid (varG_new w st A n c 56)
  have HR := Lib.hid hr
  have HN := Lib.hid hn
  have HB0 := Lib.hid B0
  have HC := fun W => implWord st 32 W
  clear hr hn B0
  cases h1 : wordB st 32
  · have N := Lib.hid (validB_start (n := n) (ss := ss) h1)
    rw [h1] at HC
    have H := Lib.hid HC
    clear HC h1
    go_enter Try.func79, Try.ntmps79
    go_wp2_with fail
    refine (H.out _).mono ?_
    rintro e w1 ⟨rfl, hb⟩
    have HE : Hid (Below w.heap.size w w1) := HB0.out.trans (hb.mono HB0.out.size)
    clear hb H
    go_wp2_with fail
    go_ret
    exact ⟨by rw [N.out]; rfl, HE⟩
  · rw [h1] at HC
    have H := Lib.hid HC
    have H1 := Lib.hid h1
    clear HC h1
    go_enter Try.func79, Try.ntmps79
    go_wp2_with fail
    refine (H.out _).mono ?_
    rintro e w1 ⟨rfl, hb⟩
    have HE : Hid (Below w.heap.size w w1) := HB0.out.trans (hb.mono HB0.out.size)
    have HW := Lib.hid (HV.out.below hb)
    clear hb H HB0 HV
    have c1 := HW.out.c1
    by_cases h2 : 8 < n
    · have N := Lib.hid (validB_many (st := st) (ss := ss) h2)
      go_wp2_with fail
      go_ret
      exact ⟨by rw [N.out]; rfl, HE⟩
    · go_wp2_with fail
      clear c1
      generalize hX : w.heap.size = X at *
      have HX := Lib.hid hX
      clear hX
      go_loopw [3, 19] (fun t i wr => ∃ k : Nat, k ≤ n ∧ i = .int .i64 k ∧ t = .string (bef ss k) ∧ Hid (∀ j, j < k → okAt ss j = true) ∧ Hid (Below X w wr)) (fun _ i _ => n - (intOf i).toNat)
      case atStart => exact ⟨0, Nat.zero_le _, rfl, rfl, fun j h => absurd h (Nat.not_lt_zero _), HE⟩
      case round =>
        obtain ⟨k, hk, rfl, rfl, hJ, hB⟩ := hrel
        by_cases hlt : k < n
        · obtain ⟨b, off, rfl, hb, hc, hd⟩ := HR.out.pair HN.out hlt
          rw [← hB.out.cell (p := ⟨b, _, none⟩) hb] at hc hd
          have hC := fun W => implRule (ltr ss k) (txt ss k) W
          have hc2 : wr.cell? ⟨b, off + k * 2, none⟩ = some (.string (ltr ss k)) := hc
          have hd2 : wr.cell? ⟨b, off + k * 2 + 1, none⟩ = some (.string (txt ss k)) := hd
          clear hc hd
          have B1 := (Below.refl wr.heap.size wr).alloc (Nat.le_refl _) (.cells #[.string (ltr ss k), .string (txt ss k)] 114)
          have HB1 : Hid (Below X w (wr.alloc (.cells #[.string (ltr ss k), .string (txt ss k)] 114))) := hB.out.trans (B1.mono (by rw [← HX.out]; exact hB.out.size))
          have HY : Hid ((wr.alloc (.cells #[.string (ltr ss k), .string (txt ss k)] 114)).cell? ⟨wr.heap.size, 0, none⟩ = some (.string (ltr ss k))) := by show _ = _; simp [World.cell?, World.alloc, -World.alloc_eq]
          have HZ : Hid (wr.heap.size < (wr.alloc (.cells #[.string (ltr ss k), .string (txt ss k)] 114)).heap.size) := by show _ < _; simp
          clear B1
          cases h3 : ruleB (ltr ss k) (txt ss k)
          · have N : Hid (validB st n ss = false) := validB_not hlt (by unfold okAt; rw [h3]; rfl)
            rw [h3] at hC
            have H := Lib.hid hC
            clear hC h3 hJ
            go_wp2_with fail
            refine (H.out _).mono ?_
            rintro e w2 ⟨rfl, hb2⟩
            have HE2 : Hid (Below X w w2) := HB1.out.trans (hb2.out.mono (by rw [← HX.out]; exact HB1.out.size))
            clear hb2 HB1
            go_wp2_with fail
            go_ret
            exact ⟨by rw [N.out]; rfl, by rw [HX.out]; exact HE2⟩
          · have hok := okAt_bef h3
            rw [h3] at hC
            have H := Lib.hid hC
            clear hC h3
            cases hx : leS (ltr ss k) (bef ss k)
            · have HJ : Hid (∀ j, j < k + 1 → okAt ss j = true) := fun j hj => by
                by_cases ej : j = k
                · rw [ej, hok, hx]; rfl
                · exact hJ.out j (by omega)
              have HBF : Hid (bef ss (k + 1) = ltr ss k) := by show _ = _; unfold bef; rw [if_neg (by omega)]; rfl
              rw [leS_parts, Bool.or_eq_false_iff] at hx
              obtain ⟨x1, x2⟩ := hx
              clear hok
              go_wp2_with fail
              refine (H.out _).mono ?_
              rintro e w2 ⟨rfl, hb2⟩
              have HE2 : Hid (Below X w w2) := HB1.out.trans (hb2.out.mono (by rw [← HX.out]; exact HB1.out.size))
              have hy : w2.cell? ⟨wr.heap.size, 0, none⟩ = some (.string (ltr ss k)) := by rw [hb2.out.cell (p := ⟨wr.heap.size, 0, none⟩) HZ.out]; exact HY.out
              clear hb2 HB1 HY
              go_wp2_with fail
              go_roundw
              case rel => exact ⟨k + 1, by omega, by go_num, by rw [HBF.out], HJ, HE2⟩
              case measure => simp [intOf]; omega
            · have N : Hid (validB st n ss = false) := validB_not hlt (by rw [hok, hx]; rfl)
              rw [leS_parts, Bool.or_eq_true] at hx
              clear hok
              rcases hx with x1 | x1
              all_goals
                go_wp2_with fail
                refine (H.out _).mono ?_
                rintro e w2 ⟨rfl, hb2⟩
                have HE2 : Hid (Below X w w2) := HB1.out.trans (hb2.out.mono (by rw [← HX.out]; exact HB1.out.size))
                have hy : w2.cell? ⟨wr.heap.size, 0, none⟩ = some (.string (ltr ss k)) := by rw [hb2.out.cell (p := ⟨wr.heap.size, 0, none⟩) HZ.out]; exact HY.out
                clear hb2 HB1 HY
                go_wp2_with fail
                go_ret
                exact ⟨by rw [N.out]; rfl, by rw [HX.out]; exact HE2⟩
        · have N : Hid (validB st n ss = true) := validB_yes H1.out (by omega) fun j hj => hJ.out j (by omega)
          go_wp2_with fail
          go_ret
          exact ⟨by rw [N.out]; rfl, by rw [HX.out]; exact hB⟩


end Go.Proofs.Ytckhdbnoihieeaa
