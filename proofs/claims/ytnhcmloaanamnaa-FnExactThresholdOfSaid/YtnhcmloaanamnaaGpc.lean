/-
  What is proved here: whether a list of integers has one (slices.Contains), as a walk. Conditions: at most 1048576 integers.
-/
import Derived.Test.YtnhcmloaanamnaaGpn
namespace Go.Proofs.Ytnhcmloaanamnaa
open Go.RowKit
set_option linter.unusedVariables false

theorem first_is (L : List Int) (b : Int) : ∃ R, R ≤ L.length ∧ (∀ t, t < R → (b == atI L t) = false) ∧ (R < L.length → (b == atI L R) = true) ∧ (L.contains b = decide (R < L.length)) := by
  have key : ∀ n, n ≤ L.length → ∃ R, R ≤ n ∧ (∀ t, t < R → (b == atI L t) = false) ∧ (R < n → (b == atI L R) = true) := by
    intro n
    induction n with
    | zero => intro _; exact ⟨0, Nat.le_refl _, fun t ht => absurd ht (Nat.not_lt_zero _), fun h => absurd h (Nat.not_lt_zero _)⟩
    | succ n ih =>
      intro hn
      obtain ⟨R, h1, h2, h3⟩ := ih (by omega)
      by_cases e : R < n
      · exact ⟨R, by omega, h2, fun _ => h3 e⟩
      · have : R = n := by omega
        subst this
        cases hq : (b == atI L R) with
        | false => exact ⟨R + 1, Nat.le_refl _, fun t ht => by
            by_cases g : t = R
            · rw [g]; exact hq
            · exact h2 t (by omega), fun h => by omega⟩
        | true => exact ⟨R, by omega, h2, fun _ => hq⟩
  obtain ⟨R, h1, h2, h3⟩ := key L.length (Nat.le_refl _)
  refine ⟨R, h1, h2, h3, ?_⟩
  by_cases h : R < L.length
  · rw [decide_eq_true h]
    have e := h3 h
    rw [beq_iff_eq] at e
    rw [List.contains_iff_mem, e, atI_getD]
    exact getD_mem h
  · rw [decide_eq_false h]
    cases hc : L.contains b with
    | false => rfl
    | true =>
      rw [List.contains_iff_mem] at hc
      obtain ⟨j, hj, e⟩ := mem_getD hc
      have := h2 j (by omega)
      rw [atI_getD, e] at this
      simp at this

theorem idxI (A : Option Addr) (c B : Nat) (b : Int) (L : List Int) (w : World) (hr : RowV w B A L.length (iv (atI L))) (hn : L.length ≤ 1048576) :
    Calls Try.prog 132 #[.slice A L.length c, .int .i64 b] w fun e w' => e = .returned (.bool (L.contains b)) ∧ w = w' := by
  obtain ⟨R, hR, hall, hend, hcon⟩ := first_is L b
  have HX : Hid (Calls Try.prog 134 #[.slice A L.length c, .int .i64 b] w fun e w' => e = .returned (.int .i64 (if R < L.length then (R : Int) else -1)) ∧ w = w') := by
    show Calls _ _ _ _ _
    have HR := Lib.hid hr
    have HALL := Lib.hid hall
    have HEND := Lib.hid hend
    clear hr hall hend hcon
    go_enter Try.func134, Try.ntmps134
    go_wp2
    go_loopw [8] (fun i wr => ∃ k : Nat, k ≤ R ∧ i = .int .i64 k ∧ w = wr) (fun i _ => R - (intOf i).toNat)
    case atStart => exact ⟨0, Nat.zero_le _, rfl, rfl⟩
    case round =>
      obtain ⟨k, hk, rfl, rfl⟩ := hrel
      by_cases hkn : k < L.length
      · obtain ⟨b0, off, rfl, hb, hcell⟩ := HR.out (by omega)
        have hc := hcell k hkn
        unfold iv at hc
        clear hcell
        have hal := fun h => HALL.out k h
        have hen : k = R → (b == atI L k) = true := fun h => by rw [h]; exact HEND.out (by omega)
        generalize atI L k = v at *
        by_cases hlt : k < R
        · have h0 := hal hlt
          clear hal hen
          go_wp2
          go_roundw
          case rel => exact ⟨k + 1, by omega, by go_num, by trivial⟩
          case measure => simp [intOf]; omega
        · have ek : k = R := by omega
          have h0 := hen ek
          have EK := Lib.hid ek
          clear hal hen ek
          go_wp2
          go_ret
          exact ⟨by rw [EK.out]; rfl, by trivial⟩
      · have ek : k = R := by omega
        have EK := Lib.hid ek
        clear ek
        go_wp2
        go_ret
        exact ⟨by first | rfl | rw [if_neg (show ¬ R < L.length by have := EK.out; omega)], by trivial⟩
  have N := Lib.hid hcon
  clear hr hall hend hcon
  by_cases h : R < L.length
  · have HY := HX
    rw [if_pos h] at HY
    clear HX
    go_enter Try.func132, Try.ntmps132
    go_wp2_with (go_at_call 134; refine HY.out.mono ?_; rintro e w' ⟨rfl, rfl⟩)
    go_ret
    exact ⟨by rw [N.out, decide_eq_true h]; first | rfl | simp, rfl⟩
  · have HY := HX
    rw [if_neg h] at HY
    clear HX
    go_enter Try.func132, Try.ntmps132
    go_wp2_with (go_at_call 134; refine HY.out.mono ?_; rintro e w' ⟨rfl, rfl⟩)
    go_ret
    exact ⟨by rw [N.out, decide_eq_false h]; rfl, rfl⟩

end Go.Proofs.Ytnhcmloaanamnaa
