/-
  What is proved here: whether two sheets are the same, by the model and by the program, as walks. Conditions: the heights are words of 32 bits; at most 1048576 of them.
-/
import Derived.Test.YtckhdbnoihieeaaSimA
import Derived.Test.YtckhdbnoihieeaaOpenT
import Derived.Test.YtckhdbnoihieeaaSht
namespace Go.Proofs.Ytckhdbnoihieeaa
open Flt Go.RowKit Go.ChangeShapes Go.WideShapes
set_option linter.unusedVariables false

def AllW (zs : List Nat) : Prop := ∀ z ∈ zs, WF .f32 z
theorem AllW.at {zs : List Nat} (h : AllW zs) {j : Nat} (hj : j < zs.length) : WF .f32 (at0 zs j) := h _ (by rw [show at0 zs j = zs[j] by simp [at0, List.getD, hj]]; exact List.getElem_mem hj)

theorem specSame1 (a b : Nat) (ha : WF .f32 a) (hb : WF .f32 b) (w : World) :
    Calls Try.prog 92 #[.float .f32 a, .float .f32 b] w fun e w' => e = .returned (.bool (bitsV a == bitsV b)) ∧ w = w' := by
  go_enter Try.func92, Try.ntmps92
  go_wp2_with (go_at_call 110; refine (specBits _ (by assumption) _).mono ?_; rintro e w' ⟨rfl, rfl⟩)
  go_ret
  exact ⟨rfl, rfl⟩

/-- the same heights, bit by bit -/
def samF (zs ys : List Nat) : Bool := decide (zs.length = ys.length ∧ ∀ k, k < zs.length → bitsV (at0 zs k) = bitsV (at0 ys k))
theorem samF_len {zs ys : List Nat} (h : zs.length ≠ ys.length) : samF zs ys = false := decide_eq_false fun g => h g.1
theorem samF_not {zs ys : List Nat} {k : Nat} (hk : k < zs.length) (h : bitsV (at0 zs k) ≠ bitsV (at0 ys k)) : samF zs ys = false := decide_eq_false fun g => h (g.2 k hk)
theorem samF_yes {zs ys : List Nat} (h : zs.length = ys.length) (g : ∀ k, k < zs.length → bitsV (at0 zs k) = bitsV (at0 ys k)) : samF zs ys = true := decide_eq_true ⟨h, g⟩

set_option maxHeartbeats 4000000 in
theorem specAll (A B : Option Addr) (c d Z : Nat) (zs ys : List Nat) (w : World) (hr : RowF w Z A zs) (hq : RowF w Z B ys) (hz : AllW zs) (hy : AllW ys) (hn : zs.length ≤ 1048576) (hm : ys.length ≤ 1048576) :
    Calls Try.prog 72 #[.slice A zs.length c, .slice B ys.length d] w fun e w' => e = .returned (.bool (samF zs ys)) ∧ Hid (Below w.heap.size w w') := by
  by_cases hl : zs.length = ys.length
  · have HR := Lib.hid hr
    have HQ := Lib.hid hq
    have HZ := Lib.hid hz
    have HY := Lib.hid hy
    have HL := Lib.hid hl
    have hlI : ((zs.length : Nat) : Int) = ys.length := by rw [hl]
    generalize hN : zs.length = n at *
    have HN := Lib.hid hN
    rw [← hl]
    clear hr hq hz hy hl hN hm hlI
    go_enter Try.func72, Try.ntmps72
    go_wp2_with fail
    go_loopw [5] (fun i wr => ∃ k : Nat, k ≤ n ∧ i = .int .i64 k ∧ (∃ q, wr = w.drewN q) ∧ Hid (∀ j, j < k → bitsV (at0 zs j) = bitsV (at0 ys j))) (fun i _ => n - (intOf i).toNat)
    case atStart => exact ⟨0, Nat.zero_le _, rfl, ⟨0, rfl⟩, fun j hj => absurd hj (Nat.not_lt_zero _)⟩
    case round =>
      obtain ⟨k, hk, rfl, ⟨qq, rfl⟩, hS⟩ := hrel
      by_cases hlt : k < n
      · obtain ⟨b1, o1, rfl, _, hc1⟩ := HR.out (by have := HN.out; omega)
        obtain ⟨b2, o2, rfl, _, hc2⟩ := HQ.out (by have := HN.out; have := HL.out; omega)
        have e1 := hc1 k (by have := HN.out; omega)
        have e2 := hc2 k (by have := HN.out; have := HL.out; omega)
        have W1 := HZ.out.at (j := k) (by have := HN.out; omega)
        have W2 := HY.out.at (j := k) (by have := HN.out; have := HL.out; omega)
        have HC := Lib.hid (fun W => specSame1 (at0 zs k) (at0 ys k) W1 W2 W)
        clear hc1 hc2 W1 W2
        cases hb : (bitsV (at0 zs k) == bitsV (at0 ys k))
        · have N := Lib.hid (samF_not (ys := ys) (by have := HN.out; omega : k < zs.length) (by simpa using hb))
          rw [hb] at HC
          clear hb
          go_wp2_with fail
          go_quiet ((go_at_call 92; refine (HC.out _).mono ?_; rintro e w' ⟨rfl, rfl⟩; exact ⟨rfl, _, rfl⟩))
          go_wp2_with fail
          go_ret
          exact ⟨by rw [N.out]; rfl, belowN (belowN (Below.refl _ _))⟩
        · have S2 : Hid (∀ j, j < k + 1 → bitsV (at0 zs j) = bitsV (at0 ys j)) := fun j hj => by
            by_cases e : j = k
            · subst e; simpa using hb
            · exact hS.out j (by omega)
          rw [hb] at HC
          clear hb hS
          go_wp2_with fail
          go_quiet ((go_at_call 92; refine (HC.out _).mono ?_; rintro e w' ⟨rfl, rfl⟩; exact ⟨rfl, _, rfl⟩))
          go_wp2_with fail
          go_roundw
          case rel => exact ⟨k + 1, by omega, by go_num, ⟨_, rfl⟩, S2⟩
          case measure => simp [intOf]; omega
      · have N := Lib.hid (samF_yes (HN.out.trans HL.out) (fun j hj => hS.out j (by have := HN.out; omega)))
        go_wp2_with fail
        go_ret
        exact ⟨by rw [N.out]; rfl, belowN (Below.refl _ _)⟩
  · have N := Lib.hid (samF_len hl)
    have hlI : ¬ ((zs.length : Nat) : Int) = ys.length := by omega
    clear hr hq
    go_enter Try.func72, Try.ntmps72
    go_wp2_with fail
    go_ret
    exact ⟨by rw [N.out]; rfl, Below.refl _ _⟩

set_option maxHeartbeats 4000000 in
theorem implAll (A B : Option Addr) (c d Z : Nat) (zs ys : List Nat) (w : World) (hr : RowF w Z A zs) (hq : RowF w Z B ys) (hz : AllW zs) (hy : AllW ys) (hn : zs.length ≤ 1048576) (hm : ys.length ≤ 1048576) :
    Calls Try.prog 73 #[.slice A zs.length c, .slice B ys.length d, .func (.func 74) #[] #[]] w fun e w' => e = .returned (.bool (samF zs ys)) ∧ Hid (Below w.heap.size w w') := by
  by_cases hl : zs.length = ys.length
  · have HR := Lib.hid hr
    have HQ := Lib.hid hq
    have HZ := Lib.hid hz
    have HY := Lib.hid hy
    have HL := Lib.hid hl
    generalize hN : zs.length = n at *
    have HN := Lib.hid hN
    rw [← hl]
    clear hr hq hz hy hl hN hm
    go_enter Try.func73, Try.ntmps73
    go_wp2_with fail
    go_loopw [17] (fun i wr => ∃ k : Nat, k ≤ n ∧ i = .int .i64 k ∧ (∃ q, wr = w.drewN q) ∧ Hid (∀ j, j < k → bitsV (at0 zs j) = bitsV (at0 ys j))) (fun i _ => n - (intOf i).toNat)
    case atStart => exact ⟨0, Nat.zero_le _, rfl, ⟨0, rfl⟩, fun j hj => absurd hj (Nat.not_lt_zero _)⟩
    case round =>
      obtain ⟨k, hk, rfl, ⟨qq, rfl⟩, hS⟩ := hrel
      by_cases hlt : k < n
      · obtain ⟨b1, o1, rfl, _, hc1⟩ := HR.out (by have := HN.out; omega)
        obtain ⟨b2, o2, rfl, _, hc2⟩ := HQ.out (by have := HN.out; have := HL.out; omega)
        have e1 := hc1 k (by have := HN.out; omega)
        have e2 := hc2 k (by have := HN.out; have := HL.out; omega)
        have W1 := HZ.out.at (j := k) (by have := HN.out; omega)
        have W2 := HY.out.at (j := k) (by have := HN.out; have := HL.out; omega)
        have HC := Lib.hid (fun W => implSame (at0 zs k) (at0 ys k) W1 W2 W)
        clear hc1 hc2 W1 W2
        cases hb : (bitsV (at0 zs k) == bitsV (at0 ys k))
        · have N := Lib.hid (samF_not (ys := ys) (by have := HN.out; omega : k < zs.length) (by simpa using hb))
          rw [hb] at HC
          clear hb
          go_wp2_with (go_at_call 74; refine (HC.out _).mono ?_; rintro e w' ⟨rfl, n7, rfl⟩)
          go_ret
          exact ⟨by rw [N.out]; rfl, belowN (Below.refl _ _)⟩
        · have S2 : Hid (∀ j, j < k + 1 → bitsV (at0 zs j) = bitsV (at0 ys j)) := fun j hj => by
            by_cases e : j = k
            · subst e; simpa using hb
            · exact hS.out j (by omega)
          rw [hb] at HC
          clear hb hS
          go_wp2_with (go_at_call 74; refine (HC.out _).mono ?_; rintro e w' ⟨rfl, n7, rfl⟩)
          go_roundw
          case rel => exact ⟨k + 1, by omega, by go_num, ⟨qq + n7, rfl⟩, S2⟩
          case measure => simp [intOf]; omega
      · have N := Lib.hid (samF_yes (HN.out.trans HL.out) (fun j hj => hS.out j (by have := HN.out; omega)))
        go_wp2_with fail
        go_ret
        exact ⟨by rw [N.out]; rfl, belowN (Below.refl _ _)⟩
  · have N := Lib.hid (samF_len hl)
    have hlI : ¬ ((zs.length : Nat) : Int) = ys.length := by omega
    clear hr hq
    go_enter Try.func73, Try.ntmps73
    go_wp2_with fail
    go_ret
    exact ⟨by rw [N.out]; rfl, Below.refl _ _⟩

/-- the same sheet -/
def sshB (x y : Int) (zs : List Nat) (x2 y2 : Int) (ys : List Nat) : Bool := decide (x = x2) && (decide (y = y2) && samF zs ys)
theorem sshB_x {x y x2 y2 : Int} {zs ys : List Nat} (h : ¬ x = x2) : sshB x y zs x2 y2 ys = false := by unfold sshB; rw [decide_eq_false h]; rfl
theorem sshB_y {x y x2 y2 : Int} {zs ys : List Nat} (h : ¬ y = y2) : sshB x y zs x2 y2 ys = false := by unfold sshB; rw [decide_eq_false h, Bool.false_and, Bool.and_false]
theorem sshB_is {x y : Int} {zs ys : List Nat} : sshB x y zs x y ys = samF zs ys := by unfold sshB; rw [decide_eq_true rfl, decide_eq_true rfl]; rfl

set_option maxHeartbeats 4000000 in
theorem specSsh (x y x2 y2 : Int) (A B : Option Addr) (c d : Nat) (zs ys : List Nat) (w : World) (hr : RowF w w.heap.size A zs) (hq : RowF w w.heap.size B ys) (hz : AllW zs) (hy : AllW ys) (hn : zs.length ≤ 1048576) (hm : ys.length ≤ 1048576) :
    Calls Try.prog 27 #[.agg #[.int .i64 x, .int .i64 y, .slice A zs.length c], .agg #[.int .i64 x2, .int .i64 y2, .slice B ys.length d]] w fun e w' => e = .returned (.bool (sshB x y zs x2 y2 ys)) ∧ Hid (Below w.heap.size w w') := by
  have HC := Lib.hid (fun (W : World) (hb : Below w.heap.size w W) => specAll A B c d w.heap.size zs ys W (hr.below hb) (hq.below hb) hz hy hn hm)
  have B1 : Below w.heap.size w (w.alloc (.cells #[.int .i64 x, .int .i64 y, .slice A zs.length c] 27)) := (Below.refl _ _).alloc (Nat.le_refl _) _
  have B2 : Hid (Below w.heap.size w ((w.alloc (.cells #[.int .i64 x, .int .i64 y, .slice A zs.length c] 27)).alloc (.cells #[.int .i64 x2, .int .i64 y2, .slice B ys.length d] 27))) := B1.alloc B1.size _
  clear hr hq hz hy B1
  by_cases hx : x = x2
  · by_cases hyy : y = y2
    · subst hx hyy
      have N := Lib.hid (sshB_is (x := x) (y := y) (zs := zs) (ys := ys))
      go_enter Try.func27, Try.ntmps27
      go_wp2_with (go_at_call 72; refine (HC.out _ B2.out).mono ?_; rintro e w' ⟨rfl, hb⟩)
      go_ret
      exact ⟨by rw [N.out]; rfl, B2.out.trans (hb.out.mono B2.out.size)⟩
    · have N := Lib.hid (sshB_y (x := x) (x2 := x2) (zs := zs) (ys := ys) hyy)
      subst hx
      clear HC
      go_enter Try.func27, Try.ntmps27
      go_wp2_with fail
      go_ret
      exact ⟨by rw [N.out]; rfl, B2⟩
  · have N := Lib.hid (sshB_x (y := y) (y2 := y2) (zs := zs) (ys := ys) hx)
    clear HC
    go_enter Try.func27, Try.ntmps27
    go_wp2_with fail
    go_ret
    exact ⟨by rw [N.out]; rfl, B2⟩

set_option maxHeartbeats 4000000 in
theorem implSsh (x y x2 y2 : Int) (A B : Option Addr) (c d : Nat) (zs ys : List Nat) (w : World) (hr : RowF w w.heap.size A zs) (hq : RowF w w.heap.size B ys) (hz : AllW zs) (hy : AllW ys) (hn : zs.length ≤ 1048576) (hm : ys.length ≤ 1048576) :
    Calls Try.prog 28 #[.agg #[.int .i64 x, .int .i64 y, .slice A zs.length c], .agg #[.int .i64 x2, .int .i64 y2, .slice B ys.length d]] w fun e w' => e = .returned (.bool (sshB x y zs x2 y2 ys)) ∧ Hid (Below w.heap.size w w') := by
  have HC := Lib.hid (fun (W : World) (hb : Below w.heap.size w W) => implAll A B c d w.heap.size zs ys W (hr.below hb) (hq.below hb) hz hy hn hm)
  have B1 : Below w.heap.size w (w.alloc (.cells #[.int .i64 x, .int .i64 y, .slice A zs.length c] 27)) := (Below.refl _ _).alloc (Nat.le_refl _) _
  have B2 : Hid (Below w.heap.size w ((w.alloc (.cells #[.int .i64 x, .int .i64 y, .slice A zs.length c] 27)).alloc (.cells #[.int .i64 x2, .int .i64 y2, .slice B ys.length d] 27))) := B1.alloc B1.size _
  clear hr hq hz hy B1
  by_cases hx : x = x2
  · by_cases hyy : y = y2
    · subst hx hyy
      have N := Lib.hid (sshB_is (x := x) (y := y) (zs := zs) (ys := ys))
      go_enter Try.func28, Try.ntmps28
      go_wp2_with (go_at_call 73; refine (HC.out _ B2.out).mono ?_; rintro e w' ⟨rfl, hb⟩)
      go_ret
      exact ⟨by rw [N.out]; rfl, B2.out.trans (hb.out.mono B2.out.size)⟩
    · have N := Lib.hid (sshB_y (x := x) (x2 := x2) (zs := zs) (ys := ys) hyy)
      subst hx
      clear HC
      go_enter Try.func28, Try.ntmps28
      go_wp2_with fail
      go_ret
      exact ⟨by rw [N.out]; rfl, B2⟩
  · have N := Lib.hid (sshB_x (y := y) (y2 := y2) (zs := zs) (ys := ys) hx)
    clear HC
    go_enter Try.func28, Try.ntmps28
    go_wp2_with fail
    go_ret
    exact ⟨by rw [N.out]; rfl, B2⟩

end Go.Proofs.Ytckhdbnoihieeaa
