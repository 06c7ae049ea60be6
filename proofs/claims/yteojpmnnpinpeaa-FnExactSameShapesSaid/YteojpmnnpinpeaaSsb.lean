/-
  What is proved here: whether two lists of shapes are the same, of both packages, as walks. Conditions: at most 1048576 shapes and cells.
-/
import Derived.Test.YteojpmnnpinpeaaSoA
import Derived.Test.YteojpmnnpinpeaaSoB
import Derived.Test.YteojpmnnpinpeaaSoC
import Derived.Test.YteojpmnnpinpeaaSoD
import Derived.Test.YteojpmnnpinpeaaSlk
namespace Go.Proofs.Yteojpmnnpinpeaa
open Go.RowKit
set_option linter.unusedVariables false

theorem textS_ne {a b : ByteArray} (h : a ≠ b) : (a.toList == b.toList) = false := by
  rw [beq_eq_false_iff_ne]
  intro g
  apply h
  have : a.data.toList = b.data.toList := by rw [← ByteArray.toList_eq, ← ByteArray.toList_eq]; exact g
  exact ByteArray.ext (Array.toList_inj.1 this)

theorem specOm (v o v2 o2 : Nat) (x y : Int) (A : Option Addr) (n c : Nat) (p : Nat → Bool) (x2 y2 : Int) (A2 : Option Addr) (n2 c2 : Nat) (p2 : Nat → Bool) (w : World) (V : VarO w v o x y A n c) (V2 : VarO w v2 o2 x2 y2 A2 n2 c2) (hr : RowV w w.heap.size A n (bo p)) (hq : RowV w w.heap.size A2 n2 (bo p2)) (hn : n ≤ 1048576) (hn2 : n2 ≤ 1048576) :
    Calls Try.prog 70 #[.pointer (some ⟨v, o, none⟩), .pointer (some ⟨v2, o2, none⟩)] w fun e w' => e = .returned (.bool (sfB x y n p x2 y2 n2 p2)) ∧ ∃ k, w' = w.drewN k := by
  by_cases h1 : x = x2
  · by_cases h2 : y = y2
    · by_cases h3 : n = n2
      · exact specOmD v o v2 o2 x y A n c p x2 y2 A2 n2 c2 p2 w V V2 hr hq hn hn2 h1 h2 h3
      · exact specOmC v o v2 o2 x y A n c p x2 y2 A2 n2 c2 p2 w V V2 hr hq hn hn2 h1 h2 h3
    · exact specOmB v o v2 o2 x y A n c p x2 y2 A2 n2 c2 p2 w V V2 hr hq hn hn2 h1 h2
  · exact specOmA v o v2 o2 x y A n c p x2 y2 A2 n2 c2 p2 w V V2 hr hq hn hn2 h1

/-- two shapes are the same -/
def ss1 (s t : Sh) : Bool := decide (s.name = t.name) && sfB s.wide s.high s.len s.cell t.wide t.high t.len t.cell
theorem ss1_no {s t : Sh} (h : ¬ s.name = t.name) : ss1 s t = false := by unfold ss1; rw [decide_eq_false h]; rfl
theorem ss1_yes {s t : Sh} (h : s.name = t.name) : ss1 s t = sfB s.wide s.high s.len s.cell t.wide t.high t.len t.cell := by unfold ss1; rw [decide_eq_true h]; rfl

/-- two lists of shapes are the same -/
def ssB (n : Nat) (f : Nat → Sh) (m : Nat) (g : Nat → Sh) : Bool := (n == m) && (List.range n).all fun j => ss1 (f j) (g j)
theorem ssB_len {n m : Nat} {f g : Nat → Sh} (h : ¬ n = m) : ssB n f m g = false := by unfold ssB; rw [show (n == m) = false from beq_eq_false_iff_ne.2 h]; rfl
theorem ssB_no {n k : Nat} {f g : Nat → Sh} (hk : k < n) (h : ss1 (f k) (g k) = false) : ssB n f n g = false := by
  unfold ssB
  rw [beq_self_eq_true, Bool.true_and, List.all_eq_false]
  exact ⟨k, List.mem_range.2 hk, by rw [h]; decide⟩
theorem ssB_yes {n : Nat} {f g : Nat → Sh} (h : ∀ j, j < n → ss1 (f j) (g j) = true) : ssB n f n g = true := by
  unfold ssB
  rw [beq_self_eq_true, Bool.true_and]
  exact List.all_eq_true.2 fun j hj => h j (List.mem_range.1 hj)

set_option maxHeartbeats 8000000 in
set_option maxRecDepth 100000 in
theorem specSS (A B : Option Addr) (n c m d : Nat) (f g : Nat → Sh) (w : World) (hr : RowSh w w.heap.size A n f) (hq : RowSh w w.heap.size B m g) (hn : n ≤ 1048576) (hm : m ≤ 1048576) (hF : ∀ j, j < n → (f j).len ≤ 1048576) (hE : ∀ j, j < m → (g j).len ≤ 1048576) :
    Calls Try.prog 16 #[.slice A n c, .slice B m d] w fun e w' => e = .returned (.bool (ssB n f m g)) ∧ ∃ k, w' = w.drewN k := by
  have HR := Lib.hid hr
  have HQ := Lib.hid hq
  have HF := Lib.hid hF
  have HE := Lib.hid hE
  clear hr hq hF hE
  by_cases e2 : n = m
  · subst e2
    go_enter Try.func16, Try.ntmps16
    go_wp2_with fail
    go_loopw [13] (fun i wr => ∃ k : Nat, k ≤ n ∧ i = .int .i64 k ∧ Hid (∀ j, j < k → ss1 (f j) (g j) = true) ∧ ∃ q, wr = w.drewN q) (fun i _ => n - (intOf i).toNat)
    case atStart => exact ⟨0, Nat.zero_le _, rfl, fun j h => absurd h (by omega), 0, rfl⟩
    case round =>
      obtain ⟨k, hk, rfl, hJ, q, rfl⟩ := hrel
      by_cases hlt : k < n
      · obtain ⟨b, off, Q1, c1, rfl, hb, ⟨a0, a1, a2, a3, ar, _⟩⟩ := HR.out.at hlt
        obtain ⟨b2, off2, Q2, c2, rfl, hb2, ⟨d0, d1, d2, d3, dr, _⟩⟩ := HQ.out.at hlt
        have HC0 := Lib.hid (fun q2 => specOm b (off + k * 4 + 1) b2 (off2 + k * 4 + 1) (f k).wide (f k).high Q1 (f k).len c1 (f k).cell (g k).wide (g k).high Q2 (g k).len c2 (g k).cell ((w.drewN q).drewN q2) ⟨hb, a1, a2, a3⟩ ⟨hb2, d1, d2, d3⟩ ar dr (HF.out k hlt) (HE.out k hlt))
        have HC : Hid (∀ W, (∃ q2, W = (w.drewN q).drewN q2) → Calls Try.prog 70 #[.pointer (some ⟨b, off + k * 4 + 1, none⟩), .pointer (some ⟨b2, off2 + k * 4 + 1, none⟩)] W fun e w' => e = .returned (.bool (sfB (f k).wide (f k).high (f k).len (f k).cell (g k).wide (g k).high (g k).len (g k).cell)) ∧ ∃ q2, w' = (w.drewN q).drewN q2) := fun W hW => by
          obtain ⟨q2, rfl⟩ := hW
          exact (HC0.out q2).mono fun e w' h => ⟨h.1, by obtain ⟨k2, h2⟩ := h.2; exact ⟨q2 + k2, by rw [h2, World.drewN_drewN]⟩⟩
        clear ar dr a1 a2 a3 d1 d2 d3 HC0
        by_cases g1 : (f k).name = (g k).name
        · have N1 := ss1_yes g1
          rw [← g1] at d0
          clear g1
          cases hs : sfB (f k).wide (f k).high (f k).len (f k).cell (g k).wide (g k).high (g k).len (g k).cell
          · have N : Hid (ssB n f n g = false) := ssB_no hlt (by rw [N1, hs])
            rw [hs] at HC
            clear N1 hs hJ
            go_wp2_with fail
            go_quiet ((go_at_call 70; refine (HC.out _ ⟨_, by first | rfl | rw [World.drewN_drewN]⟩).mono ?_; rintro e w' ⟨rfl, k2, rfl⟩; exact ⟨rfl, _, by first | rfl | rw [World.drewN_drewN]⟩))
            go_wp2_with fail
            go_ret
            exact ⟨by rw [N.out]; rfl, _, by first | rfl | rw [World.drewN_drewN]⟩
          · have HJ : Hid (∀ j, j < k + 1 → ss1 (f j) (g j) = true) := fun j hj => by
              by_cases e1 : j = k
              · rw [e1, N1, hs]
              · exact hJ.out j (by omega)
            rw [hs] at HC
            clear N1 hs hJ
            go_wp2_with fail
            go_quiet ((go_at_call 70; refine (HC.out _ ⟨_, by first | rfl | rw [World.drewN_drewN]⟩).mono ?_; rintro e w' ⟨rfl, k2, rfl⟩; exact ⟨rfl, _, by first | rfl | rw [World.drewN_drewN]⟩))
            go_wp2_with fail
            go_roundw
            case rel => exact ⟨k + 1, by omega, by go_num, HJ, _, by first | rfl | rw [World.drewN_drewN]⟩
            case measure => simp [intOf]; omega
        · have N : Hid (ssB n f n g = false) := ssB_no hlt (ss1_no g1)
          have b1 := textS_ne g1
          clear g1 hJ HC
          go_wp2_with fail
          go_quiet (fail)
          go_wp2_with fail
          go_ret
          exact ⟨by rw [N.out]; rfl, _, by first | rfl | rw [World.drewN_drewN]⟩
      · have N : Hid (ssB n f n g = true) := ssB_yes fun j hj => hJ.out j (by omega)
        go_wp2
        go_ret
        exact ⟨by rw [N.out]; rfl, _, rfl⟩
  · have N : Hid (ssB n f m g = false) := ssB_len e2
    have b1 : ((n : Int) != (m : Int)) = true := bne_iff_ne.2 (by omega)
    clear e2
    go_enter Try.func16, Try.ntmps16
    go_wp2_with fail
    go_ret
    exact ⟨by rw [N.out]; rfl, 0, rfl⟩

set_option maxRecDepth 100000 in
theorem implSS1 (s t : Sh) (Q R : Option Addr) (c d : Nat) (w : World) (hr : RowV w w.heap.size Q s.len (bo s.cell)) (hq : RowV w w.heap.size R t.len (bo t.cell)) (hn : s.len ≤ 1048576) (hm : t.len ≤ 1048576) :
    Calls Try.prog 73 #[.agg #[.string s.name, .int .i64 s.wide, .int .i64 s.high, .slice Q s.len c], .agg #[.string t.name, .int .i64 t.wide, .int .i64 t.high, .slice R t.len d]] w fun e w' => e = .returned (.bool (ss1 s t)) ∧ Hid (Below w.heap.size w w') := by
  have B0 : Below w.heap.size w ((w.alloc (.cells #[.string s.name, .int .i64 s.wide, .int .i64 s.high, .slice Q s.len c] 103)).alloc (.cells #[.string t.name, .int .i64 t.wide, .int .i64 t.high, .slice R t.len d] 103)) := ((Below.refl _ _).alloc (Nat.le_refl _) _).alloc (by simp) _
  have HB := Lib.hid B0
  have HC := Lib.hid (implSf s.wide s.high Q s.len c s.cell t.wide t.high R t.len d t.cell _ (hr.carry B0) (hq.carry B0) hn hm)
  clear hr hq B0
  by_cases g1 : s.name = t.name
  · have N := Lib.hid (ss1_yes g1)
    rw [← g1] at HC HB ⊢
    clear g1
    go_enter Try.func73, Try.ntmps73
    go_wp2_with fail
    refine HC.out.mono ?_
    rintro e w' ⟨rfl, hb⟩
    have HB2 := Lib.hid (HB.out.trans (hb.out.mono HB.out.size))
    clear hb HC HB
    go_wp2_with fail
    go_ret
    exact ⟨by rw [N.out]; rfl, HB2⟩
  · have N := Lib.hid (ss1_no g1)
    have b1 := textS_ne g1
    clear g1 HC
    go_enter Try.func73, Try.ntmps73
    go_wp2_with fail
    go_ret
    exact ⟨by rw [N.out]; rfl, HB⟩

set_option maxHeartbeats 8000000 in
theorem implSSe (A B : Option Addr) (n c m d : Nat) (f g : Nat → Sh) (w : World) (hr : RowSh w w.heap.size A n f) (hq : RowSh w w.heap.size B m g) (hn : n ≤ 1048576) (hm : m ≤ 1048576) (hF : ∀ j, j < n → (f j).len ≤ 1048576) (hE : ∀ j, j < m → (g j).len ≤ 1048576) :
    Calls Try.prog 72 #[.slice A n c, .slice B m d, .func (.func 73) #[] #[]] w fun e w' => e = .returned (.bool (ssB n f m g)) ∧ Hid (Below w.heap.size w w') := by
  have HR := Lib.hid hr
  have HQ := Lib.hid hq
  have HF := Lib.hid hF
  have HE := Lib.hid hE
  clear hr hq hF hE
  by_cases e2 : n = m
  · subst e2
    go_enter Try.func72, Try.ntmps72
    go_wp2_with fail
    go_loopw [17] (fun i wr => ∃ k : Nat, k ≤ n ∧ i = .int .i64 k ∧ Hid (Below w.heap.size w wr) ∧ Hid (∀ j, j < k → ss1 (f j) (g j) = true)) (fun i _ => n - (intOf i).toNat)
    case atStart => exact ⟨0, Nat.zero_le _, rfl, Below.refl _ _, fun j hj => absurd hj (Nat.not_lt_zero _)⟩
    case round =>
      obtain ⟨k, hk, rfl, hB, hJ⟩ := hrel
      by_cases hlt : k < n
      · obtain ⟨b, off, Q1, c1, rfl, hb, H1⟩ := HR.out.at hlt
        obtain ⟨b2, off2, Q2, c2, rfl, hb2, H2⟩ := HQ.out.at hlt
        obtain ⟨a0, a1, a2, a3, ar, _⟩ := H1.below hB.out hb
        obtain ⟨d0, d1, d2, d3, dr, _⟩ := H2.below hB.out hb2
        have HC := Lib.hid (fun W (hW : Below wr.heap.size wr W) => implSS1 (f k) (g k) Q1 Q2 c1 c2 W ((ar.mono hB.out.size).carry hW) ((dr.mono hB.out.size).carry hW) (HF.out k hlt) (HE.out k hlt))
        have hbw : b < wr.heap.size := Nat.lt_of_lt_of_le hb hB.out.size
        have hbw2 : b2 < wr.heap.size := Nat.lt_of_lt_of_le hb2 hB.out.size
        have hW : Below wr.heap.size wr ((wr.alloc (.cells #[.string (f k).name, .int .i64 (f k).wide, .int .i64 (f k).high, .slice Q1 (f k).len c1] 103)).alloc (.cells #[.string (g k).name, .int .i64 (g k).wide, .int .i64 (g k).high, .slice Q2 (g k).len c2] 103)) := ((Below.refl _ _).alloc (Nat.le_refl _) _).alloc (by simp) _
        have HC2 := Lib.hid (HC.out _ hW)
        have HW := Lib.hid (hB.out.trans (hW.mono hB.out.size))
        clear ar dr H1 H2 HC hW
        cases hs : ss1 (f k) (g k)
        · have N := Lib.hid (ssB_no hlt hs)
          rw [hs] at HC2
          clear hs hJ
          go_wp2_with (go_at_call 73; refine HC2.out.mono ?_; rintro e w' ⟨rfl, hb7⟩; have HB2 := Lib.hid (HW.out.trans (hb7.out.mono HW.out.size)); clear hb7)
          go_ret
          exact ⟨by rw [N.out]; rfl, HB2⟩
        · have HJ : Hid (∀ j, j < k + 1 → ss1 (f j) (g j) = true) := fun j hj => by
            by_cases e : j = k
            · subst e; exact hs
            · exact hJ.out j (by omega)
          rw [hs] at HC2
          clear hs hJ
          go_wp2_with (go_at_call 73; refine HC2.out.mono ?_; rintro e w' ⟨rfl, hb7⟩; have HB2 := Lib.hid (HW.out.trans (hb7.out.mono HW.out.size)); clear hb7)
          go_roundw
          case rel => exact ⟨k + 1, by omega, by go_num, HB2, HJ⟩
          case measure => simp [intOf]; omega
      · have N := Lib.hid (ssB_yes (n := n) (f := f) (g := g) (fun j hj => hJ.out j (by omega)))
        go_wp2_with fail
        go_ret
        exact ⟨by rw [N.out]; rfl, hB⟩
  · have N := Lib.hid (ssB_len (f := f) (g := g) e2)
    have hlI : ¬ ((n : Nat) : Int) = m := by omega
    clear e2
    go_enter Try.func72, Try.ntmps72
    go_wp2_with fail
    go_ret
    exact ⟨by rw [N.out]; rfl, Below.refl _ _⟩

theorem implSS (A B : Option Addr) (n c m d : Nat) (f g : Nat → Sh) (w : World) (hr : RowSh w w.heap.size A n f) (hq : RowSh w w.heap.size B m g) (hn : n ≤ 1048576) (hm : m ≤ 1048576) (hF : ∀ j, j < n → (f j).len ≤ 1048576) (hE : ∀ j, j < m → (g j).len ≤ 1048576) :
    Calls Try.prog 18 #[.slice A n c, .slice B m d] w fun e w' => e = .returned (.bool (ssB n f m g)) ∧ Hid (Below w.heap.size w w') := by
  have HC := Lib.hid (implSSe A B n c m d f g w hr hq hn hm hF hE)
  clear hr hq hF hE
  go_enter Try.func18, Try.ntmps18
  go_wp2_with fail
  refine HC.out.mono ?_
  rintro e w' ⟨rfl, hb⟩
  clear HC
  go_wp2_with fail
  go_ret
  exact ⟨rfl, hb⟩

end Go.Proofs.Yteojpmnnpinpeaa
