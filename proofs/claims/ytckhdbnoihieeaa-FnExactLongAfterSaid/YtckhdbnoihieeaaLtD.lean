/-
  What is proved here: letters counted into a map by the program, as a walk. Conditions: a word; counts that stay small.
-/
import Derived.Test.YtckhdbnoihieeaaLtC
import Derived.Test.YtckhdbnoihieeaaLuk
import Derived.Test.YtckhdbnoihieeaaRew
import Derived.Maps.OwnOps
namespace Go.Proofs.Ytckhdbnoihieeaa
open Go.RowKit Go.Maps

theorem zeroI (w : World) : (zeroValue 2).run Try.prog w = .ok (.int .i64 0) w := by kernel_rfl

/-- the key of a count -/
def keyN (j : Nat) : Nat := if j < 26 then 65 + j else 43
theorem keyN_lt (j : Nat) : keyN j < 128 := by unfold keyN; split <;> omega
theorem keyN_inj {i j : Nat} (hi : i < 27) (hj : j < 27) (h : keyN i = keyN j) : i = j := by
  unfold keyN at h
  split at h <;> split at h <;> omega

/-- a map of counts: at most n entries, which are counts, and how many there are -/
def CtM (w : World) (B n : Nat) (F : Nat → Int) : Prop :=
  ∃ D : DataW Unit, w.ownsMap Try.prog 21 (plainElem Try.prog 2) B n D ∧ (∀ j, j < 27 → D.atKey (.int .i32 (keyN j)) (.lit (.int .i64 0)) = .lit (.int .i64 (F j))) ∧
    ∀ c : Int, Maps.has D (.int .i32 c) = true → ∃ j, j < 27 ∧ c = keyN j

set_option maxRecDepth 1000000 in
theorem CtM.look {w : World} {B n : Nat} {F : Nat → Int} (h : CtM w B n F) {j : Nat} (hj : j < 27) :
    (Instr.lookup 94 (.map (some B)) (.int .i32 (keyN j)) false).run Try.prog w = .ok (.int .i64 (F j)) w := by
  obtain ⟨D, hown, hat, _⟩ := h
  obtain ⟨c, hrun, hc, _⟩ := World.ownsMap.lookup_int hown lawK Try.underlying94 Try.underlying2 (zeroI w) (keyOf_int_mk Try.underlying21 (WalkArith.wf_i32 (n := (keyN j : Int)) (by have := keyN_lt j; omega)))
  rw [hat j hj] at hc
  injection hc with hc
  injection hc with _ hc
  rw [hrun, hc]

set_option maxRecDepth 1000000 in
theorem CtM.put {w : World} {B n : Nat} {F G : Nat → Int} (h : CtM w B n F) (hn : n < 1048576) {j : Nat} (hj : j < 27) {x : Int} (hx : 0 ≤ x ∧ x ≤ 9000000000000000000) (hG : G = fun i => if i = j then x else F i) :
    ∃ w', (Instr.mapUpdate 94 (.map (some B)) (.int .i32 (keyN j)) (.int .i64 x)).run Try.prog w = .ok () w' ∧ CtM w' B (n + 1) G ∧ w.grownBy w' (some B) := by
  obtain ⟨D, hown, hat, hhas⟩ := h
  obtain ⟨w', hrun, hown', hg⟩ := World.ownsMap.update hown lawK Try.underlying94 (by unfold maxLen; omega) (keyOf_int_mk Try.underlying21 (WalkArith.wf_i32 (n := (keyN j : Int)) (by have := keyN_lt j; omega))) (plainElem_int (H := Unit) (P := Try.prog) Try.underlying2 (a := x) (WalkArith.wf_i64 (by omega)))
  refine ⟨w', hrun, ⟨_, hown', fun i hi => ?_, fun c hc => ?_⟩, hg⟩
  · subst hG
    by_cases e : i = j
    · subst e
      rw [atKey_put_same hown.isMap (k := .int .i32 (keyN i)) trivial]; simp
    · rw [atKey_put_other (by intro h; injection h with _ h; exact e (keyN_inj hi hj (by omega))), hat i hi]; simp [e]
  · by_cases e : c = keyN j
    · exact ⟨j, hj, e⟩
    · rw [has_put_other (by intro h; injection h with _ h; exact e h)] at hc
      exact hhas c hc

theorem CtM.below {w w' : World} {B n : Nat} {F : Nat → Int} (h : CtM w B n F) (hb : Below w.heap.size w w') : CtM w' B n F := by
  obtain ⟨D, hown, h1, h2⟩ := h
  exact ⟨D, ownsMap_below hown hb, h1, h2⟩
theorem CtM.lt {w : World} {B n : Nat} {F : Nat → Int} (h : CtM w B n F) : B < w.heap.size := by
  obtain ⟨D, hown, _⟩ := h
  exact hown.lt

theorem CtM.iter {w : World} {B n b : Nat} {s : ByteArray} {p q : Nat} {F : Nat → Int} (h : CtM w B n F) (hk : w.heap[b]? = some (.stringIter s p)) : CtM (w.iterAt b s q) B n F := by
  obtain ⟨D, hown, h1, h2⟩ := h
  refine ⟨D, ownsMap_heap hown (Lib.iterAt_other w b B s q ?_), h1, h2⟩
  intro e
  obtain ⟨es, clock, hb, _⟩ := hown
  rw [e, hk] at hb
  cases hb

/-- how often letters are added -/
def addF (F : Nat → Int) (l : List UInt8) (x : Int) (j : Nat) : Int := F j + x * ltC l j

theorem addF_step (F : Nat → Int) (t : ByteArray) (k : Nat) (h : k < t.size) (x : Int) : addF F (t.data.toList.take (k + 1)) x = fun j => if j = ltI (t[k]'h) then addF F (t.data.toList.take k) x (ltI (t[k]'h)) + x else addF F (t.data.toList.take k) x j := by
  funext j
  have hs := congrFun (ltC_step t k h)
  unfold addF
  by_cases e : j = ltI (t[k]'h)
  · rw [hs j, if_pos e, if_pos e, e, Int.mul_add, Int.mul_one, Int.add_assoc]
  · rw [hs j, if_neg e, if_neg e]

/-- all that was stands but one map, and more may lie behind -/
def ButM (B : Nat) (w w' : World) : Prop := w.grownBy w' (some B)

theorem keyN_cap {b : UInt8} (h : 65 ≤ b.toNat ∧ b.toNat ≤ 90) : keyN (ltI b) = b.toNat := by
  unfold keyN ltI
  rw [if_pos h, if_pos (by omega)]; omega
theorem keyN_other {b : UInt8} (h : ¬ (65 ≤ b.toNat ∧ b.toNat ≤ 90)) : keyN (ltI b) = 43 := by
  unfold keyN ltI
  rw [if_neg h, if_neg (by omega)]

set_option maxHeartbeats 8000000 in
set_option maxRecDepth 1000000 in
theorem countLetters_is (B n : Nat) (F : Nat → Int) (t : ByteArray) (x : Int) (w : World) (hM : CtM w B n F) (hw : wordB t 32 = true) (hF : ∀ j, 0 ≤ F j ∧ F j ≤ 1000000000000000) (hx : 0 ≤ x ∧ x ≤ 1000000000000) (hn : n ≤ 100000) :
    Calls Try.prog 102 #[.map (some B), .string t, .int .i64 x] w fun e w' => e = .returned (.tuple #[]) ∧ Hid (CtM w' B (n + t.size) (addF F t.data.toList x)) ∧ Hid (w.grownBy w' (some B)) := by
  have hts := wordB_size hw
  have HW := Lib.hid hw
  have HF := Lib.hid hF
  have hBlt := hM.lt
  have HM := Lib.hid hM
  obtain ⟨x0, x1⟩ := hx
  clear hw hF hM
  go_enter Try.func102, Try.ntmps102
  go_wp2_with fail
  generalize hX : w.heap.size = X at *
  have HX := Lib.hid hX
  go_loopw [] (fun wr => ∃ pos : Nat, pos ≤ t.size ∧ wr.heap[X]? = some (.stringIter t pos) ∧ Hid (CtM wr B (n + pos) (addF F (t.data.toList.take pos) x)) ∧ Hid (w.grownBy wr (some B))) (fun wr => t.size - wr.iterPos X)
  case atStart =>
    subst hX
    refine ⟨0, Nat.zero_le _, World.iter_heap w t 0, ?_, World.grownBy_alloc w _ _⟩
    have e0 : addF F (t.data.toList.take 0) x = F := by funext j; simp [addF, ltC]
    rw [e0]
    exact HM.out.below ((Below.refl _ _).alloc (Nat.le_refl _) _)
  case round =>
    obtain ⟨pos, hpos, hit, hC, hG⟩ := hrel
    clear hX
    by_cases hlt : pos < t.size
    · have ha := wordB_at HW.out hlt
      have hnx : ∀ ty, (Instr.next (.pointer (some ⟨X, 0, none⟩)) true ty).run Try.prog wr = _ := fun ty => Lib.run_next_ascii_at wr X t pos ty hit hlt ha
      have hit2 := Lib.hid (Lib.iterAt_heap wr X t pos (pos + 1) hit)
      have hM2 := hC.out.iter (q := pos + 1) hit
      have hG2 : Hid (w.grownBy (wr.iterAt X t (pos + 1)) (some B)) := ⟨hG.out.os, hG.out.tape, hG.out.output, by rw [Lib.iterAt_size]; exact hG.out.size, fun i hi hne => (Lib.iterAt_other wr X i t (pos + 1) (by have := HX.out; omega)).trans (hG.out.block i hi hne)⟩
      have hXl : X < (wr.iterAt X t (pos + 1)).heap.size := (Array.getElem?_eq_some_iff.1 hit2.out).1
      have hlk := hM2.look (ltI_lt (t[pos]'hlt))
      have hl1 := ltC_le (t.data.toList.take pos) (ltI (t[pos]'hlt))
      have hl2 : (t.data.toList.take pos).length ≤ 32 := by simp; omega
      have hf := HF.out (ltI (t[pos]'hlt))
      have hb1 : 0 ≤ x * ltC (t.data.toList.take pos) (ltI (t[pos]'hlt)) := Int.mul_nonneg x0 hl1.1
      have hb2 : x * ltC (t.data.toList.take pos) (ltI (t[pos]'hlt)) ≤ 1000000000000 * 32 := Int.mul_le_mul x1 (by omega) hl1.1 (by decide)
      have hv : 0 ≤ addF F (t.data.toList.take pos) x (ltI (t[pos]'hlt)) ∧ addF F (t.data.toList.take pos) x (ltI (t[pos]'hlt)) ≤ 1100000000000000 := by unfold addF; omega
      have hitH := Lib.hid hit
      clear hit hl1 hl2 hf hb1 hb2 hC hG
      have HC0 := fun W => isCapital_is (t[pos]'hlt).toNat W (by omega)
      by_cases hcap : 65 ≤ (t[pos]'hlt).toNat ∧ (t[pos]'hlt).toNat ≤ 90
      · rw [capB_yes hcap.1 hcap.2] at HC0
        have HCap := Lib.hid HC0
        clear HC0
        obtain ⟨w6, hrun, hC6, hg6⟩ := CtM.put hM2 (by omega) (ltI_lt (t[pos]'hlt)) (x := addF F (t.data.toList.take pos) x (ltI (t[pos]'hlt)) + x) (by omega) (addF_step F t pos hlt x)
        have G6 : Hid (w.grownBy w6 (some B)) := hG2.out.trans hg6
        have I6 : Hid (w6.heap[X]? = some (.stringIter t (pos + 1))) := (hg6.block X hXl (by intro e; injection e with e; omega)).trans hit2.out
        have C6 : Hid (CtM w6 B (n + (pos + 1)) (addF F (t.data.toList.take (pos + 1)) x)) := hC6
        rw [keyN_cap hcap] at hlk hrun
        obtain ⟨v0, v1⟩ := hv
        clear hC6 hg6 hM2 hG2 hit2
        go_wp2_with (go_at_call 113; refine (HCap.out _).mono ?_; rintro e w' ⟨rfl, rfl⟩)
        go_roundw
        case rel => exact ⟨pos + 1, by omega, I6.out, C6, G6⟩
        case measure =>
          simp only [World.iterPos, I6.out, hitH.out]
          omega
      · rw [capB_no hcap] at HC0
        have HCap := Lib.hid HC0
        clear HC0
        obtain ⟨w6, hrun, hC6, hg6⟩ := CtM.put hM2 (by omega) (ltI_lt (t[pos]'hlt)) (x := addF F (t.data.toList.take pos) x (ltI (t[pos]'hlt)) + x) (by omega) (addF_step F t pos hlt x)
        have G6 : Hid (w.grownBy w6 (some B)) := hG2.out.trans hg6
        have I6 : Hid (w6.heap[X]? = some (.stringIter t (pos + 1))) := (hg6.block X hXl (by intro e; injection e with e; omega)).trans hit2.out
        have C6 : Hid (CtM w6 B (n + (pos + 1)) (addF F (t.data.toList.take (pos + 1)) x)) := hC6
        have hk43 : ((keyN (ltI (t[pos]'hlt)) : Nat) : Int) = 43 := by rw [keyN_other hcap]; rfl
        rw [hk43] at hlk hrun
        clear hk43
        obtain ⟨v0, v1⟩ := hv
        clear hC6 hg6 hM2 hG2 hit2
        go_wp2_with (go_at_call 113; refine (HCap.out _).mono ?_; rintro e w' ⟨rfl, rfl⟩)
        go_roundw
        case rel => exact ⟨pos + 1, by omega, I6.out, C6, G6⟩
        case measure =>
          simp only [World.iterPos, I6.out, hitH.out]
          omega
    · have hp : pos = t.size := by omega
      have hnx : ∀ ty, (Instr.next (.pointer (some ⟨X, 0, none⟩)) true ty).run Try.prog wr = _ := fun ty => Lib.run_next_end_at wr X t pos ty hit hlt
      have HC2 : Hid (CtM wr B (n + t.size) (addF F t.data.toList x)) := by
        have := hC.out
        rw [hp, List.take_of_length_le (by simp)] at this
        exact this
      clear hp hit hC
      go_wp2_with fail
      go_end0
      exact ⟨rfl, HC2, hG⟩

end Go.Proofs.Ytckhdbnoihieeaa
