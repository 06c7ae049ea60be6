/-
  What is proved here: words that are rewritten by the program, as a walk. Conditions: a valid grammar and a word.
-/
import Derived.Test.YtedmigemplojlaaLuk
import Derived.Test.YtedmigemplojlaaBld
import Derived.Test.YtedmigemplojlaaShelfB
import Derived.Lib.OthersKept
namespace Go.Proofs.Ytedmigemplojlaa
open Go.RowKit Go.Maps

set_option maxRecDepth 1000000 in
/-- the map's answer at a letter -/
theorem lookT {w : World} {B n : Nat} {ss : List ByteArray} (h : TxM w B n ss) (c : Nat) (hc : c < 256) :
    (Instr.lookup 84 (.map (some B)) (.int .i32 c) true).run Try.prog w = .ok (.tuple #[.string ((lk ss c n).getD ⟨#[]⟩), .bool (lk ss c n).isSome]) w := by
  obtain ⟨v, ps, hrun, hv⟩ := World.ownsMap.look_ok (zd := .lit (.string [])) (zp := []) h lawK Try.underlying84 (zeroS w) (by
    have := plainElem_string (H := Unit) (P := Try.prog) Try.underlying9 (s := ⟨#[]⟩) (by decide)
    simpa using this) (keyOf_int_mk Try.underlying21 (WalkArith.wf_i32 (n := (c : Int)) (by omega)))
  obtain ⟨s, rfl, hz, _⟩ := plainElem_string_inv Try.underlying9 hv
  rw [hrun, has_Dt]
  congr 4
  rw [at_Dt] at hz
  injection hz with hz _
  cases hl : lk ss c n with
  | none =>
    rw [hl] at hz
    injection hz with hz
    injection hz with hz
    exact congrArg Value.string (ByteArray.ext (Array.toList_inj.1 hz.symm))
  | some s0 =>
    rw [hl] at hz
    injection hz with hz
    injection hz with hz
    exact congrArg Value.string (ByteArray.ext (Array.toList_inj.1 hz.symm))

theorem lk_size {ss : List ByteArray} {b : Nat} (h : ∀ k, (txt ss k).size ≤ b) (c : Nat) : ∀ (n : Nat) (s : ByteArray), lk ss c n = some s → s.size ≤ b
  | 0, s, e => by cases e
  | n + 1, s, e => by
    unfold lk at e
    split at e
    · injection e with e; rw [← e]; exact h n
    · exact lk_size h c n s e

theorem wLet_small {n : Nat} (h : wLet n = true) : n < 128 := by
  by_cases g : n < 128
  · exact g
  · rw [wLet_high (by omega)] at h; exact Bool.noConfusion h
theorem wordB_at {t : ByteArray} {n k : Nat} (h : wordB t n = true) (hk : k < t.size) : (t[k]'hk).toNat < 128 := by
  unfold wordB at h
  simp at h
  exact wLet_small (h.2 ⟨k, hk⟩)

set_option maxHeartbeats 8000000 in
set_option maxRecDepth 1000000 in
theorem rewritten_is (B n : Nat) (ss : List ByteArray) (t : ByteArray) (w : World) (hM : TxM w B n ss) (hA : Asc ss n) (ht : wordB t 4000 = true) (hS : ∀ k, (txt ss k).size ≤ 1048576) :
    Calls Try.prog 70 #[.map (some B), .string t] w fun e w' => e = .returned (.tuple #[.string (onceT ss n t), .bool (onceB ss n t)]) ∧ Hid (Below w.heap.size w w') := by
  have HM := Lib.hid hM
  have HA := Lib.hid hA
  have HT := Lib.hid ht
  have HS := Lib.hid hS
  have hBlt := hM.lt
  have hts := wordB_size ht
  clear hM hA ht hS
  go_enter Try.func70, Try.ntmps70
  go_wp2_with fail
  generalize hX : w.heap.size = X at *
  have HX := Lib.hid hX
  go_loopw [] (fun wr => ∃ pos : Nat, pos ≤ t.size ∧ Hid (IsB X X (Lib.byteCells (rwTo ss n t pos)) wr) ∧ wr.heap[X + 1]? = some (.stringIter t pos) ∧ Hid (Below X w wr) ∧ (rwTo ss n t pos).length ≤ 4000) (fun wr => t.size - wr.iterPos (X + 1))
  case atStart =>
    subst hX
    refine ⟨0, Nat.zero_le _, (Lib.IsBuilderF.of (Lib.fresh_isBuilder 113 5 w)).alloc _, ?_, ((Below.refl _ w).alloc (Nat.le_refl _) _).alloc (by simp) _, by simp [rwTo]⟩
    have := World.iter_heap (w.alloc (.cells #[.pointer none, .slice none 0 0] 113)) t 0
    simpa using this
  case round =>
    obtain ⟨pos, hpos, hI, hit, hB, hlen⟩ := hrel
    clear hX
    by_cases hlt : pos < t.size
    · have ha := wordB_at HT.out hlt
      have hnx : ∀ ty, (Instr.next (.pointer (some ⟨X + 1, 0, none⟩)) true ty).run Try.prog wr = _ := fun ty => Lib.run_next_ascii_at wr (X + 1) t pos ty hit hlt ha
      have hI2 := Lib.hid (hI.out.iterAt hit (pos + 1))
      have hit2 := Lib.hid (Lib.iterAt_heap wr (X + 1) t pos (pos + 1) hit)
      have hB2 := Lib.hid (Lib.below_iterAt hB.out (k := X + 1) (by omega) t (pos + 1))
      have hM2 : TxM (wr.iterAt (X + 1) t (pos + 1)) B n ss := ownsMap_heap HM.out (hB2.out.block B hBlt)
      have hlk := lookT hM2 (t[pos]'hlt).toNat (by omega)
      have hN := rwTo_succ ss n t pos hlt
      rw [lk_tx HA.out] at hN
      clear hI hB hM2
      have hz : X ≤ (wr.iterAt (X + 1) t (pos + 1)).heap.size := by have h1 := hB2.out.size; have h2 := HX.out; omega
      have hbl : (Lib.byteCells (rwTo ss n t pos)).length ≤ 4000 := by rw [Lib.byteCells_length]; exact hlen
      have hitH := Lib.hid hit
      clear hit
      cases hl : lk ss (t[pos]'hlt).toNat n with
      | none =>
        rw [hl] at hlk hN
        have hN2 : Hid (Lib.byteCells (rwTo ss n t (pos + 1)) = Lib.byteCells (rwTo ss n t pos) ++ [.int .u8 (t[pos]'hlt).toNat]) := by
          show _ = _
          rw [hN, Lib.byteCells_append]; rfl
        have HC := Lib.hid (wr_rune X X _ (t[pos]'hlt).toNat ha _ hI2.out (by omega) hz)
        simp only [Option.getD_none, Option.isSome_none] at hlk
        clear hN hl hz hbl
        go_wp2_with fail
        refine HC.out.mono ?_
        rintro e w2 ⟨rfl, hW⟩
        clear hlk hnx HC

        have hI3 : IsB X X (Lib.byteCells (rwTo ss n t (pos + 1))) w2 := by rw [hN2.out]; exact hW.1
        have HLn := Try.Builder_Len_f X X _ w2 hI3
        rw [Lib.byteCells_length] at HLn
        have HL2 := Lib.hid HLn
        have HI3 := Lib.hid hI3
        have HB3 : Hid (Below X w w2) := hB2.out.trans hW.2.1
        have HIt := Lib.hid (hW.2.2.iter hit2.out (by omega))
        have HO := Lib.hid (fun h => once_no (ss := ss) (n := n) (t := t) (k := pos + 1) (by omega) h)
        clear hW HLn hI3 hN2
        by_cases h4 : (rwTo ss n t (pos + 1)).length ≤ 4000
        · go_wp2_with (go_at_call 96; refine HL2.out.mono ?_; rintro e w' ⟨rfl, rfl⟩)
          go_roundw
          case rel => exact ⟨pos + 1, by omega, HI3, HIt.out, HB3, h4⟩
          case measure =>
            simp only [World.iterPos, HIt.out, hitH.out]
            omega
        · have N1 : Hid (onceB ss n t = false) := (HO.out (by omega)).1
          have N2 : Hid (onceT ss n t = ⟨#[]⟩) := (HO.out (by omega)).2
          go_wp2_with (go_at_call 96; refine HL2.out.mono ?_; rintro e w' ⟨rfl, rfl⟩)
          go_ret2
          exact ⟨by rw [N1.out, N2.out]; rfl, by rw [HX.out]; exact HB3⟩
      | some s0 =>
        rw [hl] at hlk hN
        have hN2 : Hid (Lib.byteCells (rwTo ss n t (pos + 1)) = Lib.byteCells (rwTo ss n t pos) ++ Lib.strCells s0) := by
          show _ = _
          rw [hN, Lib.byteCells_append, Lib.strCells_eq]; rfl
        have hs0 : s0.size ≤ 1048576 := lk_size HS.out _ _ _ hl
        have HC := Lib.hid (wr_string X X _ s0 _ hI2.out (by omega) hz)
        simp only [Option.getD_some, Option.isSome_some] at hlk
        clear hN hl hz hbl
        go_wp2_with fail
        refine HC.out.mono ?_
        rintro e w2 ⟨rfl, hW⟩
        clear hlk hnx HC

        have hI3 : IsB X X (Lib.byteCells (rwTo ss n t (pos + 1))) w2 := by rw [hN2.out]; exact hW.1
        have HLn := Try.Builder_Len_f X X _ w2 hI3
        rw [Lib.byteCells_length] at HLn
        have HL2 := Lib.hid HLn
        have HI3 := Lib.hid hI3
        have HB3 : Hid (Below X w w2) := hB2.out.trans hW.2.1
        have HIt := Lib.hid (hW.2.2.iter hit2.out (by omega))
        have HO := Lib.hid (fun h => once_no (ss := ss) (n := n) (t := t) (k := pos + 1) (by omega) h)
        clear hW HLn hI3 hN2
        by_cases h4 : (rwTo ss n t (pos + 1)).length ≤ 4000
        · go_wp2_with (go_at_call 96; refine HL2.out.mono ?_; rintro e w' ⟨rfl, rfl⟩)
          go_roundw
          case rel => exact ⟨pos + 1, by omega, HI3, HIt.out, HB3, h4⟩
          case measure =>
            simp only [World.iterPos, HIt.out, hitH.out]
            omega
        · have N1 : Hid (onceB ss n t = false) := (HO.out (by omega)).1
          have N2 : Hid (onceT ss n t = ⟨#[]⟩) := (HO.out (by omega)).2
          go_wp2_with (go_at_call 96; refine HL2.out.mono ?_; rintro e w' ⟨rfl, rfl⟩)
          go_ret2
          exact ⟨by rw [N1.out, N2.out]; rfl, by rw [HX.out]; exact HB3⟩
    · have hnx : ∀ ty, (Instr.next (.pointer (some ⟨X + 1, 0, none⟩)) true ty).run Try.prog wr = _ := fun ty => Lib.run_next_end_at wr (X + 1) t pos ty hit hlt
      have hp : pos = t.size := by omega
      have N := once_yes (ss := ss) (n := n) (t := t) (by rw [← hp]; exact hlen)
      have N1 : Hid (onceB ss n t = true) := N.1
      have N2 : Hid (onceT ss n t = ⟨(rwTo ss n t pos).toArray⟩) := by rw [hp]; exact N.2
      have HC := Lib.hid (Try.Builder_String_any_k X X _ wr hI.out (by rw [← HX.out]; exact hB.out.size))
      clear N hp hit
      go_wp2_with fail
      refine HC.out.mono ?_
      rintro e w1 ⟨rfl, _, hb1, _⟩
      have HE : Hid (Below X w w1) := hB.out.trans hb1
      clear hb1 HC
      go_wp2_with fail
      go_ret2
      exact ⟨by rw [N1.out, N2.out]; rfl, by rw [HX.out]; exact HE⟩

end Go.Proofs.Ytedmigemplojlaa
