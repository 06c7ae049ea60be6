/-
  What is proved here: the model's cutting of a text at commas, as a walk. Conditions: the text has at most 1048576 bytes.
-/
import Derived.Test.YtckhdbnoihieeaaDoorCut
namespace Go.Proofs.YtckhdbnoihieeaaDoor
open Go.RowKit

theorem size_list (s : ByteArray) : s.data.toList.length = s.size := by simp

/-- how far a text has been cut -/
def CutSt (s : ByteArray) (P : List ByteArray) (f k : Nat) : Prop :=
  (k ≤ s.size ∧ f ≤ k ∧ cutF s.data.toList = P.map (·.data.toList) ++ cutF (s.data.toList.drop f) ∧ plain ((s.data.toList.drop f).take (k - f))) ∨
  (k = s.size + 1 ∧ f = k ∧ cutF s.data.toList = P.map (·.data.toList))

theorem drop_take (l : List UInt8) (f k : Nat) (h : f ≤ k) : l.drop f = (l.drop f).take (k - f) ++ l.drop k := by
  have := (List.take_append_drop (k - f) (l.drop f)).symm
  rwa [List.drop_drop, show f + (k - f) = k by omega] at this
theorem drop_at (s : ByteArray) (k : Nat) (h : k < s.size) : s.data.toList.drop k = (s[k]'h) :: s.data.toList.drop (k + 1) := by
  rw [List.drop_eq_getElem_cons (by rw [size_list]; exact h)]; rfl

theorem CutSt.other {s : ByteArray} {P : List ByteArray} {f k : Nat} (h : CutSt s P f k) (hk : k < s.size) (hc : ¬ (s[k]'hk).toNat = 44) : CutSt s P f (k + 1) := by
  rcases h with ⟨h1, h2, h3, h4⟩ | ⟨h1, _⟩
  · left
    refine ⟨hk, by omega, h3, ?_⟩
    have e : (s.data.toList.drop f).take (k + 1 - f) = (s.data.toList.drop f).take (k - f) ++ [s[k]'hk] := by
      have hl : k - f < (s.data.toList.drop f).length := by rw [List.length_drop, size_list]; omega
      rw [show k + 1 - f = (k - f) + 1 by omega, List.take_succ_eq_append_getElem hl]
      congr 2
      rw [List.getElem_drop]
      show s.data.toList[f + (k - f)]'_ = s.data.toList[k]'_
      congr 1; omega
    rw [e]
    intro x hx
    rcases List.mem_append.1 hx with hx | hx
    · exact h4 x hx
    · rw [List.mem_singleton.1 hx]
      intro e; exact hc (by rw [e]; rfl)
  · omega
theorem CutSt.hit {s : ByteArray} {P : List ByteArray} {f k : Nat} (h : CutSt s P f k) (hk : k < s.size) (hc : (s[k]'hk).toNat = 44) : CutSt s (P ++ [s.extract f k]) (k + 1) (k + 1) := by
  rcases h with ⟨h1, h2, h3, h4⟩ | ⟨h1, _⟩
  · left
    refine ⟨hk, Nat.le_refl _, ?_, by rw [Nat.sub_self, List.take_zero]; intro x hx; simp at hx⟩
    have e44 : s[k]'hk = 44 := UInt8.toNat_inj.1 (by rw [hc]; rfl)
    rw [h3, drop_take _ f k h2, drop_at s k hk, e44, cutF_hit h4, List.map_append, List.map_cons, List.map_nil, Lib.extract_data]
    simp
  · omega
theorem CutSt.last {s : ByteArray} {P : List ByteArray} {f : Nat} (h : CutSt s P f s.size) : CutSt s (P ++ [s.extract f s.size]) (s.size + 1) (s.size + 1) := by
  rcases h with ⟨h1, h2, h3, h4⟩ | ⟨h1, _⟩
  · right
    refine ⟨rfl, rfl, ?_⟩
    have e : (s.data.toList.drop f).take (s.size - f) = s.data.toList.drop f := List.take_of_length_le (by rw [List.length_drop, size_list]; exact Nat.le_refl _)
    rw [e] at h4
    rw [h3, cutF_end h4, List.map_append, List.map_cons, List.map_nil, Lib.extract_data, e]
  · omega
theorem CutSt.room {s : ByteArray} {P : List ByteArray} {f k : Nat} (h : CutSt s P f k) : P.length ≤ s.size + 1 := by
  have hl := cutF_len s.data.toList
  rw [size_list] at hl
  rcases h with ⟨_, _, h3, _⟩ | ⟨_, _, h3⟩
  · rw [h3, List.length_append, List.length_map] at hl; omega
  · rw [h3, List.length_map] at hl; exact hl
theorem CutSt.done {s : ByteArray} {P : List ByteArray} {f k : Nat} (h : CutSt s P f k) (hk : s.size < k) : P = cutB s := by
  rcases h with ⟨h1, _⟩ | ⟨_, _, h3⟩
  · omega
  · unfold cutB; rw [h3, list_back]

/-- texts that the call owns -/
def OwnS (w : World) (G : Nat) (P : List ByteArray) (g c : Nat) : Prop := w.ownsRow G 9 1 (.slice (some ⟨g, 0, none⟩) P.length c) P.length (P.map Value.string)

theorem OwnS.of {w : World} {G n : Nat} {v : Value} {P : List ByteArray} (h : w.ownsRow G 9 1 v n (P.map Value.string)) (hn : n = P.length) (hv : v ≠ .slice none 0 0) : ∃ g c, v = .slice (some ⟨g, 0, none⟩) P.length c ∧ OwnS w G P g c := by
  subst hn
  rcases h.2 with ⟨h1, _⟩ | ⟨g, cap, cur, rfl, _⟩
  · exact absurd h1 hv
  · exact ⟨g, cap, rfl, h⟩
theorem OwnS.cell {w : World} {G g c : Nat} {P : List ByteArray} (h : OwnS w G P g c) {j : Nat} {x : ByteArray} (hx : P[j]? = some x) : w.cell? ⟨g, j, none⟩ = some (.string x) := by
  have hj : j < P.length := (List.getElem?_eq_some_iff.1 hx).1
  rw [World.ownsRow.cellAt h j (by omega), List.getElem?_map, hx]; rfl

theorem info_str2 : (Tryd.prog.info? 9).map (fun i => (i.zero, i.size, i.bytes)) = some (some (.string ⟨#[]⟩), 1, 16) := by kernel_rfl

set_option maxHeartbeats 1000000 in
theorem specCut (s : ByteArray) (hs : s.size ≤ 1048576) (w : World) :
    Calls Tryd.prog 64 #[.string s, .int .u8 44] w fun e w' => ∃ g c, e = .returned (.slice (some ⟨g, 0, none⟩) (cutB s).length c) ∧ Hid (OwnS w' w.heap.size (cutB s) g c) ∧ Hid (Below w.heap.size w w') := by
  obtain ⟨i0, hi, hz0, hz1, hz2⟩ := info_parts info_str2
  have HI := Lib.hid (And.intro hi (And.intro hz0 (And.intro hz1 hz2)))
  have O0 : Hid (OwnS (w.alloc (.cells #[] 9)) w.heap.size [] w.heap.size 0) := World.ownsRow_lit w #[] 0 (Nat.le_refl _) (by decide) rfl
  have B0 : Hid (Below w.heap.size w (w.alloc (.cells #[] 9))) := (Below.refl _ _).alloc (Nat.le_refl _) _
  have S0 : Hid (CutSt s [] 0 0) := .inl ⟨Nat.zero_le _, Nat.le_refl _, by simp, by intro x hx; simp at hx⟩
  clear hi hz0 hz1 hz2
  go_enter Tryd.func64, Tryd.ntmps64
  go_wp2
  generalize w.alloc (.cells #[] 9) = w1 at *
  generalize hG : w.heap.size = G at *
  have HG := Lib.hid hG
  clear hG
  go_loopw [5, 6, 7] (fun o q i wr => ∃ (P : List ByteArray) (f k g c : Nat), o = .slice (some ⟨g, 0, none⟩) P.length c ∧ q = .int .i64 f ∧ i = .int .i64 k ∧ f ≤ k ∧ k ≤ s.size + 1 ∧ P.length ≤ s.size + 1 ∧ Hid (CutSt s P f k) ∧ Hid (OwnS wr G P g c) ∧ Hid (Below G w wr)) (fun _ _ i _ => s.size + 1 - (intOf i).toNat)
  case atStart => exact ⟨[], 0, 0, _, _, rfl, rfl, rfl, Nat.le_refl _, Nat.zero_le _, Nat.zero_le _, S0, O0, B0⟩
  case round =>
    obtain ⟨P, f, k, g, c, rfl, rfl, rfl, hfk, hk, hP, hS, hO, hB⟩ := hrel
    have hsz : Hid (G ≤ wr.heap.size) := by show G ≤ wr.heap.size; rw [← HG.out]; exact hB.out.size
    by_cases hle : k ≤ s.size
    · by_cases hlt : k < s.size
      · have hne : ((k : Int) == (s.size : Int)) = false := by simp; omega
        by_cases hc : (s[k]'hlt).toNat = 44
        · have hcb : (((s[k]'hlt).toNat : Int) == 44) = true := by rw [hc]; rfl
          have N := Lib.hid (hS.out.hit hlt hc)
          have hroom := N.out.room
          simp only [List.length_append, List.length_singleton] at hroom
          clear hc hS
          go_wp2_with (at_builtin; refine wpList_append_own _ rfl _ _ 89 rfl G 9 i0 (.string ⟨#[]⟩) 1 16 Tryd.underlying89 HI.out.1 HI.out.2.1 HI.out.2.2.1 HI.out.2.2.2 rfl (by decide) _ _ (P.map Value.string) rfl (World.ownsRow.alloc hO.out _) ⟨wr.heap.size, 0, none⟩ 1 1 [.string (s.extract f k)] rfl rfl (World.ownsRow.cells (World.ownsRow_lit (base := G) (e := 9) (size := 1) wr #[.string (s.extract f k)] 1 hsz.out (by decide) rfl) rfl) (by intro u hu; rw [List.mem_singleton.1 hu]; rfl) (by unfold maxLen; omega) (by omega) (by simp; exact Nat.le_succ_of_le hsz.out) ?_)
          intro v' w2 h2 hg2 hv2
          obtain ⟨g2, c2, rfl, O2⟩ := OwnS.of (P := P ++ [s.extract f k]) (by rw [List.map_append]; exact h2) (by simp) hv2
          have HB2 := Lib.hid ((hB.out.alloc hsz.out _).grown hg2 (by simp; exact Nat.le_succ_of_le hsz.out) (fun q hq => by obtain rfl := Option.some.inj hq; exact (World.ownsRow.lt hO.out g rfl).1))
          have HO2 := Lib.hid O2
          clear hv2 hg2 h2 O2
          go_wp2_with fail
          go_roundw
          case rel => exact ⟨P ++ [s.extract f k], k + 1, k + 1, g2, c2, by first | rfl | simp, by first | rfl | go_num, by first | rfl | go_num, Nat.le_refl _, by omega, N.out.room, N, HO2, HB2⟩
          case measure => simp [intOf]; omega
        · have hcb : (((s[k]'hlt).toNat : Int) == 44) = false := by simp; omega
          have N := Lib.hid (hS.out.other hlt hc)
          clear hc hS
          go_wp2_with fail
          go_roundw
          case rel => exact ⟨P, f, k + 1, g, c, rfl, rfl, by go_num, by omega, by omega, hP, N, hO, hB⟩
          case measure => simp [intOf]; omega
      · obtain rfl : k = s.size := by omega
        have heq : ((s.size : Int) == (s.size : Int)) = true := by simp
        have N := Lib.hid hS.out.last
        have hroom := N.out.room
        simp only [List.length_append, List.length_singleton] at hroom
        clear hS heq
        go_wp2_with (at_builtin; refine wpList_append_own _ rfl _ _ 89 rfl G 9 i0 (.string ⟨#[]⟩) 1 16 Tryd.underlying89 HI.out.1 HI.out.2.1 HI.out.2.2.1 HI.out.2.2.2 rfl (by decide) _ _ (P.map Value.string) rfl (World.ownsRow.alloc hO.out _) ⟨wr.heap.size, 0, none⟩ 1 1 [.string (s.extract f s.size)] rfl rfl (World.ownsRow.cells (World.ownsRow_lit (base := G) (e := 9) (size := 1) wr #[.string (s.extract f s.size)] 1 hsz.out (by decide) rfl) rfl) (by intro u hu; rw [List.mem_singleton.1 hu]; rfl) (by unfold maxLen; omega) (by omega) (by simp; exact Nat.le_succ_of_le hsz.out) ?_)
        intro v' w2 h2 hg2 hv2
        obtain ⟨g2, c2, rfl, O2⟩ := OwnS.of (P := P ++ [s.extract f s.size]) (by rw [List.map_append]; exact h2) (by simp) hv2
        have HB2 := Lib.hid ((hB.out.alloc hsz.out _).grown hg2 (by simp; exact Nat.le_succ_of_le hsz.out) (fun q hq => by obtain rfl := Option.some.inj hq; exact (World.ownsRow.lt hO.out g rfl).1))
        have HO2 := Lib.hid O2
        clear hv2 hg2 h2 O2
        go_wp2_with fail
        go_roundw
        case rel => exact ⟨P ++ [s.extract f s.size], s.size + 1, s.size + 1, g2, c2, by first | rfl | simp, by first | rfl | go_num, by first | rfl | go_num, Nat.le_refl _, by omega, N.out.room, N, HO2, HB2⟩
        case measure => simp [intOf]
    · have HP := Lib.hid (hS.out.done (by omega))
      go_wp2_with fail
      go_ret
      refine ⟨g, c, by rw [← HP.out]; rfl, ?_, by rw [HG.out]; exact hB⟩
      rw [← HP.out, HG.out]
      exact hO

end Go.Proofs.YtckhdbnoihieeaaDoor
