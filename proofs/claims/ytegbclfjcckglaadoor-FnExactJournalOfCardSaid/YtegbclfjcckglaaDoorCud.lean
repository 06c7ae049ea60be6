/-
  What is proved here: how a text is cut at a byte, wholly, and the model's cutting as a walk. Conditions: the text has at most 1048576 bytes.
-/
import Derived.Test.YtegbclfjcckglaaDoorCutB
namespace Go.Proofs.YtegbclfjcckglaaDoor
open Go.RowKit

/-- the parts between commas -/
def cutD (d : UInt8) : List UInt8 → List (List UInt8)
  | [] => [[]]
  | c :: r => if c = d then [] :: cutD d r else match cutD d r with | [] => [[c]] | p :: ps => (c :: p) :: ps

theorem cutD_cons (d : UInt8) (l : List UInt8) : ∃ p ps, cutD d l = p :: ps := by
  cases l with
  | nil => exact ⟨_, _, rfl⟩
  | cons c r =>
    unfold cutD
    split
    · exact ⟨_, _, rfl⟩
    · split <;> exact ⟨_, _, rfl⟩

/-- without a comma -/
def plainD (d : UInt8) (p : List UInt8) : Prop := ∀ x ∈ p, x ≠ d

theorem cutD_comma (d : UInt8) (r : List UInt8) : cutD d (d :: r) = [] :: cutD d r := by rw [cutD, if_pos rfl]
theorem cutD_other {d c : UInt8} {r p : List UInt8} {ps : List (List UInt8)} (h : c ≠ d) (e : cutD d r = p :: ps) : cutD d (c :: r) = (c :: p) :: ps := by rw [cutD, if_neg h, e]

theorem cutD_end {d : UInt8} {p : List UInt8} (h : plainD d p) : cutD d p = [p] := by
  induction p with
  | nil => rfl
  | cons c p ih => exact cutD_other (h c (by simp)) (ih fun x hx => h x (by simp [hx]))
theorem cutD_hit {d : UInt8} {p : List UInt8} (h : plainD d p) (r : List UInt8) : cutD d (p ++ d :: r) = p :: cutD d r := by
  induction p with
  | nil => exact cutD_comma d r
  | cons c p ih => exact cutD_other (h c (by simp)) (ih fun x hx => h x (by simp [hx]))
theorem cutD_len (d : UInt8) (l : List UInt8) : (cutD d l).length ≤ l.length + 1 := by
  induction l with
  | nil => exact Nat.le_refl _
  | cons c r ih =>
    unfold cutD
    split
    · simp; omega
    · obtain ⟨p, ps, e⟩ := cutD_cons d r
      rw [e] at ih ⊢
      simp at ih ⊢; omega

theorem index_sep (d : UInt8) (l : List UInt8) : (Lib.index l [d] = -1 ∧ plainD d l) ∨ ∃ p r, l = p ++ d :: r ∧ plainD d p ∧ Lib.index l [d] = (p.length : Int) := by
  rw [Lib.index_one]
  induction l with
  | nil => left; exact ⟨rfl, fun x hx => by simp at hx⟩
  | cons c l ih =>
    unfold Lib.indexByte
    by_cases hc : c = d
    · right
      refine ⟨[], l, by rw [hc]; rfl, fun x hx => by simp at hx, ?_⟩
      rw [hc]; simp
    · have hcb : (c == d) = false := by simpa using hc
      rcases ih with ⟨h1, h2⟩ | ⟨p, r, rfl, h2, h3⟩
      · left
        exact ⟨by simp [hc, h1], fun x hx => (List.mem_cons.1 hx).elim (fun e => e ▸ hc) (h2 x)⟩
      · right
        refine ⟨c :: p, r, rfl, fun x hx => (List.mem_cons.1 hx).elim (fun e => e ▸ hc) (h2 x), ?_⟩
        simp [hc, h3]

/-- the parts as texts -/
def bytesD (l : List UInt8) : ByteArray := ⟨l.toArray⟩
theorem bytes_backD (s : ByteArray) : bytesD s.data.toList = s := rfl
theorem bytes_listD (l : List UInt8) : (bytesD l).data.toList = l := rfl
def cutBd (d : UInt8) (s : ByteArray) : List ByteArray := (cutD d s.data.toList).map bytesD

theorem list_backD (L : List ByteArray) : (L.map (·.data.toList)).map bytesD = L := by
  induction L with
  | nil => rfl
  | cons x L ih => rw [List.map_cons, List.map_cons, ih, bytes_backD]

/-- how far a text has been cut -/
def CutSd (d : UInt8) (s : ByteArray) (P : List ByteArray) (f k : Nat) : Prop :=
  (k ≤ s.size ∧ f ≤ k ∧ cutD d s.data.toList = P.map (·.data.toList) ++ cutD d (s.data.toList.drop f) ∧ plainD d ((s.data.toList.drop f).take (k - f))) ∨
  (k = s.size + 1 ∧ f = k ∧ cutD d s.data.toList = P.map (·.data.toList))

theorem drop_takeD (l : List UInt8) (f k : Nat) (h : f ≤ k) : l.drop f = (l.drop f).take (k - f) ++ l.drop k := by
  have := (List.take_append_drop (k - f) (l.drop f)).symm
  rwa [List.drop_drop, show f + (k - f) = k by omega] at this
theorem drop_atD (s : ByteArray) (k : Nat) (h : k < s.size) : s.data.toList.drop k = (s[k]'h) :: s.data.toList.drop (k + 1) := by
  rw [List.drop_eq_getElem_cons (by rw [size_list]; exact h)]; rfl

theorem CutSd.other {d : UInt8} {s : ByteArray} {P : List ByteArray} {f k : Nat} (h : CutSd d s P f k) (hk : k < s.size) (hc : ¬ s[k]'hk = d) : CutSd d s P f (k + 1) := by
  rcases h with ⟨h1, h2, h3, h4⟩ | ⟨h1, _⟩
  · left
    refine ⟨hk, by omega, h3, ?_⟩
    have e : (s.data.toList.drop f).take (k + 1 - f) = (s.data.toList.drop f).take (k - f) ++ [s[k]'hk] := by
      have hl : k - f < (s.data.toList.drop f).length := by rw [List.length_drop, size_list]; omega
      rw [show k + 1 - f = (k - f) + 1 by omega, List.take_succ_eq_append_getElem hl]
      congr 2
      rw [List.getElem_drop]
      show s.data.toList[f + (k - f)]'_ = s.data.toList[k]'_
      congr 1; omega
    rw [e]
    intro x hx
    rcases List.mem_append.1 hx with hx | hx
    · exact h4 x hx
    · rw [List.mem_singleton.1 hx]
      exact hc
  · omega
theorem CutSd.hit {d : UInt8} {s : ByteArray} {P : List ByteArray} {f k : Nat} (h : CutSd d s P f k) (hk : k < s.size) (hc : s[k]'hk = d) : CutSd d s (P ++ [s.extract f k]) (k + 1) (k + 1) := by
  rcases h with ⟨h1, h2, h3, h4⟩ | ⟨h1, _⟩
  · left
    refine ⟨hk, Nat.le_refl _, ?_, by rw [Nat.sub_self, List.take_zero]; intro x hx; simp at hx⟩
    rw [h3, drop_takeD _ f k h2, drop_atD s k hk, hc, cutD_hit h4, List.map_append, List.map_cons, List.map_nil, Lib.extract_data]
    simp
  · omega
theorem CutSd.last {d : UInt8} {s : ByteArray} {P : List ByteArray} {f : Nat} (h : CutSd d s P f s.size) : CutSd d s (P ++ [s.extract f s.size]) (s.size + 1) (s.size + 1) := by
  rcases h with ⟨h1, h2, h3, h4⟩ | ⟨h1, _⟩
  · right
    refine ⟨rfl, rfl, ?_⟩
    have e : (s.data.toList.drop f).take (s.size - f) = s.data.toList.drop f := List.take_of_length_le (by rw [List.length_drop, size_list]; exact Nat.le_refl _)
    rw [e] at h4
    rw [h3, cutD_end h4, List.map_append, List.map_cons, List.map_nil, Lib.extract_data, e]
  · omega
theorem CutSd.room {d : UInt8} {s : ByteArray} {P : List ByteArray} {f k : Nat} (h : CutSd d s P f k) : P.length ≤ s.size + 1 := by
  have hl := cutD_len d s.data.toList
  rw [size_list] at hl
  rcases h with ⟨_, _, h3, _⟩ | ⟨_, _, h3⟩
  · rw [h3, List.length_append, List.length_map] at hl; omega
  · rw [h3, List.length_map] at hl; exact hl
theorem CutSd.done {d : UInt8} {s : ByteArray} {P : List ByteArray} {f k : Nat} (h : CutSd d s P f k) (hk : s.size < k) : P = cutBd d s := by
  rcases h with ⟨h1, _⟩ | ⟨_, _, h3⟩
  · omega
  · unfold cutBd; rw [h3, list_backD]

set_option maxHeartbeats 1000000 in
theorem specCutD (d : UInt8) (n : Int) (hn : n = (d.toNat : Int)) (s : ByteArray) (hs : s.size ≤ 1048576) (w : World) :
    Calls Tryd.prog 95 #[.string s, .int .u8 n] w fun e w' => ∃ g c, e = .returned (.slice (some ⟨g, 0, none⟩) (cutBd d s).length c) ∧ Hid (OwnS w' w.heap.size (cutBd d s) g c) ∧ Hid (Below w.heap.size w w') := by
  obtain ⟨i0, hi, hz0, hz1, hz2⟩ := info_parts info_str2
  have HI := Lib.hid (And.intro hi (And.intro hz0 (And.intro hz1 hz2)))
  have O0 : Hid (OwnS (w.alloc (.cells #[] 9)) w.heap.size [] w.heap.size 0) := World.ownsRow_lit w #[] 0 (Nat.le_refl _) (by decide) rfl
  have B0 : Hid (Below w.heap.size w (w.alloc (.cells #[] 9))) := (Below.refl _ _).alloc (Nat.le_refl _) _
  have S0 : Hid (CutSd d s [] 0 0) := .inl ⟨Nat.zero_le _, Nat.le_refl _, by simp, by intro x hx; simp at hx⟩
  have HD := Lib.hid hn
  clear hi hz0 hz1 hz2 hn
  go_enter Tryd.func95, Tryd.ntmps95
  go_wp2
  generalize w.alloc (.cells #[] 9) = w1 at *
  generalize hG : w.heap.size = G at *
  have HG := Lib.hid hG
  clear hG
  go_loopw [5, 6, 7] (fun o q i wr => ∃ (P : List ByteArray) (f k g c : Nat), o = .slice (some ⟨g, 0, none⟩) P.length c ∧ q = .int .i64 f ∧ i = .int .i64 k ∧ f ≤ k ∧ k ≤ s.size + 1 ∧ P.length ≤ s.size + 1 ∧ Hid (CutSd d s P f k) ∧ Hid (OwnS wr G P g c) ∧ Hid (Below G w wr)) (fun _ _ i _ => s.size + 1 - (intOf i).toNat)
  case atStart => exact ⟨[], 0, 0, _, _, rfl, rfl, rfl, Nat.le_refl _, Nat.zero_le _, Nat.zero_le _, S0, O0, B0⟩
  case round =>
    obtain ⟨P, f, k, g, c, rfl, rfl, rfl, hfk, hk, hP, hS, hO, hB⟩ := hrel
    have hsz : Hid (G ≤ wr.heap.size) := by show G ≤ wr.heap.size; rw [← HG.out]; exact hB.out.size
    by_cases hle : k ≤ s.size
    · by_cases hlt : k < s.size
      · have hne : ((k : Int) == (s.size : Int)) = false := by simp; omega
        by_cases hc : s[k]'hlt = d
        · have hcb : (((s[k]'hlt).toNat : Int) == n) = true := by rw [hc, HD.out]; exact beq_self_eq_true _
          have N := Lib.hid (hS.out.hit hlt hc)
          have hroom := N.out.room
          simp only [List.length_append, List.length_singleton] at hroom
          clear hc hS
          go_wp2_with (at_builtin; refine wpList_append_own _ rfl _ _ 44 rfl G 9 i0 (.string ⟨#[]⟩) 1 16 Tryd.underlying44 HI.out.1 HI.out.2.1 HI.out.2.2.1 HI.out.2.2.2 rfl (by decide) _ _ (P.map Value.string) rfl (World.ownsRow.alloc hO.out _) ⟨wr.heap.size, 0, none⟩ 1 1 [.string (s.extract f k)] rfl rfl (World.ownsRow.cells (World.ownsRow_lit (base := G) (e := 9) (size := 1) wr #[.string (s.extract f k)] 1 hsz.out (by decide) rfl) rfl) (by intro u hu; rw [List.mem_singleton.1 hu]; rfl) (by unfold maxLen; omega) (by omega) (by simp; exact Nat.le_succ_of_le hsz.out) ?_)
          intro v' w2 h2 hg2 hv2
          obtain ⟨g2, c2, rfl, O2⟩ := OwnS.of (P := P ++ [s.extract f k]) (by rw [List.map_append]; exact h2) (by simp) hv2
          have HB2 := Lib.hid ((hB.out.alloc hsz.out _).grown hg2 (by simp; exact Nat.le_succ_of_le hsz.out) (fun q hq => by obtain rfl := Option.some.inj hq; exact (World.ownsRow.lt hO.out g rfl).1))
          have HO2 := Lib.hid O2
          clear hv2 hg2 h2 O2
          go_wp2_with fail
          go_roundw
          case rel => exact ⟨P ++ [s.extract f k], k + 1, k + 1, g2, c2, by first | rfl | simp, by first | rfl | go_num, by first | rfl | go_num, Nat.le_refl _, by omega, N.out.room, N, HO2, HB2⟩
          case measure => simp [intOf]; omega
        · have hcb : (((s[k]'hlt).toNat : Int) == n) = false := by rw [HD.out, beq_eq_false_iff_ne]; intro e; exact hc (UInt8.toNat_inj.1 (by omega))
          have N := Lib.hid (hS.out.other hlt hc)
          clear hc hS
          go_wp2_with fail
          go_roundw
          case rel => exact ⟨P, f, k + 1, g, c, rfl, rfl, by go_num, by omega, by omega, hP, N, hO, hB⟩
          case measure => simp [intOf]; omega
      · obtain rfl : k = s.size := by omega
        have heq : ((s.size : Int) == (s.size : Int)) = true := by simp
        have N := Lib.hid hS.out.last
        have hroom := N.out.room
        simp only [List.length_append, List.length_singleton] at hroom
        clear hS heq
        go_wp2_with (at_builtin; refine wpList_append_own _ rfl _ _ 44 rfl G 9 i0 (.string ⟨#[]⟩) 1 16 Tryd.underlying44 HI.out.1 HI.out.2.1 HI.out.2.2.1 HI.out.2.2.2 rfl (by decide) _ _ (P.map Value.string) rfl (World.ownsRow.alloc hO.out _) ⟨wr.heap.size, 0, none⟩ 1 1 [.string (s.extract f s.size)] rfl rfl (World.ownsRow.cells (World.ownsRow_lit (base := G) (e := 9) (size := 1) wr #[.string (s.extract f s.size)] 1 hsz.out (by decide) rfl) rfl) (by intro u hu; rw [List.mem_singleton.1 hu]; rfl) (by unfold maxLen; omega) (by omega) (by simp; exact Nat.le_succ_of_le hsz.out) ?_)
        intro v' w2 h2 hg2 hv2
        obtain ⟨g2, c2, rfl, O2⟩ := OwnS.of (P := P ++ [s.extract f s.size]) (by rw [List.map_append]; exact h2) (by simp) hv2
        have HB2 := Lib.hid ((hB.out.alloc hsz.out _).grown hg2 (by simp; exact Nat.le_succ_of_le hsz.out) (fun q hq => by obtain rfl := Option.some.inj hq; exact (World.ownsRow.lt hO.out g rfl).1))
        have HO2 := Lib.hid O2
        clear hv2 hg2 h2 O2
        go_wp2_with fail
        go_roundw
        case rel => exact ⟨P ++ [s.extract f s.size], s.size + 1, s.size + 1, g2, c2, by first | rfl | simp, by first | rfl | go_num, by first | rfl | go_num, Nat.le_refl _, by omega, N.out.room, N, HO2, HB2⟩
        case measure => simp [intOf]
    · have HP := Lib.hid (hS.out.done (by omega))
      go_wp2_with fail
      go_ret
      refine ⟨g, c, by rw [← HP.out]; rfl, ?_, by rw [HG.out]; exact hB⟩
      rw [← HP.out, HG.out]
      exact hO

end Go.Proofs.YtegbclfjcckglaaDoor
