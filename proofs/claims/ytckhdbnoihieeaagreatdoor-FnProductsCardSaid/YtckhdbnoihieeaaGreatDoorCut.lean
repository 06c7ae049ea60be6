/-
  What is proved here: how a text is cut at commas, wholly or at most so many times. Conditions: as each theorem names. Own text; no dump.
-/
import Derived.Test.YtckhdbnoihieeaaGreatDoorRdA
import Derived.Lib.Split
import Derived.Lib.IndexBytes
namespace Go.Proofs.YtckhdbnoihieeaaGreatDoor

/-- the parts between commas -/
def cutF : List UInt8 → List (List UInt8)
  | [] => [[]]
  | c :: r => if c = 44 then [] :: cutF r else match cutF r with | [] => [[c]] | p :: ps => (c :: p) :: ps

theorem cutF_cons (l : List UInt8) : ∃ p ps, cutF l = p :: ps := by
  cases l with
  | nil => exact ⟨_, _, rfl⟩
  | cons c r =>
    unfold cutF
    split
    · exact ⟨_, _, rfl⟩
    · split <;> exact ⟨_, _, rfl⟩

/-- without a comma -/
def plain (p : List UInt8) : Prop := ∀ x ∈ p, x ≠ 44

theorem cutF_comma (r : List UInt8) : cutF (44 :: r) = [] :: cutF r := by rw [cutF, if_pos rfl]
theorem cutF_other {c : UInt8} {r p : List UInt8} {ps : List (List UInt8)} (h : c ≠ 44) (e : cutF r = p :: ps) : cutF (c :: r) = (c :: p) :: ps := by rw [cutF, if_neg h, e]

theorem cutF_end {p : List UInt8} (h : plain p) : cutF p = [p] := by
  induction p with
  | nil => rfl
  | cons c p ih => exact cutF_other (h c (by simp)) (ih fun x hx => h x (by simp [hx]))
theorem cutF_hit {p : List UInt8} (h : plain p) (r : List UInt8) : cutF (p ++ 44 :: r) = p :: cutF r := by
  induction p with
  | nil => exact cutF_comma r
  | cons c p ih => exact cutF_other (h c (by simp)) (ih fun x hx => h x (by simp [hx]))
theorem cutF_len (l : List UInt8) : (cutF l).length ≤ l.length + 1 := by
  induction l with
  | nil => exact Nat.le_refl _
  | cons c r ih =>
    unfold cutF
    split
    · simp; omega
    · obtain ⟨p, ps, e⟩ := cutF_cons r
      rw [e] at ih ⊢
      simp at ih ⊢; omega

theorem index_comma (l : List UInt8) : (Lib.index l [44] = -1 ∧ plain l) ∨ ∃ p r, l = p ++ 44 :: r ∧ plain p ∧ Lib.index l [44] = (p.length : Int) := by
  rw [Lib.index_one]
  induction l with
  | nil => left; exact ⟨rfl, fun x hx => by simp at hx⟩
  | cons c l ih =>
    unfold Lib.indexByte
    by_cases hc : c = 44
    · right
      refine ⟨[], l, by rw [hc]; rfl, fun x hx => by simp at hx, ?_⟩
      rw [hc]; simp
    · have hcb : (c == 44) = false := by simpa using hc
      rcases ih with ⟨h1, h2⟩ | ⟨p, r, rfl, h2, h3⟩
      · left
        exact ⟨by simp [hc, h1], fun x hx => (List.mem_cons.1 hx).elim (fun e => e ▸ hc) (h2 x)⟩
      · right
        refine ⟨c :: p, r, rfl, fun x hx => (List.mem_cons.1 hx).elim (fun e => e ▸ hc) (h2 x), ?_⟩
        simp [hc, h3]

theorem split_cut : ∀ (k : Nat) (l : List UInt8), ((cutF l).length ≤ k + 1 → Lib.splitK [44] 0 k l = cutF l) ∧ (k + 1 < (cutF l).length → (Lib.splitK [44] 0 k l).length = k + 1)
  | 0, l => by
    refine ⟨fun h => ?_, fun _ => rfl⟩
    show [l] = cutF l
    rcases index_comma l with ⟨_, h2⟩ | ⟨p, r, rfl, h2, _⟩
    · exact (cutF_end h2).symm
    · rw [cutF_hit h2] at h
      obtain ⟨q, qs, e⟩ := cutF_cons r
      rw [e] at h; simp at h
  | k + 1, l => by
    rcases index_comma l with ⟨h1, h2⟩ | ⟨p, r, rfl, h2, h3⟩
    · have e : Lib.splitK [44] 0 (k + 1) l = [l] := by unfold Lib.splitK; rw [h1]; rfl
      rw [e, cutF_end h2]
      exact ⟨fun _ => rfl, fun h => by simp at h⟩
    · have e : Lib.splitK [44] 0 (k + 1) (p ++ 44 :: r) = p :: Lib.splitK [44] 0 k r := by
        rw [Lib.splitK, h3, if_neg (by simp), Int.toNat_natCast, Nat.add_zero, List.take_left]
        congr 2
        rw [show p ++ 44 :: r = (p ++ [44]) ++ r by simp, List.drop_left' (by simp)]
      rw [e, cutF_hit h2]
      obtain ⟨g1, g2⟩ := split_cut k r
      refine ⟨fun h => ?_, fun h => ?_⟩
      · rw [g1 (by simp at h; omega)]
      · rw [List.length_cons, g2 (by simp at h; omega)]

/-- the parts as texts -/
def bytes (l : List UInt8) : ByteArray := ⟨l.toArray⟩
theorem bytes_back (s : ByteArray) : bytes s.data.toList = s := rfl
theorem bytes_list (l : List UInt8) : (bytes l).data.toList = l := rfl
def cutB (s : ByteArray) : List ByteArray := (cutF s.data.toList).map bytes

theorem list_back (L : List ByteArray) : (L.map (·.data.toList)).map bytes = L := by
  induction L with
  | nil => rfl
  | cons x L ih => rw [List.map_cons, List.map_cons, ih, bytes_back]

theorem split_parts (s : ByteArray) (k : Nat) : ((cutB s).length ≤ k + 1 → Lib.splitB ⟨#[44]⟩ 0 k s = cutB s) ∧ (k + 1 < (cutB s).length → (Lib.splitB ⟨#[44]⟩ 0 k s).length = k + 1) := by
  have e := Lib.splitB_data ⟨#[44]⟩ 0 k s
  have e2 : Lib.splitB ⟨#[44]⟩ 0 k s = (Lib.splitK [44] 0 k s.data.toList).map bytes := by
    rw [← list_back (Lib.splitB ⟨#[44]⟩ 0 k s), e]
  obtain ⟨g1, g2⟩ := split_cut k s.data.toList
  unfold cutB
  rw [List.length_map, e2]
  exact ⟨fun h => by rw [g1 h], fun h => by rw [List.length_map, g2 h]⟩

/-- at most 65 parts are asked for -/
theorem split_most (s : ByteArray) (most : Nat) : ((cutB s).length ≤ most → Lib.splitB ⟨#[44]⟩ 0 (min (most + 1) (s.size + 1) - 1) s = cutB s) ∧ (most < (cutB s).length → (Lib.splitB ⟨#[44]⟩ 0 (min (most + 1) (s.size + 1) - 1) s).length = most + 1) := by
  have hl : (cutB s).length ≤ s.size + 1 := by
    unfold cutB; rw [List.length_map]
    have := cutF_len s.data.toList
    rwa [← Lib.size_eq] at this
  by_cases h : most ≤ s.size
  · rw [show min (most + 1) (s.size + 1) - 1 = most by omega]
    obtain ⟨g1, g2⟩ := split_parts s most
    refine ⟨fun h => g1 (by omega), fun h => ?_⟩
    rcases Nat.lt_or_ge (most + 1) (cutB s).length with h2 | h2
    · exact g2 h2
    · rw [g1 h2]; omega
  · rw [show min (most + 1) (s.size + 1) - 1 = s.size by omega]
    obtain ⟨g1, _⟩ := split_parts s s.size
    exact ⟨fun _ => g1 hl, fun h2 => by omega⟩

/-! a list of integers, read -/
def noneT : List UInt8 := [110, 111, 110, 101]
def rdNs (ps : List ByteArray) : List Int := ps.map fun p => (decR p.data.toList).getD 0
def rdOk (ps : List ByteArray) : Bool := ps.all fun p => (decR p.data.toList).isSome
def liB (s : ByteArray) : Bool := if s.data.toList = noneT then true else decide ((cutB s).length ≤ 64) && rdOk (cutB s)
def liL (s : ByteArray) : List Int := if s.data.toList = noneT then [] else if liB s = true then rdNs (cutB s) else []

end Go.Proofs.YtckhdbnoihieeaaGreatDoor
