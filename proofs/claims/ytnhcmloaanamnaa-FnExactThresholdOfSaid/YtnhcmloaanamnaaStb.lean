/-
  What is proved here: what a stable sort by insertions and by merges with rotations makes of tags in a row: a key orders them, equal keys by the tags themselves. Conditions: none but those that each theorem names.
-/
import Derived.Test.YtnhcmloaanamnaaInts
namespace Go.Proofs.Ytnhcmloaanamnaa
set_option linter.unusedVariables false

/-- before: by the key, then by the tag -/
def sLt (K : Nat → Int) (x y : Nat) : Prop := K x < K y ∨ (K x = K y ∧ x < y)
theorem sLt.trans {K : Nat → Int} {x y z : Nat} (h : sLt K x y) (g : sLt K y z) : sLt K x z := by unfold sLt at *; omega
theorem sLt.irr {K : Nat → Int} {x : Nat} (h : sLt K x x) : False := by unfold sLt at h; omega
theorem sLt.of_lt {K : Nat → Int} {x y : Nat} (h : K x < K y) : sLt K x y := .inl h
theorem sLt.of_tag {K : Nat → Int} {x y : Nat} (h : ¬ K y < K x) (g : x < y) : sLt K x y := by unfold sLt; omega
theorem sLt.not {K : Nat → Int} {x y : Nat} (h : sLt K x y) : ¬ sLt K y x := fun g => (h.trans g).irr
theorem sLt.tot {K : Nat → Int} {x y : Nat} (h : x ≠ y) : sLt K x y ∨ sLt K y x := by unfold sLt; omega
/-- in order, from a to b -/
def sSrt (K : Nat → Int) (f : Nat → Nat) (a b : Nat) : Prop := ∀ i j, a ≤ i → i < j → j < b → sLt K (f i) (f j)
/-- the same tags, in another order, from a to b -/
structure sSam (f g : Nat → Nat) (a b : Nat) : Prop where
  out : ∀ j, ¬ (a ≤ j ∧ j < b) → g j = f j
  fro : ∀ j, a ≤ j → j < b → ∃ i, a ≤ i ∧ i < b ∧ g j = f i
  to : ∀ j, a ≤ j → j < b → ∃ i, a ≤ i ∧ i < b ∧ f j = g i
theorem sSam.refl (f : Nat → Nat) (a b : Nat) : sSam f f a b := ⟨fun _ _ => rfl, fun j h1 h2 => ⟨j, h1, h2, rfl⟩, fun j h1 h2 => ⟨j, h1, h2, rfl⟩⟩
theorem sSam.trans {f g h : Nat → Nat} {a b : Nat} (p : sSam f g a b) (q : sSam g h a b) : sSam f h a b :=
  ⟨fun j hj => (q.out j hj).trans (p.out j hj), fun j h1 h2 => by
    obtain ⟨i, i1, i2, e⟩ := q.fro j h1 h2
    obtain ⟨k, k1, k2, e2⟩ := p.fro i i1 i2
    exact ⟨k, k1, k2, e.trans e2⟩, fun j h1 h2 => by
    obtain ⟨i, i1, i2, e⟩ := p.to j h1 h2
    obtain ⟨k, k1, k2, e2⟩ := q.to i i1 i2
    exact ⟨k, k1, k2, e.trans e2⟩⟩
theorem sSam.wide {f g : Nat → Nat} {a b c d : Nat} (p : sSam f g a b) (h1 : c ≤ a) (h2 : b ≤ d) : sSam f g c d :=
  ⟨fun j hj => p.out j (by omega), fun j j1 j2 => by
    by_cases h : a ≤ j ∧ j < b
    · obtain ⟨i, i1, i2, e⟩ := p.fro j h.1 h.2
      exact ⟨i, by omega, by omega, e⟩
    · exact ⟨j, j1, j2, p.out j h⟩, fun j j1 j2 => by
    by_cases h : a ≤ j ∧ j < b
    · obtain ⟨i, i1, i2, e⟩ := p.to j h.1 h.2
      exact ⟨i, by omega, by omega, e⟩
    · exact ⟨j, j1, j2, (p.out j h).symm⟩⟩
theorem sSrt.sub {K : Nat → Int} {f : Nat → Nat} {a b c d : Nat} (h : sSrt K f a b) (h1 : a ≤ c) (h2 : d ≤ b) : sSrt K f c d := fun i j i1 ij jd => h i j (by omega) ij (by omega)
theorem sSrt.ext {K : Nat → Int} {f g : Nat → Nat} {a b : Nat} (h : sSrt K f a b) (e : ∀ j, a ≤ j → j < b → g j = f j) : sSrt K g a b := fun i j i1 ij jb => by
  rw [e i i1 (by omega), e j (by omega) jb]; exact h i j i1 ij jb
/-- two that hold all tags below n in order are the same -/
theorem sSrt.uniq {K : Nat → Int} {f g : Nat → Nat} {n : Nat} (hf : sSrt K f 0 n) (hg : sSrt K g 0 n) (tf : ∀ x, x < n → ∃ j, j < n ∧ f j = x) (tg : ∀ x, x < n → ∃ j, j < n ∧ g j = x) (bf : ∀ j, j < n → f j < n) (bg : ∀ j, j < n → g j < n) : ∀ j, j < n → f j = g j := by
  intro j
  induction j using Nat.strongRecOn with
  | ind j ih =>
    intro hj
    apply Classical.byContradiction
    intro hne
    rcases sLt.tot (K := K) hne with h | h
    · obtain ⟨k, hk, e⟩ := tg (f j) (bf j hj)
      by_cases hkj : k < j
      · have := ih k hkj hk
        rw [e] at this
        have h2 := hf k j (Nat.zero_le _) hkj hj
        rw [this] at h2
        exact h2.irr
      · by_cases e2 : k = j
        · rw [e2] at e; exact hne e.symm
        · have := hg j k (Nat.zero_le _) (by omega) hk
          rw [e] at this
          exact this.not h
    · obtain ⟨k, hk, e⟩ := tf (g j) (bg j hj)
      by_cases hkj : k < j
      · have := ih k hkj hk
        rw [e] at this
        have h2 := hg k j (Nat.zero_le _) hkj hj
        rw [← this] at h2
        exact h2.irr
      · by_cases e2 : k = j
        · rw [e2] at e; exact hne e
        · have := hf j k (Nat.zero_le _) (by omega) hk
          rw [e] at this
          exact this.not h

/-! one tag moves down, or up -/
def sSw (f : Nat → Nat) (p q : Nat) (k : Nat) : Nat := if k = p then f q else if k = q then f p else f k
def sMv (f : Nat → Nat) (i j : Nat) (k : Nat) : Nat := if k < j then f k else if k = j then f i else if k ≤ i then f (k - 1) else f k
theorem sMv_start (f : Nat → Nat) (i : Nat) : sMv f i i = f := by
  funext k
  unfold sMv
  repeat' split
  all_goals first | rfl | (congr 1; omega) | omega
theorem sMv_step {f : Nat → Nat} {i j : Nat} (h0 : 0 < j) (hj : j ≤ i) : sSw (sMv f i j) j (j - 1) = sMv f i (j - 1) := by
  funext k
  unfold sSw sMv
  repeat' split
  all_goals first | rfl | (congr 1; omega) | omega
theorem sMv_sam {f : Nat → Nat} {a i j : Nat} (h1 : a ≤ j) (h2 : j ≤ i) : sSam f (sMv f i j) a (i + 1) := by
  refine ⟨fun k hk => ?_, fun k k1 k2 => ?_, fun k k1 k2 => ?_⟩
  · unfold sMv
    repeat' split
    all_goals first | rfl | (exfalso; omega)
  · by_cases e1 : k < j
    · exact ⟨k, k1, k2, by unfold sMv; rw [if_pos e1]⟩
    · by_cases e2 : k = j
      · exact ⟨i, by omega, by omega, by unfold sMv; rw [if_neg e1, if_pos e2]⟩
      · exact ⟨k - 1, by omega, by omega, by unfold sMv; rw [if_neg e1, if_neg e2, if_pos (by omega)]⟩
  · by_cases e1 : k < j
    · exact ⟨k, k1, k2, by unfold sMv; rw [if_pos e1]⟩
    · by_cases e2 : k = i
      · exact ⟨j, by omega, by omega, by unfold sMv; rw [if_neg (by omega), if_pos rfl, e2]⟩
      · exact ⟨k + 1, by omega, by omega, by unfold sMv; rw [if_neg (by omega), if_neg (by omega), if_pos (by omega)]; rfl⟩
theorem sMv_srt {K : Nat → Int} {f : Nat → Nat} {a i j : Nat} (h1 : a ≤ j) (h2 : j ≤ i) (hs : sSrt K f a i) (ht : ∀ k, a ≤ k → k < i → f k < f i) (hg : ∀ k, j ≤ k → k < i → K (f i) < K (f k)) (hl : j = a ∨ ¬ K (f i) < K (f (j - 1))) : sSrt K (sMv f i j) a (i + 1) := by
  have below : ∀ k, a ≤ k → k < j → sLt K (f k) (f i) := fun k k1 k2 => by
    rcases hl with rfl | hl
    · omega
    · have hb : sLt K (f (j - 1)) (f i) := sLt.of_tag hl (ht _ (by omega) (by omega))
      by_cases e : k = j - 1
      · rw [e]; exact hb
      · exact (hs k (j - 1) k1 (by omega) (by omega)).trans hb
  intro p q p1 pq q2
  unfold sMv
  by_cases ep : p < j
  · rw [if_pos ep]
    by_cases eq : q < j
    · rw [if_pos eq]; exact hs p q p1 pq (by omega)
    · rw [if_neg eq]
      by_cases eq2 : q = j
      · rw [if_pos eq2]; exact below p p1 ep
      · rw [if_neg eq2, if_pos (by omega)]; exact hs p (q - 1) p1 (by omega) (by omega)
  · rw [if_neg ep, if_neg (by omega : ¬ q < j), if_neg (by omega : ¬ q = j), if_pos (by omega : q ≤ i)]
    by_cases ep2 : p = j
    · rw [if_pos ep2]; exact .inl (hg (q - 1) (by omega) (by omega))
    · rw [if_neg ep2, if_pos (by omega : p ≤ i)]; exact hs (p - 1) (q - 1) (by omega) (by omega) (by omega)
/-- up: the tag at a goes to p -/
def sMu (f : Nat → Nat) (a p : Nat) (k : Nat) : Nat := if k < a then f k else if k < p then f (k + 1) else if k = p then f a else f k
theorem sMu_start (f : Nat → Nat) (a : Nat) : sMu f a a = f := by
  funext k
  unfold sMu
  repeat' split
  all_goals first | rfl | (congr 1; omega) | (exfalso; omega)
theorem sMu_step {f : Nat → Nat} {a p : Nat} (h : a ≤ p) : sSw (sMu f a p) p (p + 1) = sMu f a (p + 1) := by
  funext k
  unfold sSw sMu
  repeat' split
  all_goals first | rfl | (congr 1; omega) | (exfalso; omega)
theorem sMu_sam {f : Nat → Nat} {a p b : Nat} (h1 : a ≤ p) (h2 : p < b) : sSam f (sMu f a p) a b := by
  refine ⟨fun k hk => ?_, fun k k1 k2 => ?_, fun k k1 k2 => ?_⟩
  · unfold sMu
    repeat' split
    all_goals first | rfl | (exfalso; omega)
  · by_cases e1 : k < p
    · exact ⟨k + 1, by omega, by omega, by unfold sMu; rw [if_neg (by omega), if_pos e1]⟩
    · by_cases e2 : k = p
      · exact ⟨a, by omega, by omega, by unfold sMu; rw [if_neg (by omega), if_neg e1, if_pos e2]⟩
      · exact ⟨k, by omega, by omega, by unfold sMu; rw [if_neg (by omega), if_neg e1, if_neg e2]⟩
  · by_cases e1 : k = a
    · exact ⟨p, by omega, by omega, by unfold sMu; rw [if_neg (by omega), if_neg (by omega), if_pos rfl, e1]⟩
    · by_cases e2 : k ≤ p
      · exact ⟨k - 1, by omega, by omega, by unfold sMu; rw [if_neg (by omega), if_pos (by omega)]; congr 1; omega⟩
      · exact ⟨k, by omega, by omega, by unfold sMu; rw [if_neg (by omega), if_neg (by omega), if_neg (by omega)]⟩
theorem sMu_srt {K : Nat → Int} {f : Nat → Nat} {a p b : Nat} (h1 : a ≤ p) (h2 : p < b) (hs : sSrt K f (a + 1) b) (ht : ∀ k, a < k → k < b → f a < f k) (hg : ∀ k, a < k → k ≤ p → K (f k) < K (f a)) (hl : p + 1 = b ∨ ¬ K (f (p + 1)) < K (f a)) : sSrt K (sMu f a p) a b := by
  have above : ∀ k, p < k → k < b → sLt K (f a) (f k) := fun k k1 k2 => by
    rcases hl with e | hl
    · omega
    · have hb : sLt K (f a) (f (p + 1)) := sLt.of_tag hl (ht _ (by omega) (by omega))
      by_cases e : k = p + 1
      · rw [e]; exact hb
      · exact hb.trans (hs (p + 1) k (by omega) (by omega) k2)
  intro x y x1 xy y2
  unfold sMu
  rw [if_neg (by omega : ¬ x < a), if_neg (by omega : ¬ y < a)]
  by_cases ex : x < p
  · rw [if_pos ex]
    by_cases ey : y < p
    · rw [if_pos ey]; exact hs (x + 1) (y + 1) (by omega) (by omega) (by omega)
    · rw [if_neg ey]
      by_cases ey2 : y = p
      · rw [if_pos ey2]; exact .inl (hg (x + 1) (by omega) (by omega))
      · rw [if_neg ey2]; exact hs (x + 1) y (by omega) (by omega) y2
  · rw [if_neg ex, if_neg (by omega : ¬ y < p), if_neg (by omega : ¬ y = p)]
    by_cases ex2 : x = p
    · rw [if_pos ex2]; exact above y (by omega) y2
    · rw [if_neg ex2]; exact hs x y (by omega) xy y2

/-! ranges swapped, rotated -/
def sSr (f : Nat → Nat) (a b n : Nat) (k : Nat) : Nat := if a ≤ k ∧ k < a + n then f (k - a + b) else if b ≤ k ∧ k < b + n then f (k - b + a) else f k
theorem sSr_start (f : Nat → Nat) (a b : Nat) : sSr f a b 0 = f := by
  funext k
  unfold sSr
  rw [if_neg (by omega), if_neg (by omega)]
theorem sSr_step {f : Nat → Nat} {a b n : Nat} (h : a + n < b) : sSw (sSr f a b n) (a + n) (b + n) = sSr f a b (n + 1) := by
  funext k
  unfold sSw sSr
  repeat' split
  all_goals first | rfl | (congr 1; omega) | (exfalso; omega)
def sRt (f : Nat → Nat) (a m b : Nat) (k : Nat) : Nat := if a ≤ k ∧ k < a + (b - m) then f (k - a + m) else if a + (b - m) ≤ k ∧ k < b then f (k - (b - m)) else f k
theorem sRt_left {f : Nat → Nat} {m i j : Nat} (hi : i ≤ m) (h : j < i) : sRt (sSr f (m - i) m j) (m - (i - j)) m (m + j) = sRt f (m - i) m (m + j) := by
  funext k
  unfold sRt sSr
  repeat' split
  all_goals first | rfl | (congr 1; omega) | (exfalso; omega)
theorem sRt_right {f : Nat → Nat} {m i j : Nat} (hi : i ≤ m) (h : i < j) : sRt (sSr f (m - i) (m + j - i) i) (m - i) m (m + (j - i)) = sRt f (m - i) m (m + j) := by
  funext k
  unfold sRt sSr
  repeat' split
  all_goals first | rfl | (congr 1; omega) | (exfalso; omega)
theorem sRt_end {f : Nat → Nat} {m i : Nat} (hi : i ≤ m) : sSr f (m - i) m i = sRt f (m - i) m (m + i) := by
  funext k
  unfold sRt sSr
  repeat' split
  all_goals first | rfl | (congr 1; omega) | (exfalso; omega)
theorem sRt_none {f : Nat → Nat} {a m b : Nat} (h : a = m ∨ m = b) (h1 : a ≤ m) (h2 : m ≤ b) : sRt f a m b = f := by
  funext k
  unfold sRt
  repeat' split
  all_goals first | rfl | (congr 1; omega) | (exfalso; omega)
theorem sRt_sam {f : Nat → Nat} {a m b : Nat} (h1 : a ≤ m) (h2 : m ≤ b) : sSam f (sRt f a m b) a b := by
  refine ⟨fun k hk => ?_, fun k k1 k2 => ?_, fun k k1 k2 => ?_⟩
  · unfold sRt
    rw [if_neg (by omega), if_neg (by omega)]
  · by_cases e : k < a + (b - m)
    · exact ⟨k - a + m, by omega, by omega, by unfold sRt; rw [if_pos ⟨k1, e⟩]⟩
    · exact ⟨k - (b - m), by omega, by omega, by unfold sRt; rw [if_neg (by omega), if_pos (by omega)]⟩
  · by_cases e : k < m
    · exact ⟨k + (b - m), by omega, by omega, by unfold sRt; rw [if_neg (by omega), if_pos (by omega)]; congr 1; omega⟩
    · exact ⟨k - m + a, by omega, by omega, by unfold sRt; rw [if_pos (by omega)]; congr 1; omega⟩

/-! the merge -/
/-- what is asked of two parts that are merged -/
structure sPre (K : Nat → Int) (f : Nat → Nat) (a m b : Nat) : Prop where
  am : a < m
  mb : m < b
  l : sSrt K f a m
  r : sSrt K f m b
  tag : ∀ i j, a ≤ i → i < m → m ≤ j → j < b → f i < f j
structure sPost (K : Nat → Int) (f g : Nat → Nat) (a b : Nat) : Prop where
  sam : sSam f g a b
  srt : sSrt K g a b
/-- where the search ends -/
structure sFnd (K : Nat → Int) (f : Nat → Nat) (a m b s : Nat) : Prop where
  lo : a ≤ s
  hi : s ≤ m
  el : m ≤ (a + b) / 2 + m - s
  eb : (a + b) / 2 + m - s ≤ b
  ms : s ≤ (a + b) / 2
  one : s = a ∨ (a + b) / 2 + m - s = b ∨ ¬ K (f ((a + b) / 2 + m - s)) < K (f (s - 1))
  two : s = m ∨ (a + b) / 2 + m - s = m ∨ K (f ((a + b) / 2 + m - s - 1)) < K (f s)
theorem sFnd.cross {K : Nat → Int} {f : Nat → Nat} {a m b s : Nat} (h : sPre K f a m b) (q : sFnd K f a m b s) :
    (∀ i j, a ≤ i → i < s → (a + b) / 2 + m - s ≤ j → j < b → sLt K (f i) (f j)) ∧ (∀ i j, s ≤ i → i < m → m ≤ j → j < (a + b) / 2 + m - s → sLt K (f j) (f i)) := by
  have h1 := q.lo
  have h2 := q.hi
  have h3 := q.el
  have h4 := q.eb
  have h5 := q.one
  have h6 := q.two
  generalize (a + b) / 2 + m - s = e at *
  constructor
  · intro i j i1 i2 j1 j2
    have hb : sLt K (f (s - 1)) (f e) := sLt.of_tag (by rcases h5 with h | h | h; omega; omega; exact h) (h.tag _ _ (by omega) (by omega) (by omega) (by omega))
    have hi : i = s - 1 ∨ sLt K (f i) (f (s - 1)) := by
      by_cases e1 : i = s - 1
      · exact .inl e1
      · exact .inr (h.l _ _ i1 (by omega) (by omega))
    have hj : j = e ∨ sLt K (f e) (f j) := by
      by_cases e1 : j = e
      · exact .inl e1
      · exact .inr (h.r _ _ (by omega) (by omega) j2)
    rcases hi with rfl | hi
    · rcases hj with rfl | hj
      · exact hb
      · exact hb.trans hj
    · rcases hj with rfl | hj
      · exact hi.trans hb
      · exact (hi.trans hb).trans hj
  · intro i j i1 i2 j1 j2
    have hb : sLt K (f (e - 1)) (f s) := .inl (by rcases h6 with h | h | h; omega; omega; exact h)
    have hi : i = s ∨ sLt K (f s) (f i) := by
      by_cases e1 : i = s
      · exact .inl e1
      · exact .inr (h.l _ _ (by omega) (by omega) i2)
    have hj : j = e - 1 ∨ sLt K (f j) (f (e - 1)) := by
      by_cases e1 : j = e - 1
      · exact .inl e1
      · exact .inr (h.r _ _ j1 (by omega) (by omega))
    rcases hi with rfl | hi
    · rcases hj with rfl | hj
      · exact hb
      · exact hj.trans hb
    · rcases hj with rfl | hj
      · exact hb.trans hi
      · exact (hj.trans hb).trans hi
/-- the halves behind the rotation -/
theorem sFnd.halves {K : Nat → Int} {f : Nat → Nat} {a m b s : Nat} (h : sPre K f a m b) (q : sFnd K f a m b s) :
    (a < s → s < (a + b) / 2 → sPre K (sRt f s m ((a + b) / 2 + m - s)) a s ((a + b) / 2)) ∧ (¬ (a < s ∧ s < (a + b) / 2) → sSrt K (sRt f s m ((a + b) / 2 + m - s)) a ((a + b) / 2)) ∧
    ((a + b) / 2 < (a + b) / 2 + m - s → (a + b) / 2 + m - s < b → sPre K (sRt f s m ((a + b) / 2 + m - s)) ((a + b) / 2) ((a + b) / 2 + m - s) b) ∧ (¬ ((a + b) / 2 < (a + b) / 2 + m - s ∧ (a + b) / 2 + m - s < b) → sSrt K (sRt f s m ((a + b) / 2 + m - s)) ((a + b) / 2) b) ∧
    (∀ i j, a ≤ i → i < (a + b) / 2 → (a + b) / 2 ≤ j → j < b → sLt K (sRt f s m ((a + b) / 2 + m - s) i) (sRt f s m ((a + b) / 2 + m - s) j)) := by
  obtain ⟨c1, c2⟩ := q.cross h
  have h1 := q.lo
  have h2 := q.hi
  have h3 := q.el
  have h4 := q.eb
  have h5 := q.ms
  have am := h.am
  have mb := h.mb
  generalize hd : (a + b) / 2 = d at *
  generalize he : d + m - s = e at *
  have g1 : ∀ k, k < s → sRt f s m e k = f k := fun k hk => by unfold sRt; rw [if_neg (by omega), if_neg (by omega)]
  have g2 : ∀ k, s ≤ k → k < d → sRt f s m e k = f (k - s + m) := fun k k1 k2 => by unfold sRt; rw [if_pos (by omega)]
  have g3 : ∀ k, d ≤ k → k < e → sRt f s m e k = f (k - (e - m)) := fun k k1 k2 => by unfold sRt; rw [if_neg (by omega), if_pos (by omega)]
  have g4 : ∀ k, e ≤ k → sRt f s m e k = f k := fun k hk => by unfold sRt; rw [if_neg (by omega), if_neg (by omega)]
  have sl : sSrt K (sRt f s m e) a s := fun i j i1 ij j2 => by rw [g1 i (by omega), g1 j j2]; exact h.l i j i1 ij (by omega)
  have sm : sSrt K (sRt f s m e) s d := fun i j i1 ij j2 => by rw [g2 i i1 (by omega), g2 j (by omega) j2]; exact h.r _ _ (by omega) (by omega) (by omega)
  have sn : sSrt K (sRt f s m e) d e := fun i j i1 ij j2 => by rw [g3 i i1 (by omega), g3 j (by omega) j2]; exact h.l _ _ (by omega) (by omega) (by omega)
  have sr : sSrt K (sRt f s m e) e b := fun i j i1 ij j2 => by rw [g4 i i1, g4 j (by omega)]; exact h.r i j (by omega) ij j2
  refine ⟨fun p1 p2 => ⟨p1, p2, sl, sm, fun i j i1 i2 j1 j2 => ?_⟩, fun hn => ?_, fun p1 p2 => ⟨p1, p2, sn, sr, fun i j i1 i2 j1 j2 => ?_⟩, fun hn => ?_, fun i j i1 i2 j1 j2 => ?_⟩
  · rw [g1 i i2, g2 j j1 j2]; exact h.tag _ _ i1 (by omega) (by omega) (by omega)
  · by_cases e1 : a = s
    · rw [e1]; exact sm
    · have : s = d := by omega
      rw [← this]; exact sl
  · rw [g3 i i1 i2, g4 j j1]; exact h.tag _ _ (by omega) (by omega) (by omega) j2
  · by_cases e1 : d = e
    · rw [e1]; exact sr
    · have : e = b := by omega
      rw [← this]; exact sn
  · by_cases e1 : i < s
    · rw [g1 i e1]
      by_cases e2 : j < e
      · rw [g3 j j1 e2]; exact h.l _ _ i1 (by omega) (by omega)
      · rw [g4 j (by omega)]; exact c1 i j i1 e1 (by omega) j2
    · rw [g2 i (by omega) i2]
      by_cases e2 : j < e
      · rw [g3 j j1 e2]; exact c2 _ _ (by omega) (by omega) (by omega) (by omega)
      · rw [g4 j (by omega)]; exact h.r _ _ (by omega) (by omega) j2
/-- both halves sorted: all is -/
theorem sPost.join {K : Nat → Int} {f g g1 g2 : Nat → Nat} {a d b : Nat} (ha : a ≤ d) (hb : d ≤ b) (h0 : sSam f g a b) (hc : ∀ i j, a ≤ i → i < d → d ≤ j → j < b → sLt K (g i) (g j)) (h1 : sPost K g g1 a d) (h2 : sPost K g1 g2 d b) : sPost K f g2 a b := by
  refine ⟨(h0.trans (h1.sam.wide (Nat.le_refl _) hb)).trans (h2.sam.wide ha (Nat.le_refl _)), fun i j i1 ij j2 => ?_⟩
  by_cases e1 : j < d
  · rw [h2.sam.out i (by omega), h2.sam.out j (by omega)]
    exact h1.srt i j i1 ij e1
  · by_cases e2 : i < d
    · rw [h2.sam.out i (by omega)]
      obtain ⟨i', p1, p2, e⟩ := h1.sam.fro i i1 e2
      obtain ⟨j', q1, q2, e'⟩ := h2.sam.fro j (by omega) j2
      rw [e, e', h1.sam.out j' (by omega)]
      exact hc i' j' p1 p2 q1 q2
    · exact h2.srt i j (by omega) ij j2
theorem sPre.ext {K : Nat → Int} {f g : Nat → Nat} {a m b : Nat} (h : sPre K f a m b) (q : ∀ j, a ≤ j → j < b → g j = f j) : sPre K g a m b := by
  have h1 := h.am
  have h2 := h.mb
  exact ⟨h1, h2, h.l.ext fun j j1 j2 => q j j1 (by omega), h.r.ext fun j j1 j2 => q j (by omega) j2, fun i j i1 i2 j1 j2 => by rw [q i i1 (by omega), q j (by omega) j2]; exact h.tag i j i1 i2 j1 j2⟩
theorem sPost.self {K : Nat → Int} {f : Nat → Nat} {a b : Nat} (h : sSrt K f a b) : sPost K f f a b := ⟨sSam.refl _ _ _, h⟩
/-! blocks -/
/-- a block of tags is in order, and holds its own -/
structure sBlk (K : Nat → Int) (h : Nat → Nat) (s e : Nat) : Prop where
  srt : sSrt K h s e
  own : ∀ j, s ≤ j → j < e → s ≤ h j ∧ h j < e
/-- blocks of a size, from a multiple of it on, as far as n -/
def sBks (K : Nat → Int) (n : Nat) (h : Nat → Nat) (bs u v : Nat) : Prop := ∀ t, u ≤ t * bs → t * bs < v → sBlk K h (t * bs) (min (t * bs + bs) n)
theorem sBlk.ext {K : Nat → Int} {f g : Nat → Nat} {s e : Nat} (h : sBlk K f s e) (q : ∀ j, s ≤ j → j < e → g j = f j) : sBlk K g s e := ⟨h.srt.ext q, fun j h1 h2 => by rw [q j h1 h2]; exact h.own j h1 h2⟩
theorem sPost.blk {K : Nat → Int} {f g : Nat → Nat} {s e : Nat} (h : sPost K f g s e) (q : ∀ j, s ≤ j → j < e → s ≤ f j ∧ f j < e) : sBlk K g s e := ⟨h.srt, fun j h1 h2 => by
  obtain ⟨i, i1, i2, e⟩ := h.sam.fro j h1 h2
  rw [e]; exact q i i1 i2⟩
theorem sBlk.pre {K : Nat → Int} {f : Nat → Nat} {a m b : Nat} (h1 : sBlk K f a m) (h2 : sBlk K f m b) (am : a < m) (mb : m < b) : sPre K f a m b := ⟨am, mb, h1.srt, h2.srt, fun i j i1 i2 j1 j2 => by
  have := (h1.own i i1 i2).2
  have := (h2.own j j1 j2).1
  omega⟩
theorem sBlk.two {K : Nat → Int} {f : Nat → Nat} {a m b : Nat} (h1 : sBlk K f a m) (h2 : sBlk K f m b) (am : a ≤ m) (mb : m ≤ b) : ∀ j, a ≤ j → j < b → a ≤ f j ∧ f j < b := fun j j1 j2 => by
  by_cases e : j < m
  · have := h1.own j j1 e; omega
  · have := h2.own j (by omega) j2; omega
/-- the first pass: a block of insertions more -/
theorem sBks.ins {K : Nat → Int} {n a b : Nat} {f g h : Nat → Nat} (hab : a ≤ b) (hb : b ≤ n) (hs : ∀ j, a ≤ j → f j = j) (p : sPost K f g a b) : sBlk K g a b :=
  p.blk fun j h1 h2 => by rw [hs j h1]; omega
theorem sBks.all {K : Nat → Int} {n bs : Nat} {h : Nat → Nat} (hb : n ≤ bs) (h0 : 0 < n) (q : sBks K n h bs 0 n) : sBlk K h 0 n := by
  have := q 0 (Nat.zero_le _) (by omega)
  rw [Nat.zero_mul, Nat.zero_add, Nat.min_eq_right hb] at this
  exact this
/-- how far the merges of a pass have come: blocks of twice the size before u, of the size from u on -/
structure sMrg (K : Nat → Int) (n : Nat) (h : Nat → Nat) (bs t : Nat) : Prop where
  two : ∀ r, r < t → sBlk K h (r * (2 * bs)) (r * (2 * bs) + 2 * bs)
  one : ∀ s, t * (2 * bs) ≤ s * bs → s * bs < n → sBlk K h (s * bs) (min (s * bs + bs) n)
theorem sMrg.start {K : Nat → Int} {n bs : Nat} {h : Nat → Nat} (q : sBks K n h bs 0 n) : sMrg K n h bs 0 := ⟨fun r hr => absurd hr (Nat.not_lt_zero _), fun s _ h2 => q s (Nat.zero_le _) h2⟩
theorem sMrg.parts {K : Nat → Int} {n bs t e : Nat} {h : Nat → Nat} (q : sMrg K n h bs t) (h0 : 0 < bs) (h1 : t * (2 * bs) + bs < e) (h2 : e ≤ n) (h3 : e = min (t * (2 * bs) + 2 * bs) n) : sBlk K h (t * (2 * bs)) (t * (2 * bs) + bs) ∧ sBlk K h (t * (2 * bs) + bs) e := by
  have e1 : (2 * t) * bs = t * (2 * bs) := by rw [Nat.mul_comm 2 t, Nat.mul_assoc]
  have e2 : (2 * t + 1) * bs = t * (2 * bs) + bs := by rw [Nat.succ_mul, e1]
  constructor
  · have := q.one (2 * t) (by rw [e1]; exact Nat.le_refl _) (by rw [e1]; omega)
    rw [e1, Nat.min_eq_left (by omega)] at this
    exact this
  · have := q.one (2 * t + 1) (by rw [e2]; omega) (by rw [e2]; omega)
    rw [e2] at this
    rw [h3]
    rwa [show t * (2 * bs) + bs + bs = t * (2 * bs) + 2 * bs by omega] at this
theorem mul_far {t r k : Nat} (h : r < t) : r * k + k ≤ t * k := by
  have := Nat.mul_le_mul_right k (show r + 1 ≤ t by omega)
  rwa [Nat.succ_mul] at this
theorem sMrg.step {K : Nat → Int} {n bs t : Nat} {h g : Nat → Nat} (q : sMrg K n h bs t) (h0 : 0 < bs) (h2 : t * (2 * bs) + 2 * bs ≤ n) (p : sPost K h g (t * (2 * bs)) (t * (2 * bs) + 2 * bs)) : sMrg K n g bs (t + 1) := by
  obtain ⟨p1, p2⟩ := q.parts (e := t * (2 * bs) + 2 * bs) h0 (by omega) h2 (by omega)
  refine ⟨fun r hr => ?_, fun s h3 h4 => ?_⟩
  · by_cases e : r = t
    · rw [e]; exact p.blk (p1.two p2 (by omega) (by omega))
    · have := mul_far (k := 2 * bs) (show r < t by omega)
      exact (q.two r (by omega)).ext fun j j1 j2 => p.sam.out j (by omega)
  · rw [Nat.succ_mul] at h3
    exact (q.one s (by omega) h4).ext fun j j1 j2 => p.sam.out j (by omega)
theorem sMrg.last {K : Nat → Int} {n bs t : Nat} {h g : Nat → Nat} (q : sMrg K n h bs t) (h0 : 0 < bs) (h2 : n < t * (2 * bs) + 2 * bs) (h1 : t * (2 * bs) + bs < n) (p : sPost K h g (t * (2 * bs)) n) : sBks K n g (2 * bs) 0 n := by
  obtain ⟨p1, p2⟩ := q.parts (e := n) h0 h1 (Nat.le_refl _) (by omega)
  intro r _ hr
  by_cases e : r = t
  · rw [e, Nat.min_eq_right (by omega)]; exact p.blk (p1.two p2 (by omega) (by omega))
  · by_cases e2 : r < t
    · have := mul_far (k := 2 * bs) e2
      rw [Nat.min_eq_left (by omega)]
      exact (q.two r e2).ext fun j j1 j2 => p.sam.out j (by omega)
    · have := mul_far (k := 2 * bs) (show t < r by omega)
      omega
theorem sMrg.rest {K : Nat → Int} {n bs t : Nat} {h : Nat → Nat} (q : sMrg K n h bs t) (h0 : 0 < bs) (h3 : t * (2 * bs) ≤ n) (h1 : n ≤ t * (2 * bs) + bs) (h2 : n < t * (2 * bs) + 2 * bs) : sBks K n h (2 * bs) 0 n := by
  intro r _ hr
  by_cases e : r = t
  · have e1 : (2 * t) * bs = t * (2 * bs) := by rw [Nat.mul_comm 2 t, Nat.mul_assoc]
    have := q.one (2 * t) (by rw [e1]; exact Nat.le_refl _) (by rw [e1, ← e]; exact hr)
    rw [e1] at this
    rw [e]
    rwa [show min (t * (2 * bs) + 2 * bs) n = min (t * (2 * bs) + bs) n by omega]
  · by_cases e2 : r < t
    · have := mul_far (k := 2 * bs) e2
      rw [Nat.min_eq_left (by omega)]
      exact q.two r e2
    · have := mul_far (k := 2 * bs) (show t < r by omega)
      omega
/-- sorted: every tag is there, in order -/
structure sEnd (K : Nat → Int) (n : Nat) (h : Nat → Nat) : Prop where
  sam : sSam (fun j => j) h 0 n
  blk : sBlk K h 0 n
theorem sEnd.bd {K : Nat → Int} {n : Nat} {h : Nat → Nat} (e : sEnd K n h) : ∀ j, j < n → h j < n := fun j hj => (e.blk.own j (Nat.zero_le _) hj).2
/-- there is but one -/
theorem sEnd.uniq {K : Nat → Int} {n : Nat} {f g : Nat → Nat} (hf : sEnd K n f) (hg : sEnd K n g) : ∀ j, j < n → f j = g j :=
  hf.blk.srt.uniq hg.blk.srt (fun x hx => by obtain ⟨i, _, h2, e⟩ := hf.sam.to x (Nat.zero_le _) hx; exact ⟨i, h2, e.symm⟩) (fun x hx => by obtain ⟨i, _, h2, e⟩ := hg.sam.to x (Nat.zero_le _) hx; exact ⟨i, h2, e.symm⟩) hf.bd hg.bd
end Go.Proofs.Ytnhcmloaanamnaa
