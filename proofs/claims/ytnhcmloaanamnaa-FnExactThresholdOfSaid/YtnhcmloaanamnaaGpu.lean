/-
  What is proved here: groups of cells that are led to one another by sides, as both packages find them, told as lists. Conditions: none but those that each theorem names. Own text; no dump.
-/
import Derived.Lib.Hide
namespace Go.Proofs.Ytnhcmloaanamnaa
set_option linter.unusedVariables false

/-- one side is looked at -/
def stepG (q : Int → Bool) (L : List Int) (b : Int) : List Int := if (q b && !L.contains b) = true then L ++ [b] else L
/-- all sides of a cell are looked at -/
def visG (q : Int → Bool) (L bs : List Int) : List Int := bs.foldl (stepG q) L
/-- the list when so many of its cells have been looked at -/
def seqG (q : Int → Bool) (nb : Int → List Int) (a : Int) : Nat → List Int
  | 0 => [a]
  | k + 1 => if k < (seqG q nb a k).length then visG q (seqG q nb a k) (nb ((seqG q nb a k).getD k 0)) else seqG q nb a k

theorem stepG_yes {q : Int → Bool} {L : List Int} {b : Int} (h : (q b && !L.contains b) = true) : stepG q L b = L ++ [b] := by unfold stepG; rw [if_pos h]
theorem stepG_no {q : Int → Bool} {L : List Int} {b : Int} (h : (q b && !L.contains b) = false) : stepG q L b = L := by unfold stepG; rw [h, if_neg (by decide)]
theorem visG_nil (q : Int → Bool) (L : List Int) : visG q L [] = L := rfl
theorem visG_snoc (q : Int → Bool) (L bs : List Int) (b : Int) : visG q L (bs ++ [b]) = stepG q (visG q L bs) b := by unfold visG; rw [List.foldl_append]; rfl
theorem visG_take {q : Int → Bool} {L bs : List Int} {j : Nat} (hj : j < bs.length) : visG q L (bs.take (j + 1)) = stepG q (visG q L (bs.take j)) bs[j] := by
  rw [List.take_succ_eq_append_getElem hj, visG_snoc]
theorem seqG_yes {q : Int → Bool} {nb : Int → List Int} {a : Int} {k : Nat} (h : k < (seqG q nb a k).length) : seqG q nb a (k + 1) = visG q (seqG q nb a k) (nb ((seqG q nb a k).getD k 0)) := by
  show (if _ then _ else _) = _
  rw [if_pos h]
theorem seqG_no {q : Int → Bool} {nb : Int → List Int} {a : Int} {k : Nat} (h : ¬ k < (seqG q nb a k).length) : seqG q nb a (k + 1) = seqG q nb a k := by
  show (if _ then _ else _) = _
  rw [if_neg h]
theorem seqG_end {q : Int → Bool} {nb : Int → List Int} {a : Int} {k : Nat} (h : ¬ k < (seqG q nb a k).length) : ∀ m, k ≤ m → seqG q nb a m = seqG q nb a k := by
  intro m
  induction m with
  | zero => intro hm; rw [show k = 0 by omega]
  | succ m ih =>
    intro hm
    by_cases e : k = m + 1
    · rw [e]
    · have e2 := ih (by omega)
      rw [seqG_no (by rw [e2]; omega), e2]

theorem step_mem {q : Int → Bool} {L : List Int} {b x : Int} : x ∈ stepG q L b ↔ x ∈ L ∨ (x = b ∧ q b = true) := by
  unfold stepG
  split
  · rename_i h
    rw [Bool.and_eq_true] at h
    rw [List.mem_append, List.mem_singleton]
    exact ⟨fun h2 => h2.elim .inl fun e => .inr ⟨e, h.1⟩, fun h2 => h2.elim .inl fun e => .inr e.1⟩
  · rename_i h
    refine ⟨.inl, fun h2 => h2.elim id fun ⟨e, hq⟩ => ?_⟩
    subst e
    have : L.contains x = true := by
      cases hc : L.contains x with
      | true => rfl
      | false => rw [hq, hc] at h; exact absurd rfl h
    exact List.contains_iff_mem.1 this
theorem vis_mem {q : Int → Bool} {x : Int} : ∀ {bs L : List Int}, x ∈ visG q L bs ↔ x ∈ L ∨ (x ∈ bs ∧ q x = true) := by
  intro bs
  induction bs with
  | nil => intro L; exact ⟨.inl, fun h => h.elim id fun h => absurd h.1 (List.not_mem_nil)⟩
  | cons b bs ih =>
    intro L
    show x ∈ visG q (stepG q L b) bs ↔ _
    rw [ih, step_mem, List.mem_cons]
    constructor
    · rintro ((h | ⟨e, h⟩) | ⟨h, g⟩)
      · exact .inl h
      · subst e; exact .inr ⟨.inl rfl, h⟩
      · exact .inr ⟨.inr h, g⟩
    · rintro (h | ⟨e | h, g⟩)
      · exact .inl (.inl h)
      · subst e; exact .inl (.inr ⟨rfl, g⟩)
      · exact .inr ⟨h, g⟩
theorem step_pre (q : Int → Bool) (L : List Int) (b : Int) : ∃ e, stepG q L b = L ++ e := by
  unfold stepG
  split
  · exact ⟨[b], rfl⟩
  · exact ⟨[], (List.append_nil L).symm⟩
theorem vis_pre (q : Int → Bool) : ∀ (bs L : List Int), ∃ e, visG q L bs = L ++ e := by
  intro bs
  induction bs with
  | nil => intro L; exact ⟨[], (List.append_nil L).symm⟩
  | cons b bs ih =>
    intro L
    obtain ⟨e1, h1⟩ := step_pre q L b
    obtain ⟨e2, h2⟩ := ih (stepG q L b)
    exact ⟨e1 ++ e2, by show visG q (stepG q L b) bs = _; rw [h2, h1, List.append_assoc]⟩
theorem seq_pre (q : Int → Bool) (nb : Int → List Int) (a : Int) (k : Nat) : ∃ e, seqG q nb a (k + 1) = seqG q nb a k ++ e := by
  by_cases h : k < (seqG q nb a k).length
  · rw [seqG_yes h]; exact vis_pre q _ _
  · rw [seqG_no h]; exact ⟨[], (List.append_nil _).symm⟩
theorem seq_pre_le (q : Int → Bool) (nb : Int → List Int) (a : Int) {k m : Nat} (h : k ≤ m) : ∃ e, seqG q nb a m = seqG q nb a k ++ e := by
  induction m with
  | zero => exact ⟨[], by rw [show k = 0 by omega, List.append_nil]⟩
  | succ m ih =>
    by_cases e : k = m + 1
    · exact ⟨[], by rw [e, List.append_nil]⟩
    · obtain ⟨e1, h1⟩ := ih (by omega)
      obtain ⟨e2, h2⟩ := seq_pre q nb a m
      exact ⟨e1 ++ e2, by rw [h2, h1, List.append_assoc]⟩
theorem getD_pre {L e : List Int} {j : Nat} (h : j < L.length) : (L ++ e).getD j 0 = L.getD j 0 := by
  rw [List.getD_eq_getElem?_getD, List.getD_eq_getElem?_getD, List.getElem?_append_left h]

theorem step_nodup {q : Int → Bool} {L : List Int} {b : Int} (h : L.Nodup) : (stepG q L b).Nodup := by
  unfold stepG
  split
  · rename_i h2
    rw [Bool.and_eq_true] at h2
    rw [List.nodup_append]
    refine ⟨h, (by simp : [b].Nodup), fun x hx y hy e => ?_⟩
    rw [List.mem_singleton] at hy
    subst hy e
    have := List.contains_iff_mem.2 hx
    rw [this] at h2
    exact absurd h2.2 (by decide)
  · exact h
theorem vis_nodup {q : Int → Bool} : ∀ {bs L : List Int}, L.Nodup → (visG q L bs).Nodup := by
  intro bs
  induction bs with
  | nil => intro L h; exact h
  | cons b bs ih => intro L h; exact ih (step_nodup h)
theorem seq_nodup (q : Int → Bool) (nb : Int → List Int) (a : Int) (k : Nat) : (seqG q nb a k).Nodup := by
  induction k with
  | zero => exact (by simp : [a].Nodup)
  | succ k ih =>
    by_cases h : k < (seqG q nb a k).length
    · rw [seqG_yes h]; exact vis_nodup ih
    · rw [seqG_no h]; exact ih
/-- different integers from 0 on are no more than there are -/
theorem nodup_le : ∀ (N : Nat) (L : List Int), L.Nodup → (∀ x ∈ L, 0 ≤ x ∧ x < N) → L.length ≤ N := by
  intro N
  induction N with
  | zero =>
    intro L _ h
    cases L with
    | nil => exact Nat.le_refl _
    | cons x L => have := h x (List.mem_cons_self ..); omega
  | succ N ih =>
    intro L hn h
    have h1 : (L.erase (N : Int)).Nodup := hn.erase _
    have h2 := ih (L.erase (N : Int)) h1 fun x hx => by
      have hm := List.mem_of_mem_erase hx
      have := h x hm
      have hne : x ≠ (N : Int) := fun e => by
        subst e
        exact (List.Nodup.not_mem_erase hn) hx
      omega
    have h3 := List.length_erase_le (a := (N : Int)) (l := L)
    by_cases hm : (N : Int) ∈ L
    · rw [List.length_erase_of_mem hm] at h2; omega
    · rw [List.erase_of_not_mem hm] at h2; omega

/-- cells that lie in a field, and sides that do -/
structure NbOk (N : Nat) (nb : Int → List Int) : Prop where
  inn : ∀ a : Int, 0 ≤ a → a < N → ∀ b ∈ nb a, 0 ≤ b ∧ b < N
  sym : ∀ a : Int, 0 ≤ a → a < N → ∀ b ∈ nb a, a ∈ nb b
theorem getD_mem {L : List Int} {k : Nat} (h : k < L.length) : L.getD k 0 ∈ L := by
  rw [List.getD_eq_getElem?_getD, List.getElem?_eq_getElem h]
  exact List.getElem_mem h
theorem seq_in {N : Nat} {q : Int → Bool} {nb : Int → List Int} {a : Int} (H : NbOk N nb) (h0 : 0 ≤ a) (h1 : a < N) (k : Nat) : ∀ x ∈ seqG q nb a k, 0 ≤ x ∧ x < N := by
  induction k with
  | zero => intro x hx; rw [List.mem_singleton.1 hx]; exact ⟨h0, h1⟩
  | succ k ih =>
    by_cases h : k < (seqG q nb a k).length
    · rw [seqG_yes h]
      intro x hx
      rcases vis_mem.1 hx with hx | ⟨hx, _⟩
      · exact ih x hx
      · have := ih _ (getD_mem h)
        exact H.inn _ this.1 this.2 x hx
    · rw [seqG_no h]; exact ih
theorem seq_le {N : Nat} {q : Int → Bool} {nb : Int → List Int} {a : Int} (H : NbOk N nb) (h0 : 0 ≤ a) (h1 : a < N) (k : Nat) : (seqG q nb a k).length ≤ N := nodup_le N _ (seq_nodup q nb a k) (seq_in H h0 h1 k)
theorem seq_q {q : Int → Bool} {nb : Int → List Int} {a : Int} (hq : q a = true) (k : Nat) : ∀ x ∈ seqG q nb a k, q x = true := by
  induction k with
  | zero => intro x hx; rw [List.mem_singleton.1 hx]; exact hq
  | succ k ih =>
    by_cases h : k < (seqG q nb a k).length
    · rw [seqG_yes h]
      intro x hx
      rcases vis_mem.1 hx with hx | ⟨_, hx⟩
      · exact ih x hx
      · exact hx
    · rw [seqG_no h]; exact ih
/-- what has been looked at leads to nothing else -/
theorem seq_closed {q : Int → Bool} {nb : Int → List Int} {a : Int} (k : Nat) : ∀ j, j < k → j < (seqG q nb a k).length → ∀ b ∈ nb ((seqG q nb a k).getD j 0), q b = true → b ∈ seqG q nb a k := by
  induction k with
  | zero => intro j hj; exact absurd hj (Nat.not_lt_zero _)
  | succ k ih =>
    intro j hj hl b hb hq
    obtain ⟨e, he⟩ := seq_pre q nb a k
    by_cases h : k < (seqG q nb a k).length
    · by_cases hjk : j < k
      · rw [he, getD_pre (by omega)] at hb
        rw [he, List.mem_append]
        exact .inl (ih j hjk (by omega) b hb hq)
      · have ej : j = k := by omega
        subst ej
        rw [he, getD_pre h] at hb
        rw [seqG_yes h]
        exact vis_mem.2 (.inr ⟨hb, hq⟩)
    · rw [seqG_no h] at hl hb ⊢
      exact ih j (by omega) hl b hb hq
theorem mem_getD {L : List Int} {x : Int} (h : x ∈ L) : ∃ j, j < L.length ∧ L.getD j 0 = x := by
  obtain ⟨j, hj, e⟩ := List.getElem_of_mem h
  exact ⟨j, hj, by rw [List.getD_eq_getElem?_getD, List.getElem?_eq_getElem hj]; exact e⟩
/-- the whole group of a cell -/
def grpG (q : Int → Bool) (nb : Int → List Int) (N : Nat) (a : Int) : List Int := seqG q nb a N
theorem grp_closed {N : Nat} {q : Int → Bool} {nb : Int → List Int} {a : Int} (H : NbOk N nb) (h0 : 0 ≤ a) (h1 : a < N) : ∀ x ∈ grpG q nb N a, ∀ b ∈ nb x, q b = true → b ∈ grpG q nb N a := by
  intro x hx b hb hq
  obtain ⟨j, hj, e⟩ := mem_getD hx
  subst e
  have := seq_le (q := q) H h0 h1 N
  exact seq_closed N j (Nat.lt_of_lt_of_le hj this) hj b hb hq
/-- where a list has been looked at whole, it is the group -/
theorem grp_is {N : Nat} {q : Int → Bool} {nb : Int → List Int} {a : Int} {k : Nat} (hk : k ≤ N) (h : ¬ k < (seqG q nb a k).length) : grpG q nb N a = seqG q nb a k := seqG_end h N hk
theorem vis_congr {q r : Int → Bool} : ∀ {bs L : List Int}, (∀ b ∈ bs, q b = r b) → visG q L bs = visG r L bs := by
  intro bs
  induction bs with
  | nil => intro L _; rfl
  | cons b bs ih =>
    intro L h
    show visG q (stepG q L b) bs = visG r (stepG r L b) bs
    have e : stepG q L b = stepG r L b := by unfold stepG; rw [h b (List.mem_cons_self ..)]
    rw [e]
    exact ih fun x hx => h x (List.mem_cons_of_mem _ hx)

/-- a cell is in one of several groups -/
def inGs (Gs : List (List Int)) (b : Int) : Bool := Gs.any fun G => G.contains b
/-- the groups that begin at the first cells -/
def grsG (p : Int → Bool) (nb : Int → List Int) (N : Nat) : Nat → List (List Int)
  | 0 => []
  | i + 1 => if (p i && !inGs (grsG p nb N i) i) = true then grsG p nb N i ++ [grpG p nb N i] else grsG p nb N i
theorem grs_yes {p : Int → Bool} {nb : Int → List Int} {N i : Nat} (h : (p i && !inGs (grsG p nb N i) i) = true) : grsG p nb N (i + 1) = grsG p nb N i ++ [grpG p nb N i] := by show (if _ then _ else _) = _; rw [if_pos h]
theorem grs_no {p : Int → Bool} {nb : Int → List Int} {N i : Nat} (h : (p i && !inGs (grsG p nb N i) i) = false) : grsG p nb N (i + 1) = grsG p nb N i := by show (if _ then _ else _) = _; rw [h, if_neg (by decide)]
theorem inGs_snoc (Gs : List (List Int)) (G : List Int) (b : Int) : inGs (Gs ++ [G]) b = (inGs Gs b || G.contains b) := by unfold inGs; rw [List.any_append]; simp
theorem inGs_mem {Gs : List (List Int)} {b : Int} : inGs Gs b = true ↔ ∃ G ∈ Gs, b ∈ G := by
  unfold inGs
  rw [List.any_eq_true]
  exact ⟨fun ⟨G, h, g⟩ => ⟨G, h, List.contains_iff_mem.1 g⟩, fun ⟨G, h, g⟩ => ⟨G, h, List.contains_iff_mem.2 g⟩⟩
theorem grs_mem {p : Int → Bool} {nb : Int → List Int} {N i : Nat} {G : List Int} (h : G ∈ grsG p nb N i) : ∃ j, j < i ∧ G = grpG p nb N j ∧ p j = true := by
  induction i with
  | zero => exact absurd h List.not_mem_nil
  | succ i ih =>
    cases hc : (p i && !inGs (grsG p nb N i) i) with
    | false =>
      rw [grs_no hc] at h
      obtain ⟨j, h1, h2⟩ := ih h
      exact ⟨j, by omega, h2⟩
    | true =>
      rw [grs_yes hc, List.mem_append, List.mem_singleton] at h
      rcases h with h | h
      · obtain ⟨j, h1, h2⟩ := ih h
        exact ⟨j, by omega, h2⟩
      · rw [Bool.and_eq_true] at hc
        exact ⟨i, by omega, h, hc.1⟩
/-- a group found by looking past the cells of earlier groups is the same -/
theorem seq_same {p : Int → Bool} {nb : Int → List Int} {N i : Nat} (H : NbOk N nb) (hi : i < N) (hp : p i = true) (hg : inGs (grsG p nb N i) i = false) (k : Nat) :
    seqG (fun b => p b && !inGs (grsG p nb N i) b) nb i k = seqG p nb i k ∧ ∀ x ∈ seqG p nb i k, inGs (grsG p nb N i) x = false := by
  induction k with
  | zero => exact ⟨rfl, fun x hx => by rw [List.mem_singleton.1 hx]; exact hg⟩
  | succ k ih =>
    obtain ⟨e, hn⟩ := ih
    by_cases h : k < (seqG p nb i k).length
    · have hc := getD_mem h
      have hin := seq_in (q := p) H (Int.natCast_nonneg i) (by omega) k _ hc
      have hpc := seq_q (nb := nb) hp k _ hc
      have key : ∀ b ∈ nb ((seqG p nb i k).getD k 0), p b = true → inGs (grsG p nb N i) b = false := fun b hb hpb => by
        cases hq : inGs (grsG p nb N i) b with
        | false => rfl
        | true =>
          obtain ⟨G, hG, hbG⟩ := inGs_mem.1 hq
          obtain ⟨j, hj, rfl, hpj⟩ := grs_mem hG
          have hs := H.sym _ hin.1 hin.2 b hb
          have hb2 := H.inn _ hin.1 hin.2 b hb
          have hcl := grp_closed (q := p) H (Int.natCast_nonneg j) (by omega) b hbG _ hs hpc
          have : inGs (grsG p nb N i) ((seqG p nb i k).getD k 0) = true := inGs_mem.2 ⟨_, hG, hcl⟩
          rw [hn _ hc] at this
          cases this
      refine ⟨?_, fun x hx => ?_⟩
      · rw [seqG_yes (by rw [e]; exact h), seqG_yes h, e]
        refine vis_congr fun b hb => ?_
        cases hpb : p b with
        | false => rw [Bool.false_and]
        | true => rw [key b hb hpb]; rfl
      · rw [seqG_yes h] at hx
        rcases vis_mem.1 hx with hx | ⟨hx, hpx⟩
        · exact hn x hx
        · exact key x hx hpx
    · rw [seqG_no (by rw [e]; exact h), seqG_no h]
      exact ⟨e, hn⟩

/-- the number of the last group that has a cell -/
def numG (Gs : List (List Int)) (b : Int) : Int := (Gs.foldl (fun (s : Int × Int) G => (s.1 + 1, if G.contains b = true then s.1 else s.2)) (0, -1)).2
theorem numG_fst (b : Int) (Gs : List (List Int)) : (Gs.foldl (fun (s : Int × Int) G => (s.1 + 1, if G.contains b = true then s.1 else s.2)) (0, -1)).1 = (Gs.length : Int) := by
  have key : ∀ (Gs : List (List Int)) (s : Int × Int), (Gs.foldl (fun (s : Int × Int) G => (s.1 + 1, if G.contains b = true then s.1 else s.2)) s).1 = s.1 + (Gs.length : Int) := by
    intro Gs
    induction Gs with
    | nil => intro s; simp
    | cons G Gs ih => intro s; rw [List.foldl_cons, ih, List.length_cons]; simp; omega
  rw [key]; simp
theorem numG_nil (b : Int) : numG [] b = -1 := rfl
theorem numG_snoc (Gs : List (List Int)) (G : List Int) (b : Int) : numG (Gs ++ [G]) b = if G.contains b = true then (Gs.length : Int) else numG Gs b := by
  unfold numG
  rw [List.foldl_append]
  show (if G.contains b = true then _ else _) = _
  rw [numG_fst]
theorem numG_neg (b : Int) (Gs : List (List Int)) : decide (numG Gs b < 0) = !inGs Gs b := by
  have key : ∀ n, ∀ Gs : List (List Int), Gs.length = n → decide (numG Gs b < 0) = !inGs Gs b := by
    intro n
    induction n with
    | zero => intro Gs h; rw [List.eq_nil_of_length_eq_zero h]; rfl
    | succ n ih =>
      intro Gs h
      obtain ⟨Gs', G, rfl⟩ : ∃ Gs' G, Gs = Gs' ++ [G] := ⟨Gs.dropLast, Gs.getLast (by intro e; rw [e] at h; simp at h), (List.dropLast_concat_getLast _).symm⟩
      rw [numG_snoc, inGs_snoc]
      cases hc : G.contains b with
      | true => rw [if_pos rfl, Bool.or_true]; exact decide_eq_false (by omega)
      | false => rw [if_neg (by decide), Bool.or_false]; exact ih Gs' (by simpa using h)
  exact key _ Gs rfl
theorem numG_lt (b : Int) (Gs : List (List Int)) : -1 ≤ numG Gs b ∧ numG Gs b < Gs.length := by
  have key : ∀ n, ∀ Gs : List (List Int), Gs.length = n → -1 ≤ numG Gs b ∧ numG Gs b < Gs.length := by
    intro n
    induction n with
    | zero => intro Gs h; rw [List.eq_nil_of_length_eq_zero h]; exact ⟨by show (-1 : Int) ≤ -1; omega, by show (-1 : Int) < 0; omega⟩
    | succ n ih =>
      intro Gs h
      obtain ⟨Gs', G, rfl⟩ : ∃ Gs' G, Gs = Gs' ++ [G] := ⟨Gs.dropLast, Gs.getLast (by intro e; rw [e] at h; simp at h), (List.dropLast_concat_getLast _).symm⟩
      rw [numG_snoc, List.length_append]
      have := ih Gs' (by simpa using h)
      split
      · simp; omega
      · simp; omega
  exact key _ Gs rfl
theorem grs_len (p : Int → Bool) (nb : Int → List Int) (N i : Nat) : (grsG p nb N i).length ≤ i := by
  induction i with
  | zero => exact Nat.le_refl _
  | succ i ih =>
    cases hc : (p i && !inGs (grsG p nb N i) i) with
    | false => rw [grs_no hc]; omega
    | true => rw [grs_yes hc, List.length_append]; simp; omega

end Go.Proofs.Ytnhcmloaanamnaa
