/-
  What is proved here: with more full cells a group that goes from above to below never goes; all cells are one group; the least weight from which on one goes, in both packages' words. Conditions: none but those that each theorem names. Own text.
-/
import Derived.Test.YtnhcmloaanamnaaSpp
import Derived.Test.YtnhcmloaanamnaaStb
namespace Go.Proofs.Ytnhcmloaanamnaa
open Go.RowKit
set_option linter.unusedVariables false

theorem spL_any {x : Int} {n : Nat} {Gs : List (List Int)} : ∀ k, (0 < (spL x n Gs k).length ↔ ∃ j, j < k ∧ spnB x n (Gs.getD j []) = true)
  | 0 => ⟨fun h => absurd h (Nat.lt_irrefl _), fun ⟨j, h, _⟩ => absurd h (Nat.not_lt_zero _)⟩
  | k + 1 => by
    have ih := spL_any (x := x) (n := n) (Gs := Gs) k
    cases h : spnB x n (Gs.getD k []) with
    | true =>
      rw [spL_yes h, List.length_append]
      exact ⟨fun _ => ⟨k, by omega, h⟩, fun _ => by simp⟩
    | false =>
      rw [spL_no h, ih]
      constructor
      · rintro ⟨j, h1, h2⟩; exact ⟨j, by omega, h2⟩
      · rintro ⟨j, h1, h2⟩
        refine ⟨j, ?_, h2⟩
        by_cases e : j = k
        · rw [e, h] at h2; cases h2
        · omega
theorem self_mem {q : Int → Bool} {nb : Int → List Int} {N : Nat} {a : Int} : a ∈ grpG q nb N a := by
  obtain ⟨e, he⟩ := seq_pre_le q nb a (Nat.zero_le N)
  unfold grpG
  rw [he]
  exact List.mem_append_left _ (List.mem_singleton.2 rfl)
theorem grs_cover {p : Int → Bool} {nb : Int → List Int} {N : Nat} : ∀ i, ∀ j, j < i → p ((j : Nat) : Int) = true → inGs (grsG p nb N i) ((j : Nat) : Int) = true
  | 0, j, h, _ => absurd h (Nat.not_lt_zero _)
  | i + 1, j, h, hp => by
    cases hc : (p i && !inGs (grsG p nb N i) i) with
    | false =>
      rw [grs_no hc]
      by_cases e : j = i
      · subst e
        rw [hp] at hc
        simpa using hc
      · exact grs_cover i j (by omega) hp
    | true =>
      rw [grs_yes hc, inGs_snoc]
      by_cases e : j = i
      · subst e
        rw [List.contains_iff_mem.2 self_mem]; simp
      · rw [grs_cover i j (by omega) hp]; rfl
/-- a group of fewer full cells lies in what is closed under sides with more of them -/
theorem seq_sub {p q : Int → Bool} {nb : Int → List Int} {a : Int} {G : List Int} (hpq : ∀ b, p b = true → q b = true) (ha : a ∈ G) (hc : ∀ x ∈ G, ∀ b ∈ nb x, q b = true → b ∈ G) (k : Nat) : ∀ x ∈ seqG p nb a k, x ∈ G := by
  induction k with
  | zero => intro x hx; rw [List.mem_singleton.1 hx]; exact ha
  | succ k ih =>
    by_cases h : k < (seqG p nb a k).length
    · rw [seqG_yes h]
      intro x hx
      rcases vis_mem.1 hx with hx | ⟨hx, hp⟩
      · exact ih x hx
      · exact hc _ (ih _ (getD_mem h)) x hx (hpq x hp)
    · rw [seqG_no h]; exact ih
/-- a group goes from above to below -/
def crB (x y : Int) (n : Nat) (p : Nat → Bool) : Bool := decide (0 < (spL x n (gsF p true x y n n) (gsF p true x y n n).length).length)
theorem crB_iff {x y : Int} {n : Nat} {p : Nat → Bool} : crB x y n p = true ↔ ∃ G ∈ gsF p true x y n n, spnB x n G = true := by
  unfold crB
  rw [decide_eq_true_iff, spL_any]
  constructor
  · rintro ⟨j, h1, h2⟩
    exact ⟨_, getD_memG h1, h2⟩
  · rintro ⟨G, h1, h2⟩
    obtain ⟨j, hj, e⟩ := List.getElem_of_mem h1
    exact ⟨j, hj, by rw [List.getD_eq_getElem?_getD, List.getElem?_eq_getElem hj]; show spnB x n _ = true; rw [e]; exact h2⟩
/-- what contains a cell of the first row and one of the last row -/
theorem spn_mem {x : Int} {n : Nat} {G : List Int} : spnB x n G = true ↔ (∃ a ∈ G, a < x) ∧ ∃ b ∈ G, (n : Int) - x ≤ b := by
  unfold spnB abvB blwB
  rw [Bool.and_eq_true, List.any_eq_true, List.any_eq_true]
  constructor
  · rintro ⟨⟨a, h1, h2⟩, ⟨b, h3, h4⟩⟩
    exact ⟨⟨a, h1, of_decide_eq_true h2⟩, ⟨b, h3, of_decide_eq_true h4⟩⟩
  · rintro ⟨⟨a, h1, h2⟩, ⟨b, h3, h4⟩⟩
    exact ⟨⟨a, h1, decide_eq_true h2⟩, ⟨b, h3, decide_eq_true h4⟩⟩
/-- a full cell's group, closed -/
theorem grp_at {x y : Int} {n : Nat} {q : Nat → Bool} (hx : 1 ≤ x) (hn : (n : Int) = x * y) {j : Nat} (hj : j < n) (hq : q j = true) : ∃ G ∈ gsF q true x y n n, ((j : Nat) : Int) ∈ G ∧ ∀ z ∈ G, ∀ b ∈ sidL x y z, pqF q true b = true → b ∈ G := by
  have h := grs_cover (p := pqF q true) (nb := sidL x y) (N := n) n j hj (by rw [pqF_nat, hq]; rfl)
  obtain ⟨G, hG, hm⟩ := inGs_mem.1 h
  obtain ⟨i, hi, rfl, _⟩ := grs_mem hG
  exact ⟨_, hG, hm, grp_closed (nb_ok hx hn) (by omega) (by omega)⟩
theorem crB_mono {x y : Int} {n : Nat} {p q : Nat → Bool} (hx : 1 ≤ x) (hn : (n : Int) = x * y) (hpq : ∀ j, p j = true → q j = true) (h : crB x y n p = true) : crB x y n q = true := by
  obtain ⟨G, hG, hs⟩ := crB_iff.1 h
  obtain ⟨i, hi, rfl, hp⟩ := grs_mem hG
  rw [pqF_nat] at hp
  obtain ⟨G2, hG2, hm, hc⟩ := grp_at hx hn hi (hpq i (by simpa using hp))
  have hsub := seq_sub (p := pqF p true) (q := pqF q true) (nb := sidL x y) (fun b hb => by
    unfold pqF at *
    have := hpq b.toNat (by simpa using hb)
    simpa using this) hm hc n
  obtain ⟨⟨a, h1, h2⟩, ⟨b, h3, h4⟩⟩ := spn_mem.1 hs
  exact crB_iff.2 ⟨G2, hG2, spn_mem.2 ⟨⟨a, hsub a h1, h2⟩, ⟨b, hsub b h3, h4⟩⟩⟩
theorem crB_ext {x y : Int} {n : Nat} {p q : Nat → Bool} (hx : 1 ≤ x) (hn : (n : Int) = x * y) (h : ∀ j, j < n → p j = q j) : crB x y n p = crB x y n q := by
  have key : ∀ p q : Nat → Bool, (∀ j, j < n → p j = q j) → crB x y n p = true → crB x y n q = true := fun p q h hp => by
    obtain ⟨G, hG, hs⟩ := crB_iff.1 hp
    obtain ⟨i, hi, rfl, hpi⟩ := grs_mem hG
    rw [pqF_nat] at hpi
    obtain ⟨G2, hG2, hm, hc⟩ := grp_at (q := q) hx hn hi (by rw [← h i hi]; simpa using hpi)
    have hin := seq_in (q := pqF p true) (nb_ok hx hn) (a := (i : Int)) (by omega) (by omega)
    have hsub : ∀ k, ∀ z ∈ seqG (pqF p true) (sidL x y) (i : Int) k, z ∈ G2 := fun k => by
      induction k with
      | zero => intro z hz; rw [List.mem_singleton.1 hz]; exact hm
      | succ k ih =>
        by_cases hk : k < (seqG (pqF p true) (sidL x y) (i : Int) k).length
        · intro z hz
          have hz2 := hin (k + 1) z hz
          rw [seqG_yes hk] at hz
          rcases vis_mem.1 hz with hz | ⟨hz, hpz⟩
          · exact ih z hz
          · refine hc _ (ih _ (getD_mem hk)) z hz ?_
            unfold pqF at *
            rw [← h z.toNat (by omega)]
            exact hpz
        · rw [seqG_no hk]; exact ih
    obtain ⟨⟨a, h1, h2⟩, ⟨b, h3, h4⟩⟩ := spn_mem.1 hs
    exact crB_iff.2 ⟨G2, hG2, spn_mem.2 ⟨⟨a, hsub n a h1, h2⟩, ⟨b, hsub n b h3, h4⟩⟩⟩
  rw [Bool.eq_iff_iff]
  exact ⟨key p q h, key q p fun j hj => (h j hj).symm⟩
/-- where all cells are full, the first column is in one group -/
theorem crB_all {x y : Int} {n : Nat} {p : Nat → Bool} (hx : 1 ≤ x) (hy : 1 ≤ y) (hn : (n : Int) = x * y) (h : ∀ j, j < n → p j = true) : crB x y n p = true := by
  have hxy : x ≤ x * y := by
    have := Int.mul_le_mul_of_nonneg_left (c := x) hy (by omega)
    rw [Int.mul_one] at this; exact this
  obtain ⟨G, hG, hm, hc⟩ := grp_at (q := p) (j := 0) hx hn (by omega) (h 0 (by omega))
  have col : ∀ k : Nat, (k : Int) < y → x * (k : Int) ∈ G := fun k => by
    induction k with
    | zero => intro _; simpa using hm
    | succ k ih =>
      intro hk
      have h1 := ih (by omega)
      have e : x * ((k + 1 : Nat) : Int) = x * (k : Int) + x := by
        rw [Int.natCast_succ, Int.mul_add, Int.mul_one]
      have hlt : x * ((k + 1 : Nat) : Int) < x * y := Int.mul_lt_mul_of_pos_left hk (by omega)
      have h0 : 0 ≤ x * ((k + 1 : Nat) : Int) := Int.mul_nonneg (by omega) (by omega)
      rw [e] at hlt h0 ⊢
      refine hc _ h1 _ ?_ ?_
      · unfold sidL
        rw [List.mem_append]
        right
        rw [if_pos hlt, List.mem_singleton]
      · unfold pqF
        rw [h _ (by omega)]; rfl
  obtain ⟨Y, rfl⟩ := Int.eq_ofNat_of_zero_le (show 0 ≤ y by omega)
  have hl := col (Y - 1) (by omega)
  have hY : x * ((Y - 1 : Nat) : Int) = (n : Int) - x := by
    rw [hn, show ((Y - 1 : Nat) : Int) = (Y : Int) - 1 by omega, Int.mul_sub, Int.mul_one]
  exact crB_iff.2 ⟨G, hG, spn_mem.2 ⟨⟨0, hm, by omega⟩, ⟨_, hl, by omega⟩⟩⟩
end Go.Proofs.Ytnhcmloaanamnaa
