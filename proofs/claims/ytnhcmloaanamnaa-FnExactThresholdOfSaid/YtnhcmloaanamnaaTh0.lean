/-
  What is proved here: how cmp.Compare compares 32-bit numbers; that tags can be put in order; a sorted list of numbers. Conditions: the numbers are finite.
-/
import Derived.Test.YtnhcmloaanamnaaOrd
import Derived.Test.YtnhcmloaanamnaaLvf
import Derived.Test.YtnhcmloaanamnaaStc
namespace Go.Proofs.Ytnhcmloaanamnaa
open Flt Go.RowKit
set_option linter.unusedVariables false
set_option linter.unusedSimpArgs false
theorem cmp_lt {a b : Int} : compare a b = .lt ↔ a < b := by
  simp only [compare, compareOfLessAndEq]
  constructor
  · intro h
    by_cases c : a < b
    · exact c
    · rw [if_neg c] at h
      split at h <;> cases h
  · intro h; rw [if_pos h]
theorem cmp_eq {a b : Int} : compare a b = .eq ↔ a = b := by
  simp only [compare, compareOfLessAndEq]
  constructor
  · intro h
    by_cases c : a < b
    · rw [if_pos c] at h; cases h
    · rw [if_neg c] at h
      split at h
      · assumption
      · cases h
  · intro h; rw [if_neg (by omega), if_pos h]
theorem cmp_gt {a b : Int} : compare a b = .gt ↔ b < a := by
  simp only [compare, compareOfLessAndEq]
  constructor
  · intro h
    by_cases c : a < b
    · rw [if_pos c] at h; cases h
    · rw [if_neg c] at h
      split at h
      · cases h
      · omega
  · intro h; rw [if_neg (by omega), if_neg (by omega)]
theorem ord_fin {x y : Nat} (hx : finB .f32 x = true) (hy : finB .f32 y = true) : FloatKind.f32.format.order x y = some (compare (Flt.sV .f32 x) (Flt.sV .f32 y)) := Flt.order_sV (of_decide_eq_true hx) (of_decide_eq_true hy)

/-- how two numbers compare -/
def cmpW (a b : Nat) : Int := if FloatKind.f32.format.order a b = some .lt then -1 else if FloatKind.f32.format.order a b = some .gt then 1 else 0
theorem cmpW_sV {a b : Nat} (ha : finB .f32 a = true) (hb : finB .f32 b = true) : (cmpW a b < 0 ↔ Flt.sV .f32 a < Flt.sV .f32 b) := by
  unfold cmpW
  rw [ord_fin ha hb]
  rcases Int.lt_trichotomy (Flt.sV .f32 a) (Flt.sV .f32 b) with h | h | h
  · rw [cmp_lt.2 h, if_pos rfl]; omega
  · rw [cmp_eq.2 h, if_neg (by decide), if_neg (by decide)]; omega
  · rw [cmp_gt.2 h, if_neg (by decide), if_pos rfl]; omega
theorem lt_sV {a b : Nat} (ha : finB .f32 a = true) (hb : finB .f32 b = true) : (FloatKind.f32.format.order a b == some .lt) = decide (Flt.sV .f32 a < Flt.sV .f32 b) := by
  rw [ord_fin ha hb]
  rcases Int.lt_trichotomy (Flt.sV .f32 a) (Flt.sV .f32 b) with h | h | h
  · rw [cmp_lt.2 h, decide_eq_true h]; rfl
  · rw [cmp_eq.2 h, decide_eq_false (by omega)]; rfl
  · rw [cmp_gt.2 h, decide_eq_false (by omega)]; rfl
theorem gt_sV {a b : Nat} (ha : finB .f32 a = true) (hb : finB .f32 b = true) : (FloatKind.f32.format.order a b == some .gt) = decide (Flt.sV .f32 b < Flt.sV .f32 a) := by
  rw [ord_fin ha hb]
  rcases Int.lt_trichotomy (Flt.sV .f32 a) (Flt.sV .f32 b) with h | h | h
  · rw [cmp_lt.2 h, decide_eq_false (by omega)]; rfl
  · rw [cmp_eq.2 h, decide_eq_false (by omega)]; rfl
  · rw [cmp_gt.2 h, decide_eq_true h]; rfl
theorem fin_num {a : Nat} (h : finB .f32 a = true) : nanW .f32 a = false := nanW_of_le (Nat.le_of_lt (of_decide_eq_true h))
set_option maxRecDepth 100000 in
theorem cmpF (a b : Nat) (ha : nanW .f32 a = false) (hb : nanW .f32 b = false) (w : World) :
    Calls Try.prog 37 #[.float .f32 a, .float .f32 b] w fun e w' => e = .returned (.int .i64 (cmpW a b)) ∧ w = w' := by
  have h1 := order_self ha
  have h2 := order_self hb
  have HN : Hid (∀ (x : Nat) (W : World), FloatKind.f32.format.order x x = some .eq → Calls Try.prog 79 #[.float .f32 x] W fun e w' => e = .returned (.bool false) ∧ W = w') := fun x W h => by
    go_enter Try.func79, Try.ntmps79
    go_wp2
    go_ret
    exact ⟨rfl, rfl⟩
  have H1 := Lib.hid (fun W => HN.out a W h1)
  have H2 := Lib.hid (fun W => HN.out b W h2)
  clear HN h1 h2 ha hb
  by_cases hl : FloatKind.f32.format.order a b = some .lt
  · have N : Hid (cmpW a b = -1) := by show _ = _; unfold cmpW; rw [if_pos hl]
    go_enter Try.func37, Try.ntmps37
    go_wp2_with (go_at_call 79; (first | refine (H1.out _).mono ?_ | refine (H2.out _).mono ?_); rintro e w' ⟨rfl, rfl⟩)
    go_ret
    exact ⟨by rw [N.out]; rfl, rfl⟩
  · have hl2 : (FloatKind.f32.format.order a b == some .lt) = false := beq_eq_false_iff_ne.2 hl
    by_cases hg : FloatKind.f32.format.order a b = some .gt
    · have N : Hid (cmpW a b = 1) := by show _ = _; unfold cmpW; rw [if_neg hl, if_pos hg]
      clear hl hl2
      go_enter Try.func37, Try.ntmps37
      go_wp2_with (go_at_call 79; (first | refine (H1.out _).mono ?_ | refine (H2.out _).mono ?_); rintro e w' ⟨rfl, rfl⟩)
      go_ret
      exact ⟨by rw [N.out]; rfl, rfl⟩
    · have hg2 : (FloatKind.f32.format.order a b == some .gt) = false := beq_eq_false_iff_ne.2 hg
      have N : Hid (cmpW a b = 0) := by show _ = _; unfold cmpW; rw [if_neg hl, if_neg hg]
      clear hl hg
      go_enter Try.func37, Try.ntmps37
      go_wp2_with (go_at_call 79; (first | refine (H1.out _).mono ?_ | refine (H2.out _).mono ?_); rintro e w' ⟨rfl, rfl⟩)
      go_ret
      exact ⟨by rw [N.out]; rfl, rfl⟩

/-! tags can be put in order -/
theorem find_pos {K : Nat → Int} {h : Nat → Nat} {p : Nat} : ∀ q, q ≤ p → (∀ k, q ≤ k → k < p → K (h p) < K (h k)) → ∃ j, j ≤ p ∧ (∀ k, j ≤ k → k < p → K (h p) < K (h k)) ∧ (j = 0 ∨ ¬ K (h p) < K (h (j - 1)))
  | 0, hq, hg => ⟨0, hq, hg, .inl rfl⟩
  | q + 1, hq, hg => by
    by_cases hk : K (h p) < K (h q)
    · exact find_pos q (by omega) fun k k1 k2 => by
        by_cases e : k = q
        · rw [e]; exact hk
        · exact hg k (by omega) k2
    · exact ⟨q + 1, hq, hg, .inr (by simpa using hk)⟩
theorem sPost_ex (K : Nat → Int) : ∀ p, ∃ h, sPost K (fun j => j) h 0 p
  | 0 => ⟨fun j => j, sPost.self fun i j h1 h2 h3 => by omega⟩
  | p + 1 => by
    obtain ⟨h, hp⟩ := sPost_ex K p
    obtain ⟨j, j1, j2, j3⟩ := find_pos (K := K) (h := h) (p := p) p (Nat.le_refl _) (fun k h1 h2 => by omega)
    exact ⟨sMv h p j, (hp.sam.wide (Nat.le_refl _) (Nat.le_succ _)).trans (sMv_sam (Nat.zero_le _) j1), sMv_srt (Nat.zero_le _) j1 hp.srt (fun k k1 k2 => by
      obtain ⟨i, i1, i2, e⟩ := hp.sam.fro k k1 k2
      rw [e, hp.sam.out p (by omega)]; exact i2) j2 j3⟩
theorem sPost.fin {K : Nat → Int} {n : Nat} {h : Nat → Nat} (p : sPost K (fun j => j) h 0 n) : sEnd K n h := ⟨p.sam, p.blk fun j h1 h2 => ⟨h1, h2⟩⟩
theorem sEnd_ex (K : Nat → Int) (n : Nat) : ∃ h, sEnd K n h := by
  obtain ⟨h, hp⟩ := sPost_ex K n
  exact ⟨h, hp.fin⟩

/-! a sorted list -/
def gK (zs : List Nat) (x : Nat) : Int := Flt.sV .f32 (at0 zs x)
def srtL (zs : List Nat) (h : Nat → Nat) : List Nat := (List.range zs.length).map fun j => at0 zs (h j)
theorem srtL_len (zs : List Nat) (h : Nat → Nat) : (srtL zs h).length = zs.length := by simp [srtL]
theorem srtL_at {zs : List Nat} {h : Nat → Nat} {j : Nat} (hj : j < zs.length) : at0 (srtL zs h) j = at0 zs (h j) := by simp [srtL, at0, List.getD, hj]
theorem srtL_ext {zs : List Nat} {f g : Nat → Nat} (e : ∀ j, j < zs.length → f j = g j) : srtL zs f = srtL zs g := List.ext_getElem (by rw [srtL_len, srtL_len]) fun j h1 h2 => by
  rw [srtL_len] at h1
  simp [srtL, e j h1]
theorem srtL_fin {zs : List Nat} {h : Nat → Nat} (hf : finAll zs = true) (hb : ∀ j, j < zs.length → h j < zs.length) : finAll (srtL zs h) = true := finAll_yes fun j hj => by
  rw [srtL_len] at hj
  rw [srtL_at hj]
  exact finAll_at hf (hb j hj)
end Go.Proofs.Ytnhcmloaanamnaa
