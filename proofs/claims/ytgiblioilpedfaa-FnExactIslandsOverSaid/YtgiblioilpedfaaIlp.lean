/-
  What is proved here: islands of a sheet, told as lists. Conditions: none but those that each theorem names. Own text.
-/
import Derived.Test.YtgiblioilpedfaaFkg
import Derived.Test.YtgiblioilpedfaaOpenT
namespace Go.Proofs.Ytgiblioilpedfaa
open Flt Go.RowKit
set_option linter.unusedVariables false

/-- a place is higher than a level -/
def ovB (zs : List Nat) (lv j : Nat) : Bool := FloatKind.f32.format.order (at0 zs j) lv == some .gt
def pqI (zs : List Nat) (lv : Nat) (b : Int) : Bool := ovB zs lv b.toNat
theorem pqI_nat (zs : List Nat) (lv j : Nat) : pqI zs lv (j : Int) = ovB zs lv j := by unfold pqI; rw [Int.toNat_natCast]
def gsI (zs : List Nat) (lv : Nat) (x y : Int) (i : Nat) : List (List Int) := grsG (pqI zs lv) (Fk.sidL x y) zs.length i
def qsI (zs : List Nat) (lv : Nat) (x y : Int) (i : Nat) (b : Int) : Bool := pqI zs lv b && !inGs (gsI zs lv x y i) b
/-- how large the largest one is -/
def mxL (Gs : List (List Int)) : Nat := Gs.foldl (fun m G => max m G.length) 0
theorem mxL_nil : mxL [] = 0 := rfl
theorem mxL_snoc (Gs : List (List Int)) (G : List Int) : mxL (Gs ++ [G]) = max (mxL Gs) G.length := by unfold mxL; rw [List.foldl_append]; rfl
theorem mxL_le {n : Nat} : ∀ k (Gs : List (List Int)), Gs.length = k → (∀ G ∈ Gs, G.length ≤ n) → mxL Gs ≤ n := by
  intro k
  induction k with
  | zero => intro Gs h _; rw [List.eq_nil_of_length_eq_zero h]; exact Nat.zero_le _
  | succ k ih =>
    intro Gs h hG
    obtain ⟨Gs', G, rfl⟩ : ∃ Gs' G, Gs = Gs' ++ [G] := ⟨Gs.dropLast, Gs.getLast (by intro e; rw [e] at h; simp at h), (List.dropLast_concat_getLast _).symm⟩
    rw [mxL_snoc]
    have h1 := ih Gs' (by simpa using h) fun G hg => hG G (List.mem_append.2 (.inl hg))
    have h2 := hG G (List.mem_append.2 (.inr (List.mem_singleton.2 rfl)))
    omega
theorem inGs_put (Gs : List (List Int)) (L : List Int) (s j : Nat) : inGs (Gs ++ [L ++ [(s : Int)]]) j = if j = s then true else inGs (Gs ++ [L]) j := by
  rw [inGs_snoc, inGs_snoc]
  by_cases e : j = s
  · subst e
    rw [if_pos rfl, List.contains_iff_mem.2 (List.mem_append.2 (.inr (List.mem_singleton.2 rfl))), Bool.or_true]
  · rw [if_neg e]
    congr 1
    cases h : L.contains (j : Int) with
    | true => exact List.contains_iff_mem.2 (List.mem_append.2 (.inl (List.contains_iff_mem.1 h)))
    | false =>
      cases h2 : (L ++ [(s : Int)]).contains (j : Int) with
      | false => rfl
      | true =>
        rcases List.mem_append.1 (List.contains_iff_mem.1 h2) with h3 | h3
        · rw [List.contains_iff_mem.2 h3] at h; cases h
        · rw [List.mem_singleton] at h3; omega
theorem inGs_none (Gs : List (List Int)) (j : Nat) : inGs (Gs ++ [[]]) j = inGs Gs j := by rw [inGs_snoc]; simp
/-- what both answer -/
def ilB (x y : Int) (zs : List Nat) (lv : Nat) : Bool := shB x y zs && finB .f32 lv
def ilN (x y : Int) (zs : List Nat) (lv : Nat) : Nat := if ilB x y zs lv = true then (gsI zs lv x y zs.length).length else 0
def ilM (x y : Int) (zs : List Nat) (lv : Nat) : Nat := if ilB x y zs lv = true then mxL (gsI zs lv x y zs.length) else 0
theorem il_no {x y : Int} {zs : List Nat} {lv : Nat} (h : ilB x y zs lv = false) : ilN x y zs lv = 0 ∧ ilM x y zs lv = 0 := by unfold ilN ilM; rw [h, if_neg (by decide), if_neg (by decide)]; exact ⟨rfl, rfl⟩
theorem il_yes {x y : Int} {zs : List Nat} {lv : Nat} (h : ilB x y zs lv = true) : ilN x y zs lv = (gsI zs lv x y zs.length).length ∧ ilM x y zs lv = mxL (gsI zs lv x y zs.length) := by unfold ilN ilM; rw [if_pos h, if_pos h]; exact ⟨rfl, rfl⟩

/-- a variable that holds a level -/
structure LevV (w : World) (Z lv : Nat) : Prop where
  lt : Z < w.heap.size
  cell : w.cell? ⟨Z, 0, none⟩ = some (.float .f32 lv)
theorem LevV.below {w w' : World} {Z lv : Nat} (h : LevV w Z lv) (hb : Below w.heap.size w w') : LevV w' Z lv := ⟨Nat.lt_of_lt_of_le h.lt hb.size, by rw [hb.cell (p := ⟨Z, 0, none⟩) h.lt]; exact h.cell⟩
theorem levV_new (w : World) (lv : Nat) (u : TypeId) : LevV (w.alloc (.cells #[.float .f32 lv] u)) w.heap.size lv := by
  refine ⟨by simp, ?_⟩
  simp [World.cell?, World.alloc, -World.alloc_eq]
theorem below_oneI {G : Nat} (w : World) (o : Obj) (h : G ≤ w.heap.size) : Below G w (w.alloc o) := (Below.refl _ _).alloc h _
/-- a copy of a sheet and one of a level -/
theorem two_lev (w : World) (x y : Int) (A : Option Addr) (n c lv : Nat) (t u : TypeId) :
    Below w.heap.size w ((w.alloc (.cells #[.int .i64 x, .int .i64 y, .slice A n c] t)).alloc (.cells #[.float .f32 lv] u)) ∧ VarT ((w.alloc (.cells #[.int .i64 x, .int .i64 y, .slice A n c] t)).alloc (.cells #[.float .f32 lv] u)) w.heap.size x y A n c ∧ LevV ((w.alloc (.cells #[.int .i64 x, .int .i64 y, .slice A n c] t)).alloc (.cells #[.float .f32 lv] u)) (w.heap.size + 1) lv := by
  refine ⟨((Below.refl _ _).alloc (Nat.le_refl _) _).alloc (by simp) _, (varT_new w x y A n c t).below (below_oneI _ _ (Nat.le_refl _)), ?_⟩
  have e : (w.alloc (.cells #[.int .i64 x, .int .i64 y, .slice A n c] t)).heap.size = w.heap.size + 1 := by simp
  have h := levV_new (w.alloc (.cells #[.int .i64 x, .int .i64 y, .slice A n c] t)) lv u
  rwa [e] at h
theorem shB_xyI {x y : Int} {zs : List Nat} (h : shB x y zs = true) : sidesB x y = true ∧ (1 ≤ x ∧ x ≤ 17) ∧ (1 ≤ y ∧ y ≤ 17) ∧ (zs.length : Int) = x * y ∧ zs.length ≤ 289 ∧ 1 ≤ zs.length := by
  unfold shB at h
  simp only [Bool.and_eq_true, beq_iff_eq] at h
  obtain ⟨h1, h2, h3, _⟩ := h
  have hp := prod_bd h1 h2
  exact ⟨by unfold sidesB; rw [h1, h2]; rfl, inB_yes h1, inB_yes h2, h3, by omega, by omega⟩

theorem cloIsl (v u s c : Nat) (x y : Int) (A : Option Addr) (zs : List Nat) (lv : Nat) (w : World) (V : VarT w v x y A zs.length c) (L : LevV w u lv) (hr : RowF w w.heap.size A zs) (hs : s < zs.length) (hn : zs.length ≤ 1048576) :
    Calls Try.prog 68 #[.int .i64 (s : Int), .pointer (some ⟨v, 0, none⟩), .pointer (some ⟨u, 0, none⟩)] w fun e w' => e = .returned (.bool (pqI zs lv s)) ∧ Hid (Below w.heap.size w w') := by
  rw [pqI_nat]
  obtain ⟨b, off, rfl, hb, hcell⟩ := hr (by omega)
  have h2 := hcell s hs
  obtain ⟨vl, v0, v1, v2⟩ := V
  obtain ⟨ul, u0⟩ := L
  have B0 : Hid (∀ k : Nat, Below w.heap.size w (w.drewN k)) := fun k => belowN (Below.refl _ _)
  have N : Hid (ovB zs lv s = (FloatKind.f32.format.order (at0 zs s) lv == some .gt)) := rfl
  clear hcell hr v0 v1
  cases hg : (FloatKind.f32.format.order (at0 zs s) lv == some .gt)
  all_goals
    rw [hg] at N
    go_enter Try.func68, Try.ntmps68
    go_wp2_with fail
    go_quiet (fail)
    go_wp2_with fail
    go_ret
    exact ⟨by rw [N.out]; rfl, B0.out _⟩

end Go.Proofs.Ytgiblioilpedfaa
