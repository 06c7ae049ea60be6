/-
  What is proved here: the groups of the cells of a field that are full, or not (cellGroups), as walks. Conditions: a valid field.
-/
import Derived.Test.YtnhcmloaanamnaaGpo
namespace Go.Proofs.Ytnhcmloaanamnaa
open Go.RowKit
set_option linter.unusedVariables false

theorem below_oneC {G : Nat} (w : World) (o : Obj) (h : G ≤ w.heap.size) : Below G w (w.alloc o) := (Below.refl _ _).alloc h _
theorem boolV_new (w : World) (b : Bool) (t : TypeId) : (w.alloc (.cells #[.bool b] t)).cell? ⟨w.heap.size, 0, none⟩ = some (.bool b) := by simp [World.cell?, World.alloc, -World.alloc_eq]
theorem GroS.lower {w : World} {G G' c : Nat} {L : List (Option Addr × Nat × Nat)} {A : Option Addr} (h : GroS w G L A c) (hG : G' ≤ G) : GroS w G' L A c :=
  ⟨h.1, h.2.elim .inl fun ⟨g, cap, cur, h1, h2, h3⟩ => .inr ⟨g, cap, cur, h1, Nat.le_trans hG h2, h3⟩⟩
theorem cloCel (v u : Nat) (x y : Int) (F : Option Addr) (n f s : Nat) (p : Nat → Bool) (full : Bool) (w : World) (V : VarT w v x y F n f) (hu : u < w.heap.size) (hc : w.cell? ⟨u, 0, none⟩ = some (.bool full)) (hr : RowV w w.heap.size F n (bo p)) (hs : s < n) (hn : n ≤ 1048576) :
    Calls Try.prog 128 #[.int .i64 (s : Int), .pointer (some ⟨v, 0, none⟩), .pointer (some ⟨u, 0, none⟩)] w fun e w' => e = .returned (.bool (pqF p full s)) ∧ Hid (Below w.heap.size w w') := by
  rw [pqF_nat]
  obtain ⟨b, off, rfl, hb, hcell⟩ := hr (by omega)
  have h2 := hcell s hs
  unfold bo at h2
  obtain ⟨vl, v0, v1, v2⟩ := V
  have B0 : Hid (∀ k : Nat, Below w.heap.size w (w.drewN k)) := fun k => belowN (Below.refl _ _)
  clear hcell hr v0 v1
  cases hp : p s <;> cases full
  all_goals
    rw [hp] at h2
    clear hp
    go_enter Try.func128, Try.ntmps128
    go_wp2_with fail
    go_quiet (fail)
    go_wp2_with fail
    go_ret
    exact ⟨rfl, B0.out _⟩

theorem implCel (x y : Int) (F : Option Addr) (n f : Nat) (p : Nat → Bool) (full : Bool) (w : World) (hv : fvB x y n = true) (hr : RowV w w.heap.size F n (bo p)) :
    Calls Try.prog 116 #[.agg #[.int .i64 x, .int .i64 y, .slice F n f], .bool full] w fun e w' => ∃ B d Ls, e = .returned (.slice B Ls.length d) ∧ Hid (GroS w' w.heap.size Ls B d) ∧ Hid (Grps w' w.heap.size (gsF p full x y n n) Ls B) ∧ Hid (Below w.heap.size w w') := by
  obtain ⟨_, hn, hn1, hn2⟩ := fvB_yes hv
  have hsd : sidB x y = true := by
    cases e : sidB x y with
    | true => rfl
    | false => rw [fvB_1 e] at hv; cases hv
  have V1 := varT_new w x y F n f 66
  have B1 := below_var w x y F n f 66
  have hs1 : (w.alloc (.cells #[.int .i64 x, .int .i64 y, .slice F n f] 66)).heap.size = w.heap.size + 1 := by simp
  have B2 := below_oneC (w.alloc (.cells #[.int .i64 x, .int .i64 y, .slice F n f] 66)) (.cells #[.bool full] 4) (Nat.le_refl _)
  have V2 := V1.below B2
  have B3 := B1.trans (B2.mono B1.size)
  have c2 : ((w.alloc (.cells #[.int .i64 x, .int .i64 y, .slice F n f] 66)).alloc (.cells #[.bool full] 4)).cell? ⟨w.heap.size + 1, 0, none⟩ = some (.bool full) := by
    rw [← hs1]; exact boolV_new _ _ _
  have hz : w.heap.size + 1 < ((w.alloc (.cells #[.int .i64 x, .int .i64 y, .slice F n f] 66)).alloc (.cells #[.bool full] 4)).heap.size := by simp
  have R3 := hr.carry B3
  have HCL : Hid (CloP ((w.alloc (.cells #[.int .i64 x, .int .i64 y, .slice F n f] 66)).alloc (.cells #[.bool full] 4)) w.heap.size (w.heap.size + 1) n (pqF p full)) := fun W s hW hs =>
    cloCel w.heap.size (w.heap.size + 1) x y F n f s p full W (V2.below hW) (Nat.lt_of_lt_of_le hz hW.size) (by rw [hW.cell (p := ⟨w.heap.size + 1, 0, none⟩) hz]; exact c2) (R3.carry hW) hs (by omega)
  have HG := Lib.hid (implGro x y w.heap.size (w.heap.size + 1) n (pqF p full) _ hsd hn HCL.out)
  have HB := Lib.hid B3
  obtain ⟨vl, v0, v1, v2⟩ := V2
  clear hv hr hsd B1 B2 B3 V1 HCL hs1
  go_enter Try.func116, Try.ntmps116
  go_wp2_with (go_at_call 127; refine HG.out.mono ?_; rintro e w2 ⟨B, d, Ls, rfl, hO, hR, hb⟩)
  have HB2 : Hid (Below w.heap.size w w2) := HB.out.trans (hb.out.mono HB.out.size)
  have HO2 := Lib.hid (GroS.lower hO.out HB.out.size)
  have HR2 := Lib.hid (hR.out.lower HB.out.size)
  clear hb hO
  go_ret
  exact ⟨B, d, Ls, rfl, HO2, HR2, HB2⟩

end Go.Proofs.Ytnhcmloaanamnaa
