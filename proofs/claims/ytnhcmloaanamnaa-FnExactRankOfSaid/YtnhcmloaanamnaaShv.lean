/-
  What is proved here: whether sheets are valid, of both packages, as walks. Conditions: at most 1048576 heights.
-/
import Derived.Test.YtnhcmloaanamnaaSht
import Derived.Test.YtnhcmloaanamnaaLat
namespace Go.Proofs.Ytnhcmloaanamnaa
open Flt Go.RowKit

/-- a local variable that holds a sheet -/
structure VarT (w : World) (v : Nat) (x y : Int) (A : Option Addr) (n c : Nat) : Prop where
  lt : v < w.heap.size
  c0 : w.cell? ⟨v, 0, none⟩ = some (.int .i64 x)
  c1 : w.cell? ⟨v, 1, none⟩ = some (.int .i64 y)
  c2 : w.cell? ⟨v, 2, none⟩ = some (.slice A n c)

theorem varT_new (w : World) (x y : Int) (A : Option Addr) (n c : Nat) (t : TypeId) : VarT (w.alloc (.cells #[.int .i64 x, .int .i64 y, .slice A n c] t)) w.heap.size x y A n c := by
  refine ⟨by simp, ?_, ?_, ?_⟩ <;> simp [World.cell?, World.alloc, -World.alloc_eq]
theorem VarT.below {w w' : World} {v : Nat} {x y : Int} {A : Option Addr} {n c : Nat} (h : VarT w v x y A n c) (hb : Below w.heap.size w w') : VarT w' v x y A n c :=
  ⟨Nat.lt_of_lt_of_le h.lt hb.size, by rw [hb.cell h.lt]; exact h.c0, by rw [hb.cell h.lt]; exact h.c1, by rw [hb.cell h.lt]; exact h.c2⟩

/-- all numbers are finite -/
def finAll (zs : List Nat) : Bool := zs.all (finB .f32)
theorem finAll_no {zs : List Nat} {k : Nat} (hk : k < zs.length) (h : finB .f32 (at0 zs k) = false) : finAll zs = false := by
  unfold finAll
  rw [Bool.eq_false_iff]
  intro g
  have := List.all_eq_true.1 g (at0 zs k) (by unfold at0; rw [List.getD_eq_getElem?_getD, List.getElem?_eq_getElem hk]; exact List.getElem_mem hk)
  rw [h] at this; cases this
theorem finAll_yes {zs : List Nat} (h : ∀ j, j < zs.length → finB .f32 (at0 zs j) = true) : finAll zs = true := by
  unfold finAll
  refine List.all_eq_true.2 fun x hx => ?_
  obtain ⟨j, hj, rfl⟩ := List.mem_iff_getElem.1 hx
  have := h j hj
  unfold at0 at this
  rwa [List.getD_eq_getElem?_getD, List.getElem?_eq_getElem hj] at this
theorem finAll_at {zs : List Nat} (h : finAll zs = true) {j : Nat} (hj : j < zs.length) : finB .f32 (at0 zs j) = true := by
  cases e : finB .f32 (at0 zs j) with
  | true => rfl
  | false => rw [finAll_no hj e] at h; cases h

theorem specFins (A : Option Addr) (c : Nat) (zs : List Nat) (w : World) (Z : Nat) (hr : RowF w Z A zs) (hn : zs.length ≤ 1048576) :
    Calls Try.prog 68 #[.slice A zs.length c] w fun e w' => e = .returned (.bool (finAll zs)) ∧ ∃ n, w' = w.drewN n := by
  have HR := Lib.hid hr
  clear hr
  go_enter Try.func68, Try.ntmps68
  go_wp2
  go_loopw [3] (fun i wr => ∃ k : Nat, k ≤ zs.length ∧ i = .int .i64 k ∧ Hid (∀ j, j < k → finB .f32 (at0 zs j) = true) ∧ ∃ n, wr = w.drewN n) (fun i _ => zs.length - (intOf i).toNat)
  case atStart => exact ⟨0, Nat.zero_le _, rfl, fun j h => absurd h (Nat.not_lt_zero _), 0, rfl⟩
  case round =>
    obtain ⟨k, hk, rfl, hJ, n, rfl⟩ := hrel
    by_cases hlt : k < zs.length
    · obtain ⟨b, off, rfl, hb, hcell⟩ := HR.out (by omega)
      have hc := hcell k hlt
      clear hcell
      cases hf : finB .f32 (at0 zs k)
      · have N := Lib.hid (finAll_no hlt hf)
        have HF := Lib.hid hf
        clear hf hJ
        go_wp2_with (go_at_call 84; refine (specFin _ _).mono ?_; rintro e w' ⟨rfl, n2, rfl⟩; rw [HF.out])
        go_ret
        exact ⟨by rw [N.out]; rfl, _, rfl⟩
      · have HF := Lib.hid hf
        have HJ : Hid (∀ j, j < k + 1 → finB .f32 (at0 zs j) = true) := fun j hj => by
          by_cases e : j = k
          · rw [e]; exact HF.out
          · exact hJ.out j (by omega)
        clear hf hJ
        go_wp2_with (go_at_call 84; refine (specFin _ _).mono ?_; rintro e w' ⟨rfl, n2, rfl⟩; rw [HF.out])
        go_roundw
        case rel => exact ⟨k + 1, by omega, by go_num, HJ, _, rfl⟩
        case measure => simp [intOf]; omega
    · have N : Hid (finAll zs = true) := finAll_yes fun j hj => hJ.out j (by omega)
      go_wp2
      go_ret
      exact ⟨by rw [N.out]; rfl, _, rfl⟩

theorem implFins (A : Option Addr) (c : Nat) (zs : List Nat) (w : World) (Z : Nat) (hr : RowF w Z A zs) (hn : zs.length ≤ 1048576) :
    Calls Try.prog 42 #[.slice A zs.length c] w fun e w' => e = .returned (.bool (finAll zs)) ∧ ∃ n, w' = w.drewN n := by
  have HR := Lib.hid hr
  clear hr
  go_enter Try.func42, Try.ntmps42
  go_wp2
  go_loopw [7] (fun i wr => ∃ k : Nat, k ≤ zs.length ∧ i = .int .i64 k ∧ Hid (∀ j, j < k → finB .f32 (at0 zs j) = true) ∧ ∃ n, wr = w.drewN n) (fun i _ => zs.length - (intOf i).toNat)
  case atStart => exact ⟨0, Nat.zero_le _, rfl, fun j h => absurd h (Nat.not_lt_zero _), 0, rfl⟩
  case round =>
    obtain ⟨k, hk, rfl, hJ, n, rfl⟩ := hrel
    by_cases hlt : k < zs.length
    · obtain ⟨b, off, rfl, hb, hcell⟩ := HR.out (by omega)
      have hc := hcell k hlt
      clear hcell
      cases hf : finB .f32 (at0 zs k)
      · have N := Lib.hid (finAll_no hlt hf)
        have HF := Lib.hid hf
        clear hf hJ
        go_wp2_with (go_at_call 81; refine (implFin _ _).mono ?_; rintro e w' ⟨rfl, n2, rfl⟩; rw [HF.out])
        go_ret
        exact ⟨by rw [N.out]; rfl, _, rfl⟩
      · have HF := Lib.hid hf
        have HJ : Hid (∀ j, j < k + 1 → finB .f32 (at0 zs j) = true) := fun j hj => by
          by_cases e : j = k
          · rw [e]; exact HF.out
          · exact hJ.out j (by omega)
        clear hf hJ
        go_wp2_with (go_at_call 81; refine (implFin _ _).mono ?_; rintro e w' ⟨rfl, n2, rfl⟩; rw [HF.out])
        go_roundw
        case rel => exact ⟨k + 1, by omega, by go_num, HJ, _, rfl⟩
        case measure => simp [intOf]; omega
    · have N : Hid (finAll zs = true) := finAll_yes fun j hj => hJ.out j (by omega)
      go_wp2
      go_ret
      exact ⟨by rw [N.out]; rfl, _, rfl⟩

/-- a sheet is valid -/
def shB (x y : Int) (zs : List Nat) : Bool := inB x 1 17 && (inB y 1 17 && (((zs.length : Int) == x * y) && finAll zs))
theorem shB_1 {x y : Int} {zs : List Nat} (h : inB x 1 17 = false) : shB x y zs = false := by unfold shB; rw [h]; rfl
theorem shB_2 {x y : Int} {zs : List Nat} (h : inB y 1 17 = false) : shB x y zs = false := by unfold shB; rw [h, Bool.false_and, Bool.and_false]
theorem shB_3 {x y : Int} {zs : List Nat} (h : ((zs.length : Int) == x * y) = false) : shB x y zs = false := by unfold shB; rw [h, Bool.false_and, Bool.and_false, Bool.and_false]
theorem shB_4 {x y : Int} {zs : List Nat} (h1 : inB x 1 17 = true) (h2 : inB y 1 17 = true) (h3 : ((zs.length : Int) == x * y) = true) : shB x y zs = finAll zs := by unfold shB; rw [h1, h2, h3]; rfl

theorem prod_bd {x y : Int} (hx : inB x 1 17 = true) (hy : inB y 1 17 = true) : 1 ≤ x * y ∧ x * y ≤ 289 := by
  obtain ⟨a, b⟩ := inB_yes hx
  obtain ⟨c, d⟩ := inB_yes hy
  have h1 := Int.mul_le_mul b d (by omega) (by omega)
  have h2 := Int.mul_pos (show 0 < x by omega) (show 0 < y by omega)
  omega
theorem prod_in {x y : Int} (hx : inB x 1 17 = true) (hy : inB y 1 17 = true) : IntKind.i64.wrap (x * y) = x * y := by
  obtain ⟨a, b⟩ := prod_bd hx hy
  exact IntWalk.i64_in _ (by omega)

set_option maxHeartbeats 600000 in
set_option maxRecDepth 100000 in
theorem specIsD (v : Nat) (x y : Int) (A : Option Addr) (c : Nat) (zs : List Nat) (w : World) (V : VarT w v x y A zs.length c) (hr : RowF w w.heap.size A zs) (hn : zs.length ≤ 1048576) (h1 : inB x 1 17 = true) (h2 : inB y 1 17 = true) (h3 : ((zs.length : Int) == x * y) = true) :
    Calls Try.prog 72 #[.pointer (some ⟨v, 0, none⟩)] w fun e w' => e = .returned (.bool (shB x y zs)) ∧ ∃ n, w' = w.drewN n := by
  obtain ⟨hx, c0, c1, c2⟩ := V
  have HR := Lib.hid hr
  clear hr
  have HX := Lib.hid (fun W => inS_any x 1 17 W)
  have HY := Lib.hid (fun W => inS_any y 1 17 W)
  have hw := prod_in h1 h2
  have N := Lib.hid (shB_4 h1 h2 h3)
  rw [h1] at HX
  rw [h2] at HY
  have HF := fun n => specFins A c zs (w.drewN n) w.heap.size HR.out hn
  have H := Lib.hid HF
  clear h1 h2 HF
  go_enter Try.func72, Try.ntmps72
  go_wp2_with fail
  go_quiet ((first | (go_at_call 43; (first | (with_reducible refine (HX.out (w.drewN _)).mono ?_) | (with_reducible refine (HY.out (w.drewN _)).mono ?_)); rintro e w' ⟨rfl, rfl⟩; exact ⟨rfl, _, rfl⟩) | (go_at_call 68; refine (H.out _).mono ?_; rintro e w' ⟨rfl, n, rfl⟩; exact ⟨rfl, _, by rw [World.drewN_drewN]⟩)))
  go_wp2_with fail
  go_ret
  exact ⟨by rw [N.out]; rfl, _, rfl⟩
set_option maxHeartbeats 600000 in
set_option maxRecDepth 100000 in
theorem specIs (v : Nat) (x y : Int) (A : Option Addr) (c : Nat) (zs : List Nat) (w : World) (V : VarT w v x y A zs.length c) (hr : RowF w w.heap.size A zs) (hn : zs.length ≤ 1048576) :
    Calls Try.prog 72 #[.pointer (some ⟨v, 0, none⟩)] w fun e w' => e = .returned (.bool (shB x y zs)) ∧ ∃ n, w' = w.drewN n := by
  obtain ⟨hx, c0, c1, c2⟩ := V
  have HR := Lib.hid hr
  clear hr
  have HX := Lib.hid (fun W => inS_any x 1 17 W)
  have HY := Lib.hid (fun W => inS_any y 1 17 W)
  cases h1 : inB x 1 17
  · have N := Lib.hid (shB_1 (y := y) (zs := zs) h1)
    rw [h1] at HX
    clear h1
    go_enter Try.func72, Try.ntmps72
    go_wp2_with fail
    go_quiet ((go_at_call 43; refine (HX.out (w.drewN _)).mono ?_; rintro e w' ⟨rfl, rfl⟩; exact ⟨rfl, _, rfl⟩))
    go_wp2_with fail
    go_ret
    exact ⟨by rw [N.out]; rfl, _, rfl⟩
  cases h2 : inB y 1 17
  · have N := Lib.hid (shB_2 (x := x) (zs := zs) h2)
    rw [h1] at HX
    rw [h2] at HY
    clear h1 h2
    go_enter Try.func72, Try.ntmps72
    go_wp2_with fail
    go_quiet ((go_at_call 43; (first | (with_reducible refine (HX.out (w.drewN _)).mono ?_) | (with_reducible refine (HY.out (w.drewN _)).mono ?_)); rintro e w' ⟨rfl, rfl⟩; exact ⟨rfl, _, rfl⟩))
    go_wp2_with fail
    go_ret
    exact ⟨by rw [N.out]; rfl, _, rfl⟩
  have hw := prod_in h1 h2
  cases h3 : ((zs.length : Int) == x * y)
  · have N := Lib.hid (shB_3 h3)
    rw [h1] at HX
    rw [h2] at HY
    clear h1 h2
    go_enter Try.func72, Try.ntmps72
    go_wp2_with fail
    go_quiet ((go_at_call 43; (first | (with_reducible refine (HX.out (w.drewN _)).mono ?_) | (with_reducible refine (HY.out (w.drewN _)).mono ?_)); rintro e w' ⟨rfl, rfl⟩; exact ⟨rfl, _, rfl⟩))
    go_wp2_with fail
    go_ret
    exact ⟨by rw [N.out]; rfl, _, rfl⟩
  · exact specIsD v x y A c zs w ⟨hx, c0, c1, c2⟩ HR.out hn h1 h2 h3

def sidesB (x y : Int) : Bool := inB x 1 17 && inB y 1 17
theorem implSides (x y : Int) (w : World) : Calls Try.prog 106 #[.int .i64 x, .int .i64 y] w fun e w' => e = .returned (.bool (sidesB x y)) ∧ w = w' := by
  cases h1 : inB x 1 17
  · have N : Hid (sidesB x y = false) := by show sidesB x y = false; unfold sidesB; rw [h1]; rfl
    have H1 := Lib.hid h1
    clear h1
    go_enter Try.func106, Try.ntmps106
    go_wp2_with (go_at_call 46; refine (within_any _ _ _ _).mono ?_; rintro e w' ⟨rfl, rfl⟩; rw [H1.out])
    go_ret
    exact ⟨by rw [N.out]; rfl, rfl⟩
  · have N : Hid (sidesB x y = inB y 1 17) := by show sidesB x y = _; unfold sidesB; rw [h1]; rfl
    have H1 := Lib.hid h1
    clear h1
    go_enter Try.func106, Try.ntmps106
    go_wp2_with (go_at_call 46; refine (within_any _ _ _ _).mono ?_; rintro e w' ⟨rfl, rfl⟩; try rw [H1.out])
    go_ret
    exact ⟨by rw [N.out]; rfl, rfl⟩

set_option maxHeartbeats 600000 in
set_option maxRecDepth 100000 in
theorem implValid (x y : Int) (A : Option Addr) (c : Nat) (zs : List Nat) (w : World) (hr : RowF w w.heap.size A zs) (hn : zs.length ≤ 1048576) :
    Calls Try.prog 77 #[.agg #[.int .i64 x, .int .i64 y, .slice A zs.length c]] w fun e w' => e = .returned (.bool (shB x y zs)) ∧ Hid (Below w.heap.size w w') := by
  have B0 : Below w.heap.size w (w.alloc (.cells #[.int .i64 x, .int .i64 y, .slice A zs.length c] 46)) := (Below.refl _ _).alloc (Nat.le_refl _) _
  have HB := Lib.hid B0
  have HR := Lib.hid (hr.carry B0)
  have HS := Lib.hid (fun W => implSides x y W)
  clear hr B0
  cases h1 : inB x 1 17 && inB y 1 17
  · have N : Hid (shB x y zs = false) := by
      show shB x y zs = false
      rw [Bool.and_eq_false_iff] at h1
      exact h1.elim shB_1 shB_2
    rw [show sidesB x y = false from h1] at HS
    clear h1 HR
    go_enter Try.func77, Try.ntmps77
    go_wp2_with (go_at_call 106; refine (HS.out _).mono ?_; rintro e w' ⟨rfl, rfl⟩)
    go_ret
    exact ⟨by rw [N.out]; rfl, HB⟩
  rw [show sidesB x y = true from h1] at HS
  rw [Bool.and_eq_true] at h1
  obtain ⟨h1, h2⟩ := h1
  have hw := prod_in h1 h2
  cases h3 : ((zs.length : Int) == x * y)
  · have N := Lib.hid (shB_3 h3)
    clear h1 h2 HR
    go_enter Try.func77, Try.ntmps77
    go_wp2_with (go_at_call 106; refine (HS.out _).mono ?_; rintro e w' ⟨rfl, rfl⟩)
    go_ret
    exact ⟨by rw [N.out]; rfl, HB⟩
  · have N := Lib.hid (shB_4 h1 h2 h3)
    have H := Lib.hid (implFins A c zs _ _ HR.out hn)
    clear h1 h2
    go_enter Try.func77, Try.ntmps77
    go_wp2_with (first | (go_at_call 106; refine (HS.out _).mono ?_; rintro e w' ⟨rfl, rfl⟩) | (go_at_call 42; refine H.out.mono ?_; rintro e w' ⟨rfl, n, rfl⟩))
    go_ret
    exact ⟨by rw [N.out]; rfl, belowN HB.out⟩


end Go.Proofs.Ytnhcmloaanamnaa
