/-
  What is proved here: whether numbers are small, whether integers lie between two others, whether maps are valid, of both packages, as walks. Conditions: none.
-/
import Derived.Test.YtegbclfjcckglaaDoorNum
namespace Go.Proofs.YtegbclfjcckglaaDoor
open Flt Go.RowKit

def geQ (o : Option Ordering) : Bool := match o with | some .gt => true | some .eq => true | _ => false
def leQ (o : Option Ordering) : Bool := match o with | some .lt => true | some .eq => true | _ => false
theorem ordQ (o : Option Ordering) : o = none ∨ o = some .lt ∨ o = some .eq ∨ o = some .gt := by
  rcases o with _ | o
  · exact .inl rfl
  · cases o <;> simp
/-- from -1000 to 1000 -/
def smB (x : Nat) : Bool := geQ (FloatKind.f32.format.order x 3296329728) && leQ (FloatKind.f32.format.order x 1148846080)
def smC (p q : Nat) : Bool := smB p && smB q
def inQ (n lo hi : Int) : Bool := decide (lo ≤ n) && decide (n ≤ hi)
def mapB (k : Int) (p q : Nat) : Bool := inQ k 0 3 && smC p q

/-- the cells of a variable that is new, behind more memory -/
theorem varq {w w1 : World} {v : Array Value} {t : TypeId} (h : Below (w.alloc (.cells v t)).heap.size (w.alloc (.cells v t)) w1) (o : Nat) :
    w1.cell? ⟨w.heap.size, o, none⟩ = v[o]? ∧ w1.frozen? ⟨w.heap.size, o, none⟩ = false := by
  refine ⟨?_, ?_⟩
  · rw [h.cell (p := ⟨w.heap.size, o, none⟩) (by show w.heap.size < _; simp)]
    simp [World.cell?, World.alloc, -World.alloc_eq]
  · rw [h.frozen (p := ⟨w.heap.size, o, none⟩) (by show w.heap.size < _; simp)]
    exact World.frozen?_alloc_new _ _ _ _

theorem part_spec (x : Nat) (w : World) : Calls Tryd.prog 152 #[.float .f32 x] w fun e w' => e = .returned (.bool (smB x)) ∧ w = w' := by
  have N : Hid (smB x = (geQ (FloatKind.f32.format.order x 3296329728) && leQ (FloatKind.f32.format.order x 1148846080))) := rfl
  rcases ordQ (FloatKind.f32.format.order x 3296329728) with h | h | h | h <;> rcases ordQ (FloatKind.f32.format.order x 1148846080) with g | g | g | g
  all_goals
    have N2 := N.out
    rw [h, g] at N2
    have N3 := Lib.hid N2
    clear N N2
    go_enter Tryd.func152, Tryd.ntmps152
    go_wp2
    go_ret
    exact ⟨by rw [N3.out]; rfl, rfl⟩

theorem small_spec (p q : Nat) (w : World) : Calls Tryd.prog 130 #[.complex .f32 p q] w fun e w' => e = .returned (.bool (smC p q)) ∧ w = w' := by
  have N : Hid (smC p q = (smB p && smB q)) := rfl
  have HP := fun W => part_spec p W
  have HQ := fun W => part_spec q W
  cases hp : smB p
  · rw [hp] at N HP
    have H1 := Lib.hid HP
    clear HP HQ hp
    go_enter Tryd.func130, Tryd.ntmps130
    go_wp2_with (go_at_call 152; refine (H1.out _).mono ?_; rintro e w' ⟨rfl, rfl⟩)
    go_ret
    exact ⟨by rw [N.out]; rfl, rfl⟩
  · cases hq : smB q
    all_goals
      rw [hp, hq] at N
      rw [hp] at HP
      rw [hq] at HQ
      have H1 := Lib.hid HP
      have H2 := Lib.hid HQ
      clear HP HQ hp hq
      go_enter Tryd.func130, Tryd.ntmps130
      go_wp2_with fail
      refine (H1.out _).mono ?_
      rintro e w' ⟨rfl, rfl⟩
      go_wp2_with fail
      refine (H2.out _).mono ?_
      rintro e w' ⟨rfl, rfl⟩
      go_wp2_with fail
      go_ret
      exact ⟨by rw [N.out]; rfl, rfl⟩

theorem within_spec (n lo hi : Int) (w : World) :
    Calls Tryd.prog 119 #[.int .i64 n, .int .i64 lo, .int .i64 hi] w fun e w' => e = .returned (.bool (inQ n lo hi)) ∧ w = w' := by
  unfold inQ
  by_cases h1 : lo ≤ n
  · by_cases h2 : n ≤ hi
    · go_enter Tryd.func119, Tryd.ntmps119
      go_wp2
      go_ret
      exact ⟨by simp [h1, h2], rfl⟩
    · have h3 : hi < n := by omega
      go_enter Tryd.func119, Tryd.ntmps119
      go_wp2
      go_ret
      exact ⟨by simp [h2], rfl⟩
  · have h3 : n < lo := by omega
    go_enter Tryd.func119, Tryd.ntmps119
    go_wp2
    go_ret
    exact ⟨by simp [show ¬ lo ≤ n by omega], rfl⟩

theorem part_impl (x : Nat) (w : World) : Calls Tryd.prog 134 #[.float .f32 x] w fun e w' => e = .returned (.bool (smB x)) ∧ w = w' := by
  have N : Hid (smB x = (geQ (FloatKind.f32.format.order x 3296329728) && leQ (FloatKind.f32.format.order x 1148846080))) := rfl
  rcases ordQ (FloatKind.f32.format.order x 3296329728) with h | h | h | h <;> rcases ordQ (FloatKind.f32.format.order x 1148846080) with g | g | g | g
  all_goals
    have N2 := N.out
    rw [h, g] at N2
    have N3 := Lib.hid N2
    clear N N2
    go_enter Tryd.func134, Tryd.ntmps134
    go_wp2
    go_ret
    exact ⟨by rw [N3.out]; rfl, rfl⟩

theorem small_impl (p q : Nat) (w : World) : Calls Tryd.prog 104 #[.complex .f32 p q] w fun e w' => e = .returned (.bool (smC p q)) ∧ w = w' := by
  have N : Hid (smC p q = (smB p && smB q)) := rfl
  have HP := fun W => part_impl p W
  have HQ := fun W => part_impl q W
  cases hp : smB p
  · rw [hp] at N HP
    have H1 := Lib.hid HP
    clear HP HQ hp
    go_enter Tryd.func104, Tryd.ntmps104
    go_wp2_with (go_at_call 134; refine (H1.out _).mono ?_; rintro e w' ⟨rfl, rfl⟩)
    go_ret
    exact ⟨by rw [N.out]; rfl, rfl⟩
  · cases hq : smB q
    all_goals
      rw [hp, hq] at N
      rw [hp] at HP
      rw [hq] at HQ
      have H1 := Lib.hid HP
      have H2 := Lib.hid HQ
      clear HP HQ hp hq
      go_enter Tryd.func104, Tryd.ntmps104
      go_wp2_with fail
      refine (H1.out _).mono ?_
      rintro e w' ⟨rfl, rfl⟩
      go_wp2_with fail
      refine (H2.out _).mono ?_
      rintro e w' ⟨rfl, rfl⟩
      go_wp2_with fail
      go_ret
      exact ⟨by rw [N.out]; rfl, rfl⟩

theorem within_impl (n lo hi : Int) (w : World) :
    Calls Tryd.prog 103 #[.int .i64 n, .int .i64 lo, .int .i64 hi] w fun e w' => e = .returned (.bool (inQ n lo hi)) ∧ w = w' := by
  unfold inQ
  by_cases h1 : lo ≤ n
  · by_cases h2 : n ≤ hi
    · go_enter Tryd.func103, Tryd.ntmps103
      go_wp2
      go_ret
      exact ⟨by simp [h1, h2], rfl⟩
    · have h3 : hi < n := by omega
      go_enter Tryd.func103, Tryd.ntmps103
      go_wp2
      go_ret
      exact ⟨by simp [h2], rfl⟩
  · have h3 : n < lo := by omega
    go_enter Tryd.func103, Tryd.ntmps103
    go_wp2
    go_ret
    exact ⟨by simp [show ¬ lo ≤ n by omega], rfl⟩

theorem specMap (k : Int) (p q : Nat) (t : TypeId) (w : World) : Calls Tryd.prog 98 #[.pointer (some ⟨w.heap.size, 0, none⟩)] (w.alloc (.cells #[.int .i64 k, .complex .f32 p q] t)) fun e w' => e = .returned (.bool (mapB k p q)) ∧ (w.alloc (.cells #[.int .i64 k, .complex .f32 p q] t)) = w' := by
  have N : Hid (mapB k p q = (inQ k 0 3 && smC p q)) := rfl
  have c0 : (w.alloc (.cells #[.int .i64 k, .complex .f32 p q] t)).cell? ⟨w.heap.size, 0, none⟩ = some (.int .i64 k) := by simp [World.cell?, World.alloc, -World.alloc_eq]
  have c1 : (w.alloc (.cells #[.int .i64 k, .complex .f32 p q] t)).cell? ⟨w.heap.size, 1, none⟩ = some (.complex .f32 p q) := by simp [World.cell?, World.alloc, -World.alloc_eq]
  generalize w.alloc (.cells #[.int .i64 k, .complex .f32 p q] t) = a at *
  generalize w.heap.size = x at *
  have HK := fun W => within_spec k 0 3 W
  have HC := fun W => small_spec p q W
  cases hk : inQ k 0 3
  · rw [hk] at N HK
    have H1 := Lib.hid HK
    clear HK HC hk
    go_enter Tryd.func98, Tryd.ntmps98
    go_wp2_with (go_at_call 119; refine (H1.out _).mono ?_; rintro e w' ⟨rfl, rfl⟩)
    go_ret
    exact ⟨by rw [N.out]; rfl, rfl⟩
  · cases hc : smC p q
    all_goals
      rw [hk, hc] at N
      rw [hk] at HK
      rw [hc] at HC
      have H1 := Lib.hid HK
      have H2 := Lib.hid HC
      clear HK HC hk hc
      go_enter Tryd.func98, Tryd.ntmps98
      go_wp2_with (first | (go_at_call 119; refine (H1.out _).mono ?_; rintro e w' ⟨rfl, rfl⟩) | (go_at_call 130; refine (H2.out _).mono ?_; rintro e w' ⟨rfl, rfl⟩))
      go_ret
      exact ⟨by rw [N.out]; rfl, rfl⟩

theorem implMap (k : Int) (p q : Nat) (w : World) : Calls Tryd.prog 56 #[.agg #[.int .i64 k, .complex .f32 p q]] w fun e w' => e = .returned (.bool (mapB k p q)) ∧ Below w.heap.size w w' := by
  have N : Hid (mapB k p q = (inQ k 0 3 && smC p q)) := rfl
  have HK := fun W => within_impl k 0 3 W
  have HC := fun W => small_impl p q W
  cases hk : inQ k 0 3
  · rw [hk] at N HK
    have H1 := Lib.hid HK
    clear HK HC hk
    go_enter Tryd.func56, Tryd.ntmps56
    go_wp2_with (go_at_call 103; refine (H1.out _).mono ?_; rintro e w' ⟨rfl, rfl⟩)
    go_ret
    exact ⟨by rw [N.out]; rfl, (Below.refl _ _).alloc (Nat.le_refl _) _⟩
  · cases hc : smC p q
    all_goals
      rw [hk, hc] at N
      rw [hk] at HK
      rw [hc] at HC
      have H1 := Lib.hid HK
      have H2 := Lib.hid HC
      clear HK HC hk hc
      go_enter Tryd.func56, Tryd.ntmps56
      go_wp2_with (first | (go_at_call 103; refine (H1.out _).mono ?_; rintro e w' ⟨rfl, rfl⟩) | (go_at_call 104; refine (H2.out _).mono ?_; rintro e w' ⟨rfl, rfl⟩))
      go_ret
      exact ⟨by rw [N.out]; rfl, (Below.refl _ _).alloc (Nat.le_refl _) _⟩

end Go.Proofs.YtegbclfjcckglaaDoor
