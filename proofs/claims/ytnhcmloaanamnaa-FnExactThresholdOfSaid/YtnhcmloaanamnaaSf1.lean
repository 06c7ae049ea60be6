/-
  What is proved here: the swaps of ranges of a stable sort, as walks. Conditions: at most 65536 of them.
-/
import Derived.Test.YtnhcmloaanamnaaStc
import Derived.Test.YtnhcmloaanamnaaFlt
import Derived.OwnWalk
namespace Go.Proofs.Ytnhcmloaanamnaa
open Flt Go.RowKit
attribute [local go_sem] run_store_fS
set_option linter.unusedVariables false
set_option linter.unusedSimpArgs false

/-- what the comparison must tell, in a world that keeps what it reads -/
structure sFEnv (v : Nat → Nat) (n g : Nat) (K : Nat → Int) (C : Nat → Nat → Int) (Env : World → Prop) : Prop where
  but : ∀ W W', Env W → sBut g W W' → Env W'
  dn : ∀ W k, Env W → Env (W.drewN k)
  cmp : ∀ W x y, Env W → x < n → y < n → Calls Try.prog 37 #[.float .f32 (v (x)), .float .f32 (v (y))] W fun e w' => e = .returned (.int .i64 (C x y)) ∧ ∃ k, w' = W.drewN k
  sgn : ∀ x y, x < n → y < n → (C x y < 0 ↔ K x < K y)
def sFRw (v : Nat → Nat) (w : World) (g n : Nat) (f : Nat → Nat) : Prop := sRw w g n (fun j => (fun x : Nat => Value.float .f32 (v x)) (f j))
theorem sFRw.cell (v : Nat → Nat) {w : World} {g n : Nat} {f : Nat → Nat} (r : sFRw v w g n f) {j : Nat} (hj : j < n) : w.cell? ⟨g, j, none⟩ = some (.float .f32 (v (f j))) := sRw.cell r j hj
theorem sFRw.swap (v : Nat → Nat) {w : World} {g n p q : Nat} {f : Nat → Nat} (r : sFRw v w g n f) (hp : p < n) (hq : q < n) (hn : p ≠ q) :
    sFRw v ((w.setCell ⟨g, p, none⟩ (.float .f32 (v (f q)))).setCell ⟨g, q, none⟩ (.float .f32 (v (f p)))) g n (sSw f p q) := sRw.swap (T := (fun x : Nat => Value.float .f32 (v x))) r hp hq hn
theorem sFRw.dn (v : Nat → Nat) {w : World} {g n k : Nat} {f : Nat → Nat} (r : sFRw v w g n f) : sFRw v (w.drewN k) g n f := sRw.dn r
theorem sFRw.eqh (v : Nat → Nat) {w w' : World} {g n : Nat} {f : Nat → Nat} (r : sFRw v w g n f) (e : w'.heap = w.heap) : sFRw v w' g n f := sRw.eqh r e
theorem sFRw.dr (v : Nat → Nat) {w : World} {g n : Nat} {f : Nat → Nat} (r : sFRw v w g n f) : sFRw v w.drew g n f := sRw.dr r

set_option maxHeartbeats 4000000 in
theorem sFSwR (v : Nat → Nat) (g n c a b k : Nat) (f : Nat → Nat) (w : World) (hr : sFRw v w g n f) (hab : a + k ≤ b) (hb : b + k ≤ n) (hn : n ≤ 65536) :
    Calls Try.prog 131 #[.slice (some ⟨g, 0, none⟩) n c, .int .i64 (a : Nat), .int .i64 (b : Nat), .int .i64 (k : Nat), .func (.func 37) #[] #[]] w fun e w' => e = .returned (.tuple #[]) ∧ Hid (sFRw v w' g n (sSr f a b k)) ∧ Hid (sBut g w w') := by
  have HR : Hid (sFRw v w g n (sSr f a b 0)) := by rw [sSr_start]; exact hr
  clear hr
  go_enter Try.func131, Try.ntmps131
  go_wp2_with fail
  go_loopw [10] (fun i wr => ∃ j : Nat, j ≤ k ∧ i = .int .i64 (j : Nat) ∧ Hid (sFRw v wr g n (sSr f a b j)) ∧ Hid (sBut g w wr)) (fun i _ => k - (intOf i).toNat)
  case atStart => exact ⟨0, Nat.zero_le _, rfl, HR, sBut.refl _ _⟩
  case round =>
    clear HR
    obtain ⟨j, hj, rfl, hR, hB⟩ := hrel
    by_cases hlt : j < k
    · have c1 := hR.out.cell _ (j := a + j) (by omega)
      have c2 := hR.out.cell _ (j := b + j) (by omega)
      have f1 := hR.out.free (a + j) (by omega)
      have f2 := hR.out.free (b + j) (by omega)
      have R2 : Hid (sFRw v ((wr.setCell ⟨g, a + j, none⟩ (.float .f32 (v (sSr f a b j (b + j))))).setCell ⟨g, b + j, none⟩ (.float .f32 (v (sSr f a b j (a + j))))) g n (sSr f a b (j + 1))) := by
        have := hR.out.swap _ (p := a + j) (q := b + j) (by omega) (by omega) (by omega)
        rw [sSr_step (by omega)] at this
        exact this
      have B2 : Hid (sBut g w ((wr.setCell ⟨g, a + j, none⟩ (.float .f32 (v (sSr f a b j (b + j))))).setCell ⟨g, b + j, none⟩ (.float .f32 (v (sSr f a b j (a + j)))))) := (hB.out.set _).set _
      generalize sSr f a b j (a + j) = u1 at *
      generalize sSr f a b j (b + j) = u2 at *
      have w1 : IntKind.i64.wrap ((a : Int) + (j : Int)) = ((a + j : Nat) : Int) := by rw [← Int.natCast_add]; exact IntWalk.i64_in _ (by omega)
      have w2 : IntKind.i64.wrap ((b : Int) + (j : Int)) = ((b + j : Nat) : Int) := by rw [← Int.natCast_add]; exact IntWalk.i64_in _ (by omega)
      clear hR hB
      go_wp2_with fail
      go_region
      all_goals
        go_wp2_with fail
        go_roundw
        case rel => exact ⟨j + 1, by omega, by go_num, R2.out.dr, B2.out.dr⟩
        case measure => simp [intOf]; omega
    · have e : j = k := by omega
      subst e
      go_wp2_with fail
      go_end0
      exact ⟨rfl, hR, hB⟩
end Go.Proofs.Ytnhcmloaanamnaa
