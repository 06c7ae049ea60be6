/-
  What is proved here: how the program begins a growing field, with its edge, as a walk. Conditions: a valid size, cells of it.
-/
import Derived.Test.YthhimielelpcoaaEdp
namespace Go.Proofs.Ythhimielelpcoaa
open Go.RowKit
set_option linter.unusedVariables false
set_option linter.unusedSimpArgs false

/-- four cells -/
def gV (u0 u1 u2 u3 : Value) : Nat → Value
  | 0 => u0
  | 1 => u1
  | 2 => u2
  | _ => u3
theorem RowM.set4 {w : World} {v : Nat} {V : Nat → Value} (r : RowM w v 4 V) (u0 u1 u2 u3 : Value) : RowM ((((w.setCell ⟨v, 0, none⟩ u0).setCell ⟨v, 1, none⟩ u1).setCell ⟨v, 2, none⟩ u2).setCell ⟨v, 3, none⟩ u3) v 4 (gV u0 u1 u2 u3) :=
  ((((r.set (k := 0) (u := u0) (by omega)).set (k := 1) (u := u1) (by omega)).set (k := 2) (u := u2) (by omega)).set (k := 3) (u := u3) (by omega)).ext fun j hj => by
    match j, hj with
    | 0, _ => rfl
    | 1, _ => rfl
    | 2, _ => rfl
    | 3, _ => rfl
theorem rowG_new (w : World) (u0 u1 u2 u3 : Value) (t : TypeId) : RowM (w.alloc (.cells #[u0, u1, u2, u3] t)) w.heap.size 4 (gV u0 u1 u2 u3) := by
  refine ⟨by simp, fun j hj => ?_, fun j hj => by simp [World.frozen?, World.alloc, -World.alloc_eq]⟩
  match j, hj with
  | 0, _ => simp [World.cell?, World.alloc, -World.alloc_eq, gV]
  | 1, _ => simp [World.cell?, World.alloc, -World.alloc_eq, gV]
  | 2, _ => simp [World.cell?, World.alloc, -World.alloc_eq, gV]
  | 3, _ => simp [World.cell?, World.alloc, -World.alloc_eq, gV]
theorem EdM.ext {w : World} {B m n : Nat} {p q : Nat → Bool} (h : EdM w B m p n) (e : ∀ k, k < n → p k = q k) : EdM w B m q n := by
  obtain ⟨D, hown, h2⟩ := h
  exact ⟨D, hown, fun z => (h2 z).trans ⟨fun ⟨k, a, b, c⟩ => ⟨k, a, b, by rw [← e k b]; exact c⟩, fun ⟨k, a, b, c⟩ => ⟨k, a, b, by rw [e k b]; exact c⟩⟩⟩

/-- a growing field, its cells and its edge -/
structure Frt (w : World) (FB B m : Nat) (x y : Int) (n : Nat) (q : Nat → Bool) : Prop where
  row : RowM w FB n (bo q)
  ed : EdM w B m (edg x y q) n
/-- a cell is filled -/
theorem implFil2 (x y : Int) (n f m FB B c lo hi : Nat) (q r : Nat → Bool) (w : World) (hv : sidB x y = true) (hn : (n : Int) = x * y) (hc : c < n) (hm : m ≤ 1000000)
    (h1 : lo ≤ FB) (h2 : FB < hi) (h3 : lo ≤ B) (h4 : B < hi) (h5 : FB ≠ B) (h6 : hi ≤ w.heap.size) (hr : Frt w FB B m x y n q) (hq : ∀ k, k < n → r k = fiP q c k) :
    Calls Try.prog 59 #[.agg #[.int .i64 x, .int .i64 y, .slice (some ⟨FB, 0, none⟩) n f, .map (some B)], .int .i64 (c : Int)] w fun en w' => en = .returned (.tuple #[]) ∧ Hid (RowM w' FB n (bo r)) ∧ Hid (EdM w' B (m + 4) (edg x y (fiP q c)) n) ∧ Hid (ButIn lo hi w w') := by
  refine (implFil x y n f m FB B c lo hi q (edg x y q) w hv hn hc hm h1 h2 h3 h4 h5 h6 hr.row hr.ed).mono ?_
  rintro en w' ⟨he, a, b, d⟩
  exact ⟨he, a.out.ext fun j hj => by unfold bo; rw [hq j hj], b.out.ext fun k hk => edg_fill (sidB_yes hv).1.1 hn hc hk, d⟩

set_option maxHeartbeats 8000000 in
set_option maxRecDepth 1000000 in
theorem implFro (x y : Int) (n G ac : Nat) (L : List Int) (A : Option Addr) (w : World) (hv : sidB x y = true) (hn : (n : Int) = x * y) (hL : ∀ a ∈ L, 0 ≤ a ∧ a < n) (hl : L.length ≤ 256) (hO : GroI w G L A ac) :
    Calls Try.prog 55 #[.int .i64 x, .int .i64 y, .slice A L.length ac] w fun e w' => ∃ FB B, e = .returned (.agg #[.int .i64 x, .int .i64 y, .slice (some ⟨FB, 0, none⟩) n n, .map (some B)]) ∧ FB ≠ B ∧ w.heap.size ≤ FB ∧ w.heap.size ≤ B ∧ Hid (Frt w' FB B (4 * L.length) x y n (frQ L)) ∧ Hid (Below w.heap.size w w') := by
  have hn2 : n ≤ 256 := by have := (sid_bd hv).2; omega
  have hmul : IntKind.i64.wrap (x * y) = (n : Int) := by rw [← hn]; exact IntWalk.i64_in _ (by omega)
  have hmm := @run_makeMap Try.prog
  have hmk := run_mkB n (by omega)
  have HFI : Hid (∀ (j FB B : Nat) (c : Nat) (W : World), atI L j = (c : Int) → j < L.length → FB < B → B < W.heap.size → Frt W FB B (4 * j) x y n (frQ (L.take j)) →
      Calls Try.prog 59 #[.agg #[.int .i64 x, .int .i64 y, .slice (some ⟨FB, 0, none⟩) n n, .map (some B)], .int .i64 (c : Int)] W fun en w' => en = .returned (.tuple #[]) ∧ Hid (Frt w' FB B (4 * (j + 1)) x y n (frQ (L.take (j + 1)))) ∧ Hid (ButIn FB (B + 1) W w')) := fun j FB B c W hc hj h5 h6 hF => by
    have hcn := hL _ (getD_mem hj : L.getD j 0 ∈ L)
    have hcn2 : 0 ≤ atI L j ∧ atI L j < n := hcn
    have ht : L.take (j + 1) = L.take j ++ [(c : Int)] := by rw [List.take_succ_eq_append_getElem hj, ← hc, atI_getD, List.getD_eq_getElem?_getD, List.getElem?_eq_getElem hj]; rfl
    have hq : ∀ k, frQ (L.take (j + 1)) k = fiP (frQ (L.take j)) c k := fun k => by rw [ht]; exact frQ_snoc
    refine (implFil2 x y n n (4 * j) FB B c FB (B + 1) (frQ (L.take j)) (frQ (L.take (j + 1))) W hv hn (by omega) (by omega) (Nat.le_refl _) (by omega) (by omega) (by omega) (by omega) (by omega) hF (fun k _ => hq k)).mono ?_
    rintro en w' ⟨he, a, b, d⟩
    exact ⟨he, ⟨a.out, by rw [show frQ (L.take (j + 1)) = fiP (frQ (L.take j)) c from funext hq, show 4 * (j + 1) = 4 * j + 4 by omega]; exact b.out⟩, d⟩
  have HC : Hid (∀ j, j < L.length → ∃ c : Nat, atI L j = (c : Int)) := fun j hj => by
    have h : 0 ≤ atI L j := (hL _ (getD_mem hj : L.getD j 0 ∈ L)).1
    exact ⟨(atI L j).toNat, by omega⟩
  have HOX : Hid (∀ a, A = some a → a.block < w.heap.size) := fun a ha => (hO.lt a ha).2
  have HO := Lib.hid hO
  clear hn hv hL hO
  -- the four new blocks
  have hb1 : Below w.heap.size w (w.alloc (.cells #[.int .i64 0, .int .i64 0, .slice none 0 0, .map none] 89)) := (Below.refl _ _).alloc (Nat.le_refl _) _
  have hx1 : (w.alloc (.cells #[.int .i64 0, .int .i64 0, .slice none 0 0, .map none] 89)).heap.size = w.heap.size + 1 := by simp
  have X1 := rowG_new w (.int .i64 0) (.int .i64 0) (.slice none 0 0) (.map none) 89
  obtain ⟨w1, hw1⟩ : ∃ w1, w1 = w.alloc (.cells #[.int .i64 0, .int .i64 0, .slice none 0 0, .map none] 89) := ⟨_, rfl⟩
  rw [← hw1] at hb1 hx1 X1
  have hb2 : Below w1.heap.size w1 (w1.alloc (.cells (madeCells #[.bool false] n) 4)) := (Below.refl _ _).alloc (Nat.le_refl _) _
  have hx2 : (w1.alloc (.cells (madeCells #[.bool false] n) 4)).heap.size = w.heap.size + 1 + 1 := by simp [hx1]
  have R2 := rowM_new w1 n (.bool false) 4
  obtain ⟨w2, hw2⟩ : ∃ w2, w2 = w1.alloc (.cells (madeCells #[.bool false] n) 4) := ⟨_, rfl⟩
  rw [← hw2] at hb2 hx2 R2
  have hb3 : Below w2.heap.size w2 (w2.alloc (.map #[] 0)) := (Below.refl _ _).alloc (Nat.le_refl _) _
  have hx3 : (w2.alloc (.map #[] 0)).heap.size = w.heap.size + 1 + 1 + 1 := by simp [hx2]
  have E3 := EdM.made w2 n
  obtain ⟨w3, hw3⟩ : ∃ w3, w3 = w2.alloc (.map #[] 0) := ⟨_, rfl⟩
  rw [← hw3] at hb3 hx3 E3
  have hb4 : Below w3.heap.size w3 (w3.alloc (.cells #[.int .i64 x, .int .i64 y, .slice (some ⟨w.heap.size + 1, 0, none⟩) n n, .map (some (w.heap.size + 1 + 1))] 89)) := (Below.refl _ _).alloc (Nat.le_refl _) _
  have V4 := varG_new w3 x y (w.heap.size + 1) n n (w.heap.size + 1 + 1) 89
  obtain ⟨w4, hw4⟩ : ∃ w4, w4 = w3.alloc (.cells #[.int .i64 x, .int .i64 y, .slice (some ⟨w.heap.size + 1, 0, none⟩) n n, .map (some (w.heap.size + 1 + 1))] 89) := ⟨_, rfl⟩
  rw [← hw4] at hb4 V4
  rw [hx3] at V4
  rw [hx1] at R2
  rw [hx2] at E3
  have HB4 : Hid (Below w.heap.size w w4) := hb1.trans ((hb2.mono (by omega)).trans ((hb3.mono (by omega)).trans (hb4.mono (by omega))))
  have F4 : Hid (Frt w4 (w.heap.size + 1) (w.heap.size + 1 + 1) (4 * 0) x y n (frQ (L.take 0))) :=
    ⟨((R2.below hb3).below hb4).ext fun j _ => rfl, (E3.below hb4).ext fun k _ => by rw [show frQ (L.take 0) = (fun _ => false) from rfl, edg_none]⟩
  have X4 : Hid (RowM w4 w.heap.size 4 (gV (.int .i64 0) (.int .i64 0) (.slice none 0 0) (.map none))) := ((X1.below hb2).below hb3).below hb4
  have V44 := Lib.hid V4
  have O4 := Lib.hid (HO.out.below HB4.out)
  rw [hw3, hw2, hw1] at hw4
  clear hb1 hx1 X1 hb2 hx2 R2 hb3 hx3 E3 hb4 V4 hw1 hw2 hw3 HO
  go_enter Try.func55, Try.ntmps55
  go_wp2_with fail
  rw [← hw4]
  clear hw4 hmm hmk hmul
  generalize hX : w.heap.size = X at *
  go_loopw [21] (fun i wr => ∃ j : Nat, i = .int .i64 j ∧ j ≤ L.length ∧ Hid (VarG wr (X + 1 + 1 + 1) x y (X + 1) n n (X + 1 + 1)) ∧ Hid (Frt wr (X + 1) (X + 1 + 1) (4 * j) x y n (frQ (L.take j))) ∧ Hid (RowM wr X 4 (gV (.int .i64 0) (.int .i64 0) (.slice none 0 0) (.map none))) ∧ Hid (GroI wr G L A ac) ∧ Hid (Below X w wr)) (fun i _ => L.length - (intOf i).toNat)
  case atStart => exact ⟨0, rfl, Nat.zero_le _, V44, F4, X4, O4, HB4⟩
  case round =>
    clear V44 F4 X4 O4 HB4
    obtain ⟨j, rfl, hj, hV, hF, hX4, hO, hB⟩ := hrel
    by_cases hlt : j < L.length
    · obtain ⟨c, hc⟩ := HC.out j hlt
      obtain ⟨lg, rfl⟩ := hO.out.adr hlt
      have hcs := hO.out.at hlt
      rw [hc] at hcs
      have HFC := Lib.hid (HFI.out j (X + 1) (X + 1 + 1) c wr hc hlt (by omega) (by have := hV.out.lt; omega) hF.out)
      have hol := (hO.out.lt _ rfl)
      have v0 := hV.out.c0
      have v1 := hV.out.c1
      have v2 := hV.out.c2
      have v3 := hV.out.c3
      clear hc
      go_wp2_with (go_at_call 59; refine HFC.out.mono ?_; rintro en w6 ⟨rfl, hF6, hI6⟩)
      have hVl := hV.out.lt
      have hlX : lg < X := HOX.out _ rfl
      have V6 : Hid (VarG w6 (X + 1 + 1 + 1) x y (X + 1) n n (X + 1 + 1)) := hV.out.heap (hI6.out.block _ hV.out.lt (.inr (by omega)))
      have X6 := Lib.hid (hX4.out.but hI6.out (.inl (by omega)))
      have O6 := Lib.hid (hO.out.but hI6.out (fun a ha => by injection ha with ha; subst ha; exact .inl (by show lg < X + 1; omega)))
      have B6 : Hid (Below X w w6) := hB.out.trans (hI6.out.toBelow (by omega) (by omega))
      clear hV hF hX4 hO hB hI6 v0 v1 v2 v3
      go_wp2_with fail
      go_roundw
      case rel => exact ⟨j + 1, by go_num, by omega, V6, hF6, X6, O6, B6⟩
      case measure => simp [intOf]; omega
    · have hjn : j = L.length := by omega
      have F7 : Hid (Frt wr (X + 1) (X + 1 + 1) (4 * L.length) x y n (frQ L)) := by
        have h := hF.out
        rw [hjn, List.take_length] at h
        exact h
      have v0 := hV.out.c0
      have v1 := hV.out.c1
      have v2 := hV.out.c2
      have v3 := hV.out.c3
      have a0 := hX4.out.cell 0 (by omega)
      have a1 := hX4.out.cell 1 (by omega)
      have a2 := hX4.out.cell 2 (by omega)
      have a3 := hX4.out.cell 3 (by omega)
      have f0 := hX4.out.free 0 (by omega)
      have f1 := hX4.out.free 1 (by omega)
      have f2 := hX4.out.free 2 (by omega)
      have f3 := hX4.out.free 3 (by omega)
      clear hF
      go_wp2_with fail
      have X9 := hX4.out.set4 (.int .i64 x) (.int .i64 y) (.slice (some ⟨X + 1, 0, none⟩) n n) (.map (some (X + 1 + 1)))
      have q0 := X9.cell 0 (by omega)
      have q1 := X9.cell 1 (by omega)
      have q2 := X9.cell 2 (by omega)
      have q3 := X9.cell 3 (by omega)
      simp only [gV] at q0 q1 q2 q3
      have I9 : ButIn X (X + 1) wr ((((wr.setCell ⟨X, 0, none⟩ (.int .i64 x)).setCell ⟨X, 1, none⟩ (.int .i64 y)).setCell ⟨X, 2, none⟩ (.slice (some ⟨X + 1, 0, none⟩) n n)).setCell ⟨X, 3, none⟩ (.map (some (X + 1 + 1)))) :=
        ((((ButIn.refl X (X + 1) wr).set (q := ⟨X, 0, none⟩) (Nat.le_refl _) (Nat.lt_succ_self _) _).set (q := ⟨X, 1, none⟩) (Nat.le_refl _) (Nat.lt_succ_self _) _).set (q := ⟨X, 2, none⟩) (Nat.le_refl _) (Nat.lt_succ_self _) _).set (q := ⟨X, 3, none⟩) (Nat.le_refl _) (Nat.lt_succ_self _) _
      have hVl := hV.out.lt
      refine bodyPost_ret (v := .agg #[.int .i64 x, .int .i64 y, .slice (some ⟨X + 1, 0, none⟩) n n, .map (some (X + 1 + 1))]) (by simp [results, Try.results55, go_sem, q0, q1, q2, q3]) rfl ?_
      rw [hX]
      exact ⟨X + 1, X + 1 + 1, rfl, by omega, by omega, by omega, ⟨F7.out.row.but I9 (.inr (by omega)), F7.out.ed.heap (I9.block _ (by have := hV.out.lt; omega) (.inr (by omega)))⟩, hB.out.trans (I9.toBelow (Nat.le_refl _) (by omega))⟩
end Go.Proofs.Ythhimielelpcoaa
