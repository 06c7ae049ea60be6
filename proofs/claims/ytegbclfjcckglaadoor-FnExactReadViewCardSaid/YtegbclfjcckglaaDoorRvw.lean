/-
  What is proved here: ReadView of the model, as a walk. Conditions: the text has at most 1048576 bytes.
-/
import Derived.Test.YtegbclfjcckglaaDoorPnt
import Derived.Test.YtegbclfjcckglaaDoorPnf
import Derived.Test.YtegbclfjcckglaaDoorVwq
import Derived.Test.YtegbclfjcckglaaDoorLiC
import Derived.Deep.RegionWith
namespace Go.Proofs.YtegbclfjcckglaaDoor
open Flt Go.RowKit
attribute [local go_sem] run_store_complex run_store_float

/-- the parts of a view -/
structure Vw where
  p : Nat
  q : Nat
  f : Nat
  k : Int
  l : Int
def vw0 : Vw := ⟨0, 0, 0, 0, 0⟩
def Vw.val (v : Vw) : Value := .agg #[.complex .f32 v.p v.q, .float .f32 v.f, .int .i64 v.k, .int .i64 v.l]
def rdV (x y z : ByteArray) : Bool := ptB x && (nmB y && (liB z && (decide ((liL z).length = 2) && viewB (ptN x).1 (ptN x).2 (nmN y) (atI (liL z) 0) (atI (liL z) 1))))
def rvO (x y z : ByteArray) : Vw := if rdV x y z = true then ⟨(ptN x).1, (ptN x).2, nmN y, atI (liL z) 0, atI (liL z) 1⟩ else vw0
def rvB (s : ByteArray) : Bool := match cutBd 59 s with | [x, y, z] => rdV x y z | _ => false
def rvV (s : ByteArray) : Vw := match cutBd 59 s with | [x, y, z] => rvO x y z | _ => vw0
def RVP (b : Bool) (v : Vw) (w : World) (e : Ending) (w' : World) : Prop := e = .returned (.tuple #[v.val, .bool b]) ∧ Hid (Below w.heap.size w w')

theorem part_size {d : UInt8} {s t : ByteArray} (h : t ∈ cutBd d s) : t.size ≤ s.size := by
  have key : ∀ (l p : List UInt8), p ∈ cutD d l → p.length ≤ l.length := by
    intro l
    induction l with
    | nil => intro p hp; rw [show cutD d [] = [[]] from rfl] at hp; rw [List.mem_singleton.1 hp]; simp
    | cons c r ih =>
      intro p hp
      by_cases hc : c = d
      · subst hc
        rw [cutD_comma] at hp
        rcases List.mem_cons.1 hp with rfl | hp
        · simp
        · have := ih p hp; simp; omega
      · obtain ⟨q, qs, e⟩ := cutD_cons d r
        rw [cutD_other hc e] at hp
        rcases List.mem_cons.1 hp with rfl | hp
        · have := ih q (by rw [e]; simp); simp; omega
        · have := ih p (by rw [e]; simp [hp]); simp; omega
  unfold cutBd at h
  obtain ⟨p, hp, rfl⟩ := List.mem_map.1 h
  have := key _ p hp
  rw [size_list] at this
  show p.toArray.size ≤ _
  simp; omega

theorem setCell_sizeV (w : World) (q : Addr) (u : Value) : (w.setCell q u).heap.size = w.heap.size := by simp [World.setCell]

set_option maxHeartbeats 2000000 in
theorem specRVlen (s : ByteArray) (hs : s.size ≤ 1048576) (hl : ¬ (cutBd 59 s).length = 3) (w : World) : Calls Tryd.prog 58 #[.string s] w (RVP false vw0 w) := by
  have HC : Hid (∀ W, Calls Tryd.prog 95 #[.string s, .int .u8 59] W fun e w' => ∃ g c, e = .returned (.slice (some ⟨g, 0, none⟩) (cutBd 59 s).length c) ∧ Hid (Below W.heap.size W w')) := fun W => (specCutD 59 59 rfl s hs W).mono fun e w' ⟨g, c, h1, _, h2⟩ => ⟨g, c, h1, h2⟩
  have e0 : (((cutBd 59 s).length : Int) != 3) = true := by simp; omega
  have e1 : (((cutBd 59 s).length : Int) == 3) = false := by simp; omega
  clear hl
  generalize (cutBd 59 s).length = n at *
  go_enter Tryd.func58, Tryd.ntmps58
  go_wp2_with fail
  refine (HC.out _).mono ?_
  rintro e w1 ⟨g, c, rfl, B1⟩
  have hx : w.heap.size < w1.heap.size := by have := B1.out.size; simp at this; omega
  have hc := fun o => (varq B1.out o).1
  have hf := fun o => (varq B1.out o).2
  have c0 := (hc 0).trans rfl; have c1 := (hc 1).trans rfl; have c2 := (hc 2).trans rfl; have c3 := (hc 3).trans rfl
  have HB : Hid (Below w.heap.size w w1) := ((Below.refl _ _).alloc (Nat.le_refl _) _).trans (B1.out.mono (by simp))
  clear B1 hc
  go_wp2_with fail
  refine bodyPost_ret (v := .tuple #[vw0.val, .bool false]) (by simp [results, Tryd.results58, go_sem, c0, c1, c2, c3, Vw.val, vw0]) rfl ⟨rfl, ?_⟩
  iterate 4 (refine Below.setCell ?_ (by exact Nat.le_refl _) _)
  exact HB.out

/-- a view that is none -/
def NoV (b1 b2 b3 : Bool) (n : Nat) : Prop := b1 = false ∨ (b1 = true ∧ b2 = false) ∨ (b1 = true ∧ b2 = true ∧ b3 = false) ∨ (b1 = true ∧ b2 = true ∧ b3 = true ∧ n ≠ 2)

set_option maxHeartbeats 4000000 in
theorem specRVno (s x y z : ByteArray) (p q f n : Nat) (b1 b2 b3 : Bool) (hno : NoV b1 b2 b3 n) (w : World)
    (HC : Hid (∀ W, Calls Tryd.prog 95 #[.string s, .int .u8 59] W fun e w' => ∃ g c, e = .returned (.slice (some ⟨g, 0, none⟩) 3 c) ∧ w'.cell? ⟨g, 0, none⟩ = some (.string x) ∧ Hid (w'.cell? ⟨g, 1, none⟩ = some (.string y)) ∧ Hid (w'.cell? ⟨g, 2, none⟩ = some (.string z)) ∧ Hid (g < w'.heap.size) ∧ Hid (Below W.heap.size W w')))
    (HX : Hid (∀ W, Calls Tryd.prog 97 #[.string x] W fun e w' => e = .returned (.tuple #[.complex .f32 p q, .bool b1]) ∧ Below W.heap.size W w'))
    (HY : Hid (∀ W, Calls Tryd.prog 105 #[.string y] W fun e w' => e = .returned (.tuple #[.float .f32 f, .bool b2]) ∧ Below W.heap.size W w'))
    (HZ : Hid (∀ W, Calls Tryd.prog 86 #[.string z] W fun e w' => ∃ A c, e = .returned (.tuple #[.slice A n c, .bool b3]) ∧ Hid (Below W.heap.size W w'))) :
    Calls Tryd.prog 58 #[.string s] w (RVP false vw0 w) := by
  have e0 : n = 2 ∨ (((n : Int) != 2) = true ∧ ((n : Int) == 2) = false) := by
    by_cases h : n = 2
    · exact .inl h
    · exact .inr ⟨by simp; omega, by simp; omega⟩
  rcases hno with rfl | ⟨rfl, rfl⟩ | ⟨rfl, rfl, rfl⟩ | ⟨rfl, rfl, rfl, h⟩
  all_goals
    first
      | (have e1 := (e0.resolve_left h).1
         have e2 := (e0.resolve_left h).2
         clear e0 h)
      | clear e0
    go_enter Tryd.func58, Tryd.ntmps58
    go_wp2_with fail
    refine (HC.out _).mono ?_
    rintro e w1 ⟨g, c, rfl, t0, T1, T2, hg, B1⟩
    go_wp2_with fail
    refine (HX.out _).mono ?_
    rintro e w2 ⟨rfl, b2⟩
    have t1 : w2.cell? ⟨g, 1, none⟩ = some (.string y) := by rw [b2.cell (p := ⟨g, 1, none⟩) hg.out]; exact T1.out
    have U2 : Hid (w2.cell? ⟨g, 2, none⟩ = some (.string z)) := by show _ = _; rw [b2.cell (p := ⟨g, 2, none⟩) hg.out]; exact T2.out
    have hg2 : Hid (g < w2.heap.size) := Nat.lt_of_lt_of_le hg.out b2.size
    have B2 := Lib.hid (B1.out.trans (b2.mono B1.out.size))
    clear t0 b2 B1 T1 T2 hg
    go_wp2_with fail
    refine (HY.out _).mono ?_
    rintro e w3 ⟨rfl, b3⟩
    have t2 : w3.cell? ⟨g, 2, none⟩ = some (.string z) := by rw [b3.cell (p := ⟨g, 2, none⟩) hg2.out]; exact U2.out
    have B3 := Lib.hid (B2.out.trans (b3.mono B2.out.size))
    clear t1 b3 B2 U2 hg2
    go_wp2_with fail
    refine (HZ.out _).mono ?_
    rintro e w4 ⟨A, c4, rfl, b4⟩
    have B4 := Lib.hid (B3.out.trans (b4.out.mono B3.out.size))
    have hx : w.heap.size < w4.heap.size := by have := B4.out.size; simp at this; omega
    have hc := fun o => (varq B4.out o).1
    have hf := fun o => (varq B4.out o).2
    have c0 := (hc 0).trans rfl; have c1 := (hc 1).trans rfl; have c2 := (hc 2).trans rfl; have c3 := (hc 3).trans rfl
    have HB : Hid (Below w.heap.size w w4) := ((Below.refl _ _).alloc (Nat.le_refl _) _).trans (B4.out.mono (by simp))
    clear t2 b4 B3 B4 hc
    go_wp2_with fail
    refine bodyPost_ret (v := .tuple #[vw0.val, .bool false]) (by simp [results, Tryd.results58, go_sem, c0, c1, c2, c3, Vw.val, vw0]) rfl ⟨rfl, ?_⟩
    iterate 4 (refine Below.setCell ?_ (by exact Nat.le_refl _) _)
    exact HB.out

set_option maxHeartbeats 4000000 in
theorem specRVyes (s x y z : ByteArray) (p q f : Nat) (k l : Int) (vb : Bool) (hvb : viewB p q f k l = vb) (v : Vw) (hvv : Hid (v = if vb = true then ⟨p, q, f, k, l⟩ else vw0)) (w : World)
    (HC : Hid (∀ W, Calls Tryd.prog 95 #[.string s, .int .u8 59] W fun e w' => ∃ g c, e = .returned (.slice (some ⟨g, 0, none⟩) 3 c) ∧ w'.cell? ⟨g, 0, none⟩ = some (.string x) ∧ Hid (w'.cell? ⟨g, 1, none⟩ = some (.string y)) ∧ Hid (w'.cell? ⟨g, 2, none⟩ = some (.string z)) ∧ Hid (g < w'.heap.size) ∧ Hid (Below W.heap.size W w')))
    (HX : Hid (∀ W, Calls Tryd.prog 97 #[.string x] W fun e w' => e = .returned (.tuple #[.complex .f32 p q, .bool true]) ∧ Below W.heap.size W w'))
    (HY : Hid (∀ W, Calls Tryd.prog 105 #[.string y] W fun e w' => e = .returned (.tuple #[.float .f32 f, .bool true]) ∧ Below W.heap.size W w'))
    (HZ : Hid (∀ W, Calls Tryd.prog 86 #[.string z] W fun e w' => ∃ b off c, e = .returned (.tuple #[.slice (some ⟨b, off, none⟩) 2 c, .bool true]) ∧ b < w'.heap.size ∧ w'.cell? ⟨b, off, none⟩ = some (.int .i64 k) ∧ w'.cell? ⟨b, off + 1, none⟩ = some (.int .i64 l) ∧ Hid (Below W.heap.size W w'))) :
    Calls Tryd.prog 58 #[.string s] w (RVP vb v w) := by
  have HV : Hid (∀ (x : Nat) (a : World), a.cell? ⟨x, 0, none⟩ = some (.complex .f32 p q) → a.cell? ⟨x, 1, none⟩ = some (.float .f32 f) → a.cell? ⟨x, 2, none⟩ = some (.int .i64 k) → a.cell? ⟨x, 3, none⟩ = some (.int .i64 l) → Calls Tryd.prog 106 #[.pointer (some ⟨x, 0, none⟩)] a fun e w' => e = .returned (.bool vb) ∧ a = w') := fun x a h0 h1 h2 h3 => by
    rw [← hvb]; exact specView p q f k l x a h0 h1 h2 h3
  clear hvb
  go_enter Tryd.func58, Tryd.ntmps58
  go_wp2_with fail
  refine (HC.out _).mono ?_
  rintro e w1 ⟨g, c, rfl, t0, T1, T2, hg, B1⟩
  go_wp2_with fail
  refine (HX.out _).mono ?_
  rintro e w2 ⟨rfl, b2⟩
  have t1 : w2.cell? ⟨g, 1, none⟩ = some (.string y) := by rw [b2.cell (p := ⟨g, 1, none⟩) hg.out]; exact T1.out
  have U2 : Hid (w2.cell? ⟨g, 2, none⟩ = some (.string z)) := by show _ = _; rw [b2.cell (p := ⟨g, 2, none⟩) hg.out]; exact T2.out
  have hg2 : Hid (g < w2.heap.size) := Nat.lt_of_lt_of_le hg.out b2.size
  have B2 := Lib.hid (B1.out.trans (b2.mono B1.out.size))
  clear t0 b2 B1 T1 T2 hg
  go_wp2_with fail
  refine (HY.out _).mono ?_
  rintro e w3 ⟨rfl, b3⟩
  have t2 : w3.cell? ⟨g, 2, none⟩ = some (.string z) := by rw [b3.cell (p := ⟨g, 2, none⟩) hg2.out]; exact U2.out
  have B3 := Lib.hid (B2.out.trans (b3.mono B2.out.size))
  clear t1 b3 B2 U2 hg2
  go_wp2_with fail
  refine (HZ.out _).mono ?_
  rintro e w4 ⟨b, off, c4, rfl, hb, hk, hl, b4⟩
  have B4 := Lib.hid (B3.out.trans (b4.out.mono B3.out.size))
  have e2 : (((2 : Nat) : Int) != 2) = false := by decide
  have hx : w.heap.size < w4.heap.size := by have := B4.out.size; simp at this; omega
  clear t2 b4 B3
  have BD : Below (w4.alloc (.cells #[.complex .f32 p q, .float .f32 f, .int .i64 k, .int .i64 l] 31)).heap.size (w4.alloc (.cells #[.complex .f32 p q, .float .f32 f, .int .i64 k, .int .i64 l] 31)) (w4.alloc (.cells #[.complex .f32 p q, .float .f32 f, .int .i64 k, .int .i64 l] 31)).drew := (Below.refl _ _).drew
  have hd := fun o => (varq BD o).1
  have d0 := Lib.hid ((hd 0).trans rfl); have d1 := Lib.hid ((hd 1).trans rfl); have d2 := Lib.hid ((hd 2).trans rfl); have d3 := Lib.hid ((hd 3).trans rfl)
  have B5 := Lib.hid ((B4.out.alloc B4.out.size (.cells #[.complex .f32 p q, .float .f32 f, .int .i64 k, .int .i64 l] 31)).trans (BD.mono (by have := B4.out.size; simp at this ⊢; omega)))
  have hx5 : Hid (w.heap.size < (w4.alloc (.cells #[.complex .f32 p q, .float .f32 f, .int .i64 k, .int .i64 l] 31)).drew.heap.size) := by have := B5.out.size; show _ < _; simp at this ⊢; omega
  clear BD hd B4
  cases vb
  all_goals
    go_wp2_with fail
    go_region_with fail
    all_goals
      clear hk hl hb hx e2
      generalize (w4.alloc (.cells #[.complex .f32 p q, .float .f32 f, .int .i64 k, .int .i64 l] 31)).drew = w5 at *
      have hx := hx5.out
      have hc := fun o => (varq B5.out o).1
      have hf := fun o => (varq B5.out o).2
      have c0 := (hc 0).trans rfl; have c1 := (hc 1).trans rfl; have c2 := (hc 2).trans rfl; have c3 := (hc 3).trans rfl
      have v0 := d0.out; have v1 := d1.out; have v2 := d2.out; have v3 := d3.out
      have HB : Hid (Below w.heap.size w w5) := ((Below.refl _ _).alloc (Nat.le_refl _) _).trans (B5.out.mono (by simp))
      clear hc B5 hx5
      go_wp2_with fail
      refine (HV.out _ _ d0.out d1.out d2.out d3.out).mono ?_
      rintro e w6 ⟨rfl, rfl⟩
      go_wp2_with fail
      first
        | refine bodyPost_ret (v := .tuple #[vw0.val, .bool false]) (by simp [results, Tryd.results58, go_sem, c0, c1, c2, c3, Vw.val, vw0]) rfl ⟨by rw [hvv.out]; rfl, ?_⟩
        | refine bodyPost_ret (v := .tuple #[(Vw.mk p q f k l).val, .bool true]) (by simp [results, Tryd.results58, go_sem, c0, c1, c2, c3, Vw.val]) rfl ⟨by rw [hvv.out]; rfl, ?_⟩
      iterate 4 (refine Below.setCell ?_ (by exact Nat.le_refl _) _)
      exact HB.out

/-! by the text -/
theorem rv_zero {x y z : ByteArray} (h : NoV (ptB x) (nmB y) (liB z) (liL z).length) : rdV x y z = false ∧ rvO x y z = vw0 := by
  have e : rdV x y z = false := by
    unfold rdV
    rcases h with h | ⟨h1, h2⟩ | ⟨h1, h2, h3⟩ | ⟨h1, h2, h3, h4⟩
    · rw [h]; rfl
    · rw [h1, h2]; rfl
    · rw [h1, h2, h3]; rfl
    · rw [h1, h2, h3, decide_eq_false h4]; rfl
  exact ⟨e, by unfold rvO; rw [e]; rfl⟩
theorem rv_ways (x y z : ByteArray) : NoV (ptB x) (nmB y) (liB z) (liL z).length ∨ (ptB x = true ∧ nmB y = true ∧ liB z = true ∧ (liL z).length = 2 ∧ rdV x y z = viewB (ptN x).1 (ptN x).2 (nmN y) (atI (liL z) 0) (atI (liL z) 1)) := by
  unfold NoV rdV
  cases h1 : ptB x
  · exact .inl (.inl rfl)
  cases h2 : nmB y
  · exact .inl (.inr (.inl ⟨rfl, rfl⟩))
  cases h3 : liB z
  · exact .inl (.inr (.inr (.inl ⟨rfl, rfl, rfl⟩)))
  by_cases h4 : (liL z).length = 2
  · right; refine ⟨rfl, rfl, rfl, h4, ?_⟩; rw [decide_eq_true h4]; rfl
  · exact .inl (.inr (.inr (.inr ⟨rfl, rfl, rfl, h4⟩)))

theorem specRV8 (s : ByteArray) (hs : s.size ≤ 1048576) (w : World) : Calls Tryd.prog 58 #[.string s] w (RVP (rvB s) (rvV s) w) := by
  by_cases hl : (cutBd 59 s).length = 3
  · obtain ⟨x, y, z, hP⟩ : ∃ x y z, cutBd 59 s = [x, y, z] := by
      match h : cutBd 59 s, hl with
      | [x, y, z], _ => exact ⟨x, y, z, rfl⟩
    have hsz : ∀ t ∈ cutBd 59 s, t.size ≤ 1048576 := fun t ht => Nat.le_trans (part_size ht) hs
    rw [hP] at hsz
    have HC : Hid (∀ W, Calls Tryd.prog 95 #[.string s, .int .u8 59] W fun e w' => ∃ g c, e = .returned (.slice (some ⟨g, 0, none⟩) 3 c) ∧ w'.cell? ⟨g, 0, none⟩ = some (.string x) ∧ Hid (w'.cell? ⟨g, 1, none⟩ = some (.string y)) ∧ Hid (w'.cell? ⟨g, 2, none⟩ = some (.string z)) ∧ Hid (g < w'.heap.size) ∧ Hid (Below W.heap.size W w')) := fun W => (specCutD 59 59 rfl s hs W).mono fun e w' ⟨g, c, h1, hS, h2⟩ => by
      rw [hP] at h1 hS
      exact ⟨g, c, h1, hS.out.cell rfl, hS.out.cell rfl, hS.out.cell rfl, (World.ownsRow.lt hS.out g rfl).2, h2⟩
    have HX := fun W => specPt x (hsz x (by simp)) W
    have HY := fun W => specNm y (hsz y (by simp)) W
    have HZ := fun W => specLi z (hsz z (by simp)) W
    have e1 : rvB s = rdV x y z := by unfold rvB; rw [hP]
    have e2 : rvV s = rvO x y z := by unfold rvV; rw [hP]
    rw [e1, e2]
    rcases rv_ways x y z with h | ⟨h1, h2, h3, h4, h5⟩
    · rw [(rv_zero h).1, (rv_zero h).2]
      exact specRVno s x y z _ _ _ _ _ _ _ h w HC HX HY fun W => (HZ W).mono fun e w' ⟨A, c, h1, _, h2⟩ => ⟨A, c, h1, h2⟩
    · rw [h1] at HX
      rw [h2] at HY
      unfold LPost at HZ
      rw [h3, h4] at HZ
      refine specRVyes s x y z _ _ _ _ _ _ h5.symm _ ?_ w HC HX HY fun W => (HZ W).mono fun e w' ⟨A, c, h1, hO, h2⟩ => ?_
      · show rvO x y z = _
        unfold rvO; rfl
      · obtain ⟨b, off, rfl, _, hlt, hc, _⟩ := hO.out (by omega)
        exact ⟨b, off, c, h1, hlt, hc 0 (by omega), hc 1 (by omega), h2⟩
  · have e1 : rvB s = false := by
      unfold rvB
      split
      · rename_i h; rw [h] at hl; exact absurd rfl hl
      · rfl
    have e2 : rvV s = vw0 := by
      unfold rvV
      split
      · rename_i h; rw [h] at hl; exact absurd rfl hl
      · rfl
    rw [e1, e2]
    exact specRVlen s hs hl w

end Go.Proofs.YtegbclfjcckglaaDoor
