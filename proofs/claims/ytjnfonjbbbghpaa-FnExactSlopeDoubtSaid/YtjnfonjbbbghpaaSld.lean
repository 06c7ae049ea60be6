/-
  What is proved here: SlopeDoubt, of both packages, as walks. Conditions: at most 1048576 numbers.
-/
import Derived.Test.YtjnfonjbbbghpaaSlw
namespace Go.Proofs.Ytjnfonjbbbghpaa
open Flt Go.RowKit
attribute [local go_sem] run_store_float
set_option linter.unusedVariables false

/-- by how much a number misses its line -/
def missF (xs ys : List Nat) (j : Nat) : Option Nat := fop .sub .f32 (selfF ys j) (fop .add .f32 (fop .mul .f32 (sloS xs ys) (selfF xs j)) (sloB xs ys))
def sldC (xs ys : List Nat) : Option Nat := rootF (fop .quo .f32 (sumT (sqT (missF xs ys)) xs.length) (lenF xs.length))

theorem mpost_num {c : Option Nat} {w w0 : World} {e : Ending} {w' : World} (h : VPost (numC c) (finO c) w e w') (hb : Below w0.heap.size w0 w) : MPost (numC c) (finO c) w0 e w' := mpost_of h hb

set_option maxHeartbeats 8000000 in
theorem specSld (A B : Option Addr) (c d : Nat) (xs ys : List Nat) (w : World) (Z : Nat) (hr : RowF w Z A xs) (hq : RowF w Z B ys) (h : sloIn xs ys = true) (hk : sloOk xs ys = true) :
    Calls Try.prog 38 #[.slice A xs.length c, .slice B ys.length d] w (MPost (numC (sldC xs ys)) (finO (sldC xs ys)) w) := by
  obtain ⟨_, _, h3, h4, h5⟩ := sloIn_yes h
  have H := Lib.hid (specSl A B c d xs ys w Z hr hq h)
  have H2 : Hid (Calls Try.prog 54 #[.slice A xs.length c, .slice B ys.length d] w (fun e w' => ∃ f g n, e = .returned (.tuple #[.float .f32 f, .float .f32 g, .bool true]) ∧ w' = w.drewN n ∧ Hid (can .f32 f = sloS xs ys) ∧ Hid (can .f32 g = sloB xs ys))) := H.out.mono fun _ _ ⟨f, g, b, n, h1, h2, h3, h4, h5, _⟩ => ⟨f, g, n, by rw [h1, h5.out, hk], h2, h3, h4⟩
  have HR := Lib.hid hr
  have HQ := Lib.hid hq
  have HE := Lib.hid h3
  clear H hr hq h hk h3
  go_enter Try.func38, Try.ntmps38
  go_wp2_with (go_at_call 54; refine H2.out.mono ?_; rintro e w' ⟨sw, bw, n0, rfl, rfl, hsw, hbw⟩)
  clear H2
  go_loopw [9, 10] (fun s i wr => ∃ k : Nat, k ≤ xs.length ∧ i = .int .i64 k ∧ ∃ n aw, wr = w.drewN n ∧ s = .float .f32 aw ∧ Hid (can .f32 aw = sumT (sqT (missF xs ys)) k)) (fun _ i _ => xs.length - (intOf i).toNat)
  case atStart => exact ⟨0, Nat.zero_le _, rfl, _, 0, rfl, rfl, rfl⟩
  case round =>
    obtain ⟨k, hk, rfl, n, aw, rfl, rfl, hA⟩ := hrel
    by_cases hlt : k < xs.length
    · obtain ⟨b, off, rfl, hb, hcell⟩ := HR.out (by omega)
      obtain ⟨b2, off2, rfl, hb2, hcell2⟩ := HQ.out (by have := HE.out; omega)
      have hc := hcell k hlt
      have hd := hcell2 k (by have := HE.out; omega)
      have hlt2 : k < ys.length := by have := HE.out; omega
      clear hcell hcell2
      go_wp2_with fail
      go_region_with ((with_reducible refine upon_bin rfl ?_); intro _ _ _ _)
      all_goals
        rename_i r1 n1 w1 e1 r2 n2 w2 e2 r3 n3 w3 e3
        have a1 : Hid (can .f32 r3 = missF xs ys k) := by show _ = _; rw [e3.out, e2.out, e1.out, hsw.out, hbw.out]; rfl
        clear e1 e2 e3 w1 w2 w3
        go_wp2_with ((with_reducible refine upon_bin rfl ?_); intro _ _ _ _)
        rename_i r4 n4 w4 e4 r5 n5 w5 e5
        go_roundw
        case rel => exact ⟨k + 1, by omega, by go_num, _, r5, rfl, rfl, by show _ = _; rw [e5.out, e4.out, hA.out, a1.out]; rfl⟩
        case measure => simp [intOf]; omega
    · have HK : Hid (k = xs.length) := by show k = xs.length; omega
      rw [HK.out] at hA
      go_wp2_with (first | ((with_reducible refine upon_bin rfl ?_); intro rq nq wq eq) | (go_at_call 71; refine (specSqrt _ _).mono ?_; rintro e w' ⟨gr, nr, rfl, rfl, hgr, hwr⟩; have hcr : can .f32 gr = sldC xs ys := by rw [hgr.out, eq.out, hA.out]; rfl) | (go_at_call 46; refine (specNumber _ _ hcr hwr _).mono ?_; rintro e w' ⟨g, n2, rfl, rfl, hg, hgw⟩))
      go_ret2
      exact ⟨g, rfl, hg, hgw, belowN (Below.refl _ _)⟩

set_option maxHeartbeats 8000000 in
theorem implSld (A B : Option Addr) (c d : Nat) (xs ys : List Nat) (w : World) (hr : RowF w w.heap.size A xs) (hq : RowF w w.heap.size B ys) (h : sloIn xs ys = true) (hk : sloOk xs ys = true) :
    Calls Try.prog 39 #[.slice A xs.length c, .slice B ys.length d] w (MPost (numC (sldC xs ys)) (finO (sldC xs ys)) w) := by
  obtain ⟨_, _, h3, h4, h5⟩ := sloIn_yes h
  have H := Lib.hid (implSl A B c d xs ys w _ hr hq h)
  have H2 : Hid (Calls Try.prog 25 #[.slice A xs.length c, .slice B ys.length d] w (fun e w' => ∃ f g n, e = .returned (.tuple #[.float .f32 f, .float .f32 g, .bool true]) ∧ w' = w.drewN n ∧ Hid (can .f32 f = sloS xs ys) ∧ Hid (can .f32 g = sloB xs ys))) := H.out.mono fun _ _ ⟨f, g, n, h1, h2, h3, h4⟩ => ⟨f, g, n, by rw [h1, hk], h2, (h3.out hk).1, (h3.out hk).2⟩
  have HR := Lib.hid hr
  have HQ := Lib.hid hq
  have HE := Lib.hid h3
  have hmk := run_mk xs.length (by omega)
  clear H hr hq h hk h3
  go_enter Try.func39, Try.ntmps39
  go_wp2_with (go_at_call 25; refine H2.out.mono ?_; rintro e w' ⟨sw, bw, n0, rfl, rfl, hsw, hbw⟩)
  clear H2 hmk
  go_loopw [25] (fun i wr => ∃ (k : Nat) (ws : List Nat), i = .int .i64 k ∧ k ≤ xs.length ∧ Hid (Part (missF xs ys) xs.length k ws) ∧ Hid (RowH wr w.heap.size ws) ∧ Hid (Below w.heap.size w wr)) (fun i _ => xs.length - (intOf i).toNat)
  case atStart => exact ⟨0, List.replicate xs.length 0, rfl, Nat.zero_le _, by have := Part.start (missF xs ys) (List.replicate xs.length 0); rwa [List.length_replicate] at this, rowH_new (w.drewN _) xs.length, (belowN (Below.refl _ _)).alloc (Nat.le_refl _) _⟩
  case round =>
    obtain ⟨k, ws, rfl, hk, hP, hR, hB⟩ := hrel
    by_cases hlt : k < xs.length
    · obtain ⟨b, off, rfl, hb, hcell⟩ := (HR.out.below hB.out) (by omega)
      obtain ⟨b2, off2, rfl, hb2, hcell2⟩ := (HQ.out.below hB.out) (by have := HE.out; omega)
      have hc := hcell k hlt
      have hd := hcell2 k (by have := HE.out; omega)
      have hlt2 : k < ys.length := by have := HE.out; omega
      have hc3 := hR.out.cell k (by rw [hP.out.len]; exact hlt)
      have hf3 := hR.out.free k (by rw [hP.out.len]; exact hlt)
      clear hcell hcell2
      go_wp2_with fail
      go_region_with ((with_reducible refine upon_bin rfl ?_); intro _ _ _ _)
      all_goals
        rename_i r1 n1 w1 e1 r2 n2 w2 e2 r3 n3 w3 e3
        have a1 : Hid (can .f32 r3 = missF xs ys k) := by show _ = _; rw [e3.out, e2.out, e1.out, hsw.out, hbw.out]; rfl
        have hP2 := Lib.hid (hP.out.step hlt a1.out)
        have hR2 := Lib.hid (fun n => (hR.out.dn (n := n)).set (k := k) (u := r3) (by rw [hP.out.len]; exact hlt))
        have hB2 := Lib.hid (fun n => (belowN (n := n) hB.out).setCell (p := ⟨w.heap.size, k, none⟩) (Nat.le_refl _) (.float .f32 r3))
        clear e1 e2 e3 w1 w2 w3 hP hR hB hc hd hc3 hf3
        go_wp2_with fail
        go_roundw
        case rel => exact ⟨k + 1, _, by go_num, by omega, hP2, hR2.out _, hB2.out _⟩
        case measure => simp [intOf]; omega
    · have HK : Hid (k = xs.length) := by show k = xs.length; omega
      have hP2 : Hid (Part (missF xs ys) xs.length xs.length ws) := by have := hP.out; rw [HK.out] at this; exact this
      have hl := hP2.out.len
      have HM := implMsq (some ⟨w.heap.size, 0, none⟩) xs.length ws wr _ hR.out.row (by omega)
      rw [dotF_tl hP2.out.all hP2.out.all _ (Nat.le_of_eq hl), hl] at HM
      have HM2 := Lib.hid HM
      clear HM hl
      go_wp2_with (first | (go_at_call 69; refine HM2.out.mono ?_; rintro e w' ⟨gm, nm, rfl, rfl, hgm, hwm⟩) | (go_at_call 72; refine (implRoot _ _).mono ?_; rintro e w' ⟨gr, nr, rfl, rfl, hgr, hwr⟩; have hcr : can .f32 gr = sldC xs ys := by rw [hgr.out, hgm.out]; rfl) | (go_at_call 48; refine (implNumber _ _ hcr hwr _).mono ?_; rintro e w' ⟨g, n2, rfl, rfl, hg, hgw⟩))
      go_ret2
      exact ⟨g, rfl, hg, hgw, belowN hB.out⟩

theorem specSldNo (A B : Option Addr) (c d : Nat) (xs ys : List Nat) (w : World) (H2 : Hid (Calls Try.prog 54 #[.slice A xs.length c, .slice B ys.length d] w (fun e w' => ∃ f g n, e = .returned (.tuple #[.float .f32 f, .float .f32 g, .bool false]) ∧ w' = w.drewN n))) :
    Calls Try.prog 38 #[.slice A xs.length c, .slice B ys.length d] w (MPost (some 0) false w) := by
  go_enter Try.func38, Try.ntmps38
  go_wp2_with (go_at_call 54; refine H2.out.mono ?_; rintro e w' ⟨sw, bw, n0, rfl, rfl⟩)
  go_ret2
  exact mpost_no rfl rfl (belowN (Below.refl _ _))
theorem implSldNo (A B : Option Addr) (c d : Nat) (xs ys : List Nat) (w : World) (H2 : Hid (Calls Try.prog 25 #[.slice A xs.length c, .slice B ys.length d] w (fun e w' => ∃ f g n, e = .returned (.tuple #[.float .f32 f, .float .f32 g, .bool false]) ∧ w' = w.drewN n))) :
    Calls Try.prog 39 #[.slice A xs.length c, .slice B ys.length d] w (MPost (some 0) false w) := by
  go_enter Try.func39, Try.ntmps39
  go_wp2_with (go_at_call 25; refine H2.out.mono ?_; rintro e w' ⟨sw, bw, n0, rfl, rfl⟩)
  go_ret2
  exact mpost_no rfl rfl (belowN (Below.refl _ _))

theorem sldBoth (xs ys : List Nat) (hn : xs.length ≤ 1048576) (hm : ys.length ≤ 1048576) : ∃ cc b,
    (∀ W A c B d, RowF W W.heap.size A xs → RowF W W.heap.size B ys → Calls Try.prog 38 #[.slice A xs.length c, .slice B ys.length d] W (MPost cc b W)) ∧
    (∀ W A c B d, RowF W W.heap.size A xs → RowF W W.heap.size B ys → Calls Try.prog 39 #[.slice A xs.length c, .slice B ys.length d] W (MPost cc b W)) := by
  cases h : sloIn xs ys with
  | false => exact ⟨_, _, fun W A c B d h1 h2 => specSldNo A B c d xs ys W ((specSlNo A B c d xs ys W _ h1 h2 hn hm h).mono fun _ _ ⟨n, h1, h2⟩ => ⟨0, 0, n, h1, h2⟩), fun W A c B d h1 h2 => implSldNo A B c d xs ys W ((implSlNo A B c d xs ys W _ h1 h2 hn hm h).mono fun _ _ ⟨n, h1, h2⟩ => ⟨0, 0, n, h1, h2⟩)⟩
  | true =>
    cases hk : sloOk xs ys with
    | false => exact ⟨_, _, fun W A c B d h1 h2 => specSldNo A B c d xs ys W ((specSl A B c d xs ys W _ h1 h2 h).mono fun _ _ ⟨f, g, b, n, h1, h2, h3, h4, h5, _⟩ => ⟨f, g, n, by rw [h1, h5.out, hk], h2⟩), fun W A c B d h1 h2 => implSldNo A B c d xs ys W ((implSl A B c d xs ys W _ h1 h2 h).mono fun _ _ ⟨f, g, n, h1, h2, _⟩ => ⟨f, g, n, by rw [h1, hk], h2⟩)⟩
    | true => exact ⟨_, _, fun W A c B d h1 h2 => specSld A B c d xs ys W _ h1 h2 h hk, fun W A c B d h1 h2 => implSld A B c d xs ys W h1 h2 h hk⟩

end Go.Proofs.Ytjnfonjbbbghpaa
