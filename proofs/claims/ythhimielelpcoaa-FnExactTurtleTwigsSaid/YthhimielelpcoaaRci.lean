/-
  What is proved here: rows of complex numbers between blocks; the law's comparison, marks and looks of them. Conditions: at most 1024 numbers.
-/
import Derived.Test.YthhimielelpcoaaGrc
import Derived.Test.YthhimielelpcoaaOwnCb
namespace Go.Proofs.Ythhimielelpcoaa
open Flt Go.RowKit
attribute [local go_sem] run_store_complex
set_option linter.unusedVariables false

/-- a row that may be written, in a block from lo up to hi -/
structure RowCI (w : World) (lo hi : Nat) (A : Option Addr) (zs : List (Nat × Nat)) : Prop where
  le : hi ≤ w.heap.size
  inn : ∀ a, A = some a → lo ≤ a.block ∧ a.block < hi
  row : 0 < zs.length → ∃ b off, A = some ⟨b, off, none⟩ ∧ lo ≤ b ∧ b < hi ∧ (∀ j, j < zs.length → w.cell? ⟨b, off + j, none⟩ = some (cV (atC zs j))) ∧ ∀ j, j < zs.length → w.frozen? ⟨b, off + j, none⟩ = false
theorem RowCI.but {w w' : World} {lo hi l h : Nat} {A : Option Addr} {zs : List (Nat × Nat)} (r : RowCI w lo hi A zs) (hb : ButIn l h w w') (hd : hi ≤ l ∨ h ≤ lo) : RowCI w' lo hi A zs :=
  ⟨Nat.le_trans r.le hb.size, r.inn, fun h0 => by
    obtain ⟨b, off, hA, h1, h2, hc, hf⟩ := r.row h0
    have e : w'.heap[b]? = w.heap[b]? := hb.block b (Nat.lt_of_lt_of_le h2 r.le) (by omega)
    exact ⟨b, off, hA, h1, h2, fun j hj => by rw [World.cell?_of_block (w := w) e]; exact hc j hj, fun j hj => by rw [World.frozen?_of_block (w := w) e]; exact hf j hj⟩⟩
theorem RowCI.toRow {w : World} {lo hi : Nat} {A : Option Addr} {zs : List (Nat × Nat)} (r : RowCI w lo hi A zs) : RowC w w.heap.size A zs := fun h0 => by
  obtain ⟨b, off, hA, h1, h2, hc, _⟩ := r.row h0
  exact ⟨b, off, hA, Nat.lt_of_lt_of_le h2 r.le, hc⟩
theorem RowCI.toOwn {w : World} {lo hi : Nat} {A : Option Addr} {zs : List (Nat × Nat)} (r : RowCI w lo hi A zs) : OwnC w lo A zs := fun h0 => by
  obtain ⟨b, off, hA, h1, h2, hc, hf⟩ := r.row h0
  exact ⟨b, off, hA, h1, Nat.lt_of_lt_of_le h2 r.le, hc, hf⟩
theorem RowCI.lower {w : World} {lo lo' hi : Nat} {A : Option Addr} {zs : List (Nat × Nat)} (r : RowCI w lo hi A zs) (h : lo' ≤ lo) : RowCI w lo' hi A zs := ⟨r.le, fun a ha => by have := r.inn a ha; omega, fun h0 => by
  obtain ⟨b, off, hA, h1, h2, hc, hf⟩ := r.row h0
  exact ⟨b, off, hA, by omega, h2, hc, hf⟩⟩
theorem RowCI.empty {w : World} {lo hi : Nat} (h : hi ≤ w.heap.size) : RowCI w lo hi none [] := ⟨h, fun a ha => (nomatch ha), fun h0 => absurd h0 (by simp)⟩
theorem GroC.rowCI {w : World} {G c : Nat} {L : List (Nat × Nat)} {A : Option Addr} (h : GroC w G L A c) : RowCI w G w.heap.size A L := ⟨Nat.le_refl _, h.lt, fun h0 => h.own h0⟩

/-- what a function gives that returns a list of complex numbers, and whether there is one -/
def KPost (L : List (Nat × Nat)) (b : Bool) (w : World) (e : Ending) (w' : World) : Prop := ∃ A c, e = .returned (.tuple #[.slice A L.length c, .bool b]) ∧ Hid (RowCI w' w.heap.size w'.heap.size A L) ∧ Hid (Below w.heap.size w w')
theorem kpost_no {L : List (Nat × Nat)} {b : Bool} {w w' : World} (h1 : L = []) (h2 : b = false) (h : Below w.heap.size w w') : KPost L b w (.returned (.tuple #[.slice none 0 0, .bool false])) w' := by
  subst h1 h2
  exact ⟨none, 0, rfl, RowCI.empty (Nat.le_refl _), h⟩

theorem eqD (A B : Option Addr) (c d lo hi l2 h2 : Nat) (zs : List (Nat × Nat)) (w : World) (hr : RowCI w lo hi A zs) (hq : RowCI w l2 h2 B zs) (hn : zs.length ≤ 1024) :
    Calls Try.prog 30 #[.slice A zs.length c, .slice B zs.length d] w fun e w' => e = .returned (.bool true) ∧ Hid (Below w.heap.size w w') :=
  (eqC A B c d zs w w.heap.size hr.toRow hq.toRow (by omega)).mono fun _ _ ⟨h1, n, h2⟩ => ⟨h1, by subst h2; exact belowN (Below.refl _ _)⟩

theorem cI_allD : ∀ n : Fin 1026, floatToFloatBits .f64 (wI n.val) .f32 = some (cI n.val) ∧ FloatKind.f32.format.order (cI n.val) (cI n.val) = some .eq := by decide +kernel
theorem conv_markD {P : Program} {src dst : TypeId} (hs : (P.underlying src).isSome = true) (hd : P.underlying dst = some (.complex .f32)) (n : Nat) (hn : n ≤ 1025) (w : World) :
    (convert src dst (.complex .f64 (wI n) 4607182418800017408)).run P w = .ok (.complex .f32 (cI n) one32) w := by
  have h := (cI_allD ⟨n, by omega⟩).1
  exact run_convert_complex w src dst .f64 .f32 _ _ _ _ hs hd (by unfold cConvBits; simp only [h, one_all.1]; rfl)

theorem mark1D (A : Option Addr) (c B : Nat) (zs : List (Nat × Nat)) (w : World) (hr : OwnC w B A zs) (hn : zs.length ≤ 1024) :
    Calls Try.prog 31 #[.slice A zs.length c, .int .i64 1] w fun e w' => e = .returned (.int .i64 (1 + zs.length : Nat)) ∧ Hid (OwnC w' B A (upC 1 zs.length)) ∧ Hid (But B A w w') := by
  have HR : Hid (OwnC w B A (mixC zs 1 0)) := by rw [mixC_zero]; exact hr
  clear hr
  go_enter Try.func31, Try.ntmps31
  go_wp2
  go_loopw [1, 5] (fun q i wr => ∃ k : Nat, k ≤ zs.length ∧ i = .int .i64 k ∧ q = .int .i64 (1 + k : Nat) ∧ Hid (OwnC wr B A (mixC zs 1 k)) ∧ Hid (But B A w wr)) (fun _ i _ => zs.length - (intOf i).toNat)
  case atStart => exact ⟨0, Nat.zero_le _, rfl, rfl, HR, But.refl _ _ _⟩
  case round =>
    obtain ⟨k, hk, rfl, rfl, hC, hB⟩ := hrel
    by_cases hlt : k < zs.length
    · obtain ⟨b, off, rfl, hle, hb, hcell, hfree⟩ := hC.out (by rw [mixC_length]; omega)
      have hc := hcell k (by rw [mixC_length]; omega)
      unfold cV at hc
      have hf := hfree k (by rw [mixC_length]; omega)
      have N1 : Hid (OwnC (wr.setCell ⟨b, off + k, none⟩ (.complex .f32 (cI (1 + k)) one32)) B (some ⟨b, off, none⟩) (mixC zs 1 (k + 1))) :=
        hC.out.set (x := (cI (1 + k), one32)) (by rw [mixC_length]; omega) (by rw [mixC_length, mixC_length]) fun j hj => by
          rw [mixC_length] at hj
          rw [at_mixC hj, at_mixC hj]
          by_cases e : j = k
          · subst e; rw [if_pos (by omega), if_pos rfl]
          · rw [if_neg e]
            by_cases h : j < k
            · rw [if_pos h, if_pos (by omega)]
            · rw [if_neg h, if_neg (by omega)]
      have N2 : Hid (But B (some ⟨b, off, none⟩) w (wr.setCell ⟨b, off + k, none⟩ (.complex .f32 (cI (1 + k)) one32))) := hB.out.setCell (p := ⟨b, off, none⟩) (q := ⟨b, off + k, none⟩) rfl rfl hle _
      have hfl : floatOfInt .f64 ((1 : Int) + (k : Int)) = wI (1 + k) := by unfold wI; congr 1
      have hcm := fun W => conv_markD (P := Try.prog) (src := 122) (dst := 113) (by kernel_rfl) (by kernel_rfl) (1 + k) (by omega) W
      clear hcell hfree hC hB HR hle
      go_wp2
      go_roundw
      case rel => exact ⟨k + 1, by omega, by go_num, by go_num, N1, N2⟩
      case measure => simp [intOf]; omega
    · have HE : Hid (mixC zs 1 k = upC 1 zs.length) := by rw [show k = zs.length by omega]; exact mixC_all _ _
      have HK : Hid (k = zs.length) := by show k = zs.length; omega
      go_wp2
      go_ret
      exact ⟨by rw [HK.out]; rfl, by rw [← HE.out]; exact hC, hB⟩

theorem held1D (A : Option Addr) (c Z n : Nat) (w : World) (hr : RowC w Z A (upC 1 n)) (hn : n ≤ 1024) :
    Calls Try.prog 32 #[.slice A n c, .int .i64 1] w fun e w' => e = .returned (.int .i64 (1 + n : Nat)) ∧ w = w' := by
  have HR := Lib.hid hr
  clear hr
  go_enter Try.func32, Try.ntmps32
  go_wp2
  go_loop [1, 5] (fun q i => ∃ k : Nat, k ≤ n ∧ i = .int .i64 k ∧ q = .int .i64 (1 + k : Nat)) (fun _ i => n - (intOf i).toNat)
  case atStart => exact ⟨0, Nat.zero_le _, rfl, rfl⟩
  case round =>
    obtain ⟨k, hk, rfl, rfl⟩ := hrel
    by_cases hlt : k < n
    · obtain ⟨b, off, rfl, hb, hcell⟩ := HR.out (by rw [upC_length]; omega)
      have hc := hcell k (by rw [upC_length]; omega)
      rw [at_upC hlt] at hc
      unfold cV at hc
      simp only at hc
      have hfl : floatOfInt .f64 ((1 : Int) + (k : Int)) = wI (1 + k) := by unfold wI; congr 1
      have hcm := fun W => conv_markD (P := Try.prog) (src := 122) (dst := 113) (by kernel_rfl) (by kernel_rfl) (1 + k) (by omega) W
      have hs1 := (cI_allD ⟨1 + k, by omega⟩).2
      simp only at hs1
      have hs2 := one_all.2
      clear hcell
      go_wp2
      go_round
      case rel => exact ⟨k + 1, by omega, by go_num, by go_num⟩
      case measure => simp [intOf]; omega
    · have HK : Hid (k = n) := by show k = n; omega
      go_wp2
      go_ret
      exact ⟨by rw [HK.out]; rfl, rfl⟩

theorem markD (A : Option Addr) (c lo hi : Nat) (zs : List (Nat × Nat)) (w : World) (hr : RowCI w lo hi A zs) (hn : zs.length ≤ 1024) :
    Calls Try.prog 31 #[.slice A zs.length c, .int .i64 1] w fun e w' => e = .returned (.int .i64 (1 + zs.length : Nat)) ∧ Hid (RowCI w' lo hi A (upC 1 zs.length)) ∧ Hid (ButIn lo hi w w') :=
  (mark1D A c lo zs w hr.toOwn hn).mono fun _ w' ⟨h1, h2, h3⟩ => ⟨h1, ⟨by rw [h3.out.size]; exact hr.le, hr.inn, fun h0 => by
    obtain ⟨b, off, hA, q1, q2, hc, hf⟩ := h2.out h0
    exact ⟨b, off, hA, q1, (hr.inn _ hA).2, hc, hf⟩⟩, h3.out.butIn hr.inn⟩
theorem heldD (A : Option Addr) (c lo hi n : Nat) (w : World) (hr : RowCI w lo hi A (upC 1 n)) (hn : n ≤ 1024) :
    Calls Try.prog 32 #[.slice A n c, .int .i64 1] w fun e w' => e = .returned (.int .i64 (1 + n : Nat)) ∧ Hid (Below w.heap.size w w') :=
  (held1D A c w.heap.size n w hr.toRow hn).mono fun _ w' ⟨h1, h2⟩ => ⟨h1, by subst h2; exact Below.refl _ _⟩

end Go.Proofs.Ythhimielelpcoaa
