/-
  What is proved here: rows of 32-bit numbers that may be written, and the law's marks in them, as walks. Conditions: at most 1048576 numbers.
-/
import Derived.Test.YtnhcmloaanamnaaInts
import Derived.Test.YtnhcmloaanamnaaSumB
namespace Go.Proofs.Ytnhcmloaanamnaa
open Flt Go.RowKit
attribute [local go_sem] run_store_float

/-- a slice of 32-bit numbers from a block on, that may be written -/
def OwnF (w : World) (B : Nat) (A : Option Addr) (zs : List Nat) : Prop :=
  0 < zs.length → ∃ b off, A = some ⟨b, off, none⟩ ∧ B ≤ b ∧ b < w.heap.size ∧ (∀ j, j < zs.length → w.cell? ⟨b, off + j, none⟩ = some (.float .f32 (at0 zs j))) ∧ ∀ j, j < zs.length → w.frozen? ⟨b, off + j, none⟩ = false

theorem OwnF.row {w : World} {B : Nat} {A : Option Addr} {zs : List Nat} (h : OwnF w B A zs) : RowF w w.heap.size A zs := by
  intro h0
  obtain ⟨b, off, hA, _, hlt, hc, _⟩ := h h0
  exact ⟨b, off, hA, hlt, hc⟩
theorem OwnF.below {w w' : World} {B : Nat} {A : Option Addr} {zs : List Nat} (h : OwnF w B A zs) (hb : Below w.heap.size w w') : OwnF w' B A zs := by
  intro h0
  obtain ⟨b, off, hA, hle, hlt, hc, hf⟩ := h h0
  exact ⟨b, off, hA, hle, Nat.lt_of_lt_of_le hlt hb.size, fun j hj => by rw [hb.cell hlt]; exact hc j hj, fun j hj => by rw [hb.frozen hlt]; exact hf j hj⟩
theorem RowF.but {w w' : World} {B B' : Nat} {A C : Option Addr} {zs : List Nat} (h : RowF w B' C zs) (hb : But B A w w') (hB : B' ≤ B) : RowF w' B' C zs := h.below ⟨hb.os, hb.tape, hb.output, by rw [hb.size]; exact Nat.le_refl _, fun k hk => hb.low k (by omega)⟩

theorem OwnF.set {w : World} {B k b off : Nat} {ys zs : List Nat} {x : Nat} (h : OwnF w B (some ⟨b, off, none⟩) ys) (hk : k < ys.length) (hl : zs.length = ys.length) (hz : ∀ j, j < ys.length → at0 zs j = if j = k then x else at0 ys j) :
    OwnF (w.setCell ⟨b, off + k, none⟩ (.float .f32 x)) B (some ⟨b, off, none⟩) zs := by
  intro _
  obtain ⟨b', off', e, hle, hlt, hc, hf⟩ := h (by omega)
  injection e with e
  injection e with e1 e2 _
  subst e1 e2
  refine ⟨b, off, rfl, hle, by simpa [World.setCell] using hlt, fun j hj => ?_, fun j hj => by rw [World.frozen?_setCell]; exact hf j (by omega)⟩
  rw [hz j (by omega)]
  by_cases e : j = k
  · subst e
    rw [World.cell?_setCell_same w _ _ (hc j (by omega)), if_pos rfl]
  · rw [World.cell?_setCell_other w _ _ _ (by intro h; injection h with _ h2 _; omega), hc j (by omega), if_neg e]

/-- an integer, as a 32-bit number -/
def fI (n : Nat) : Nat := floatOfInt .f32 (n : Int)
theorem fI_num (n : Nat) : nanW .f32 (fI n) = false := nanW_of_le (nearest_mod_le .f32 _ _ _)
theorem fI_self (n : Nat) : FloatKind.f32.format.order (fI n) (fI n) = some .eq := order_self (fI_num n)

/-- numbers from one on -/
def upF (m n : Nat) : List Nat := (List.range n).map fun j => fI (m + j)
theorem upF_length (m n : Nat) : (upF m n).length = n := by simp [upF]
theorem at_upF {m n j : Nat} (h : j < n) : at0 (upF m n) j = fI (m + j) := by simp [at0, upF, List.getD, h]
/-- k of them, and then what was -/
def mixF (zs : List Nat) (m k : Nat) : List Nat := (List.range zs.length).map fun j => if j < k then fI (m + j) else at0 zs j
theorem mixF_length (zs : List Nat) (m k : Nat) : (mixF zs m k).length = zs.length := by simp [mixF]
theorem at_mixF {zs : List Nat} {m k j : Nat} (h : j < zs.length) : at0 (mixF zs m k) j = if j < k then fI (m + j) else at0 zs j := by simp [at0, mixF, List.getD, h]
theorem mixF_zero (zs : List Nat) (m : Nat) : mixF zs m 0 = zs := by
  apply List.ext_getElem (by simp [mixF])
  intro j h1 h2
  simp [mixF, at0, List.getD, h2]
theorem mixF_all (zs : List Nat) (m : Nat) : mixF zs m zs.length = upF m zs.length := by
  apply List.ext_getElem (by simp [mixF, upF])
  intro j h1 h2
  simp [upF] at h2
  simp [mixF, upF, h2]

theorem markF (A : Option Addr) (c m B : Nat) (zs : List Nat) (w : World) (hr : OwnF w B A zs) (hn : zs.length ≤ 1048576) (hm : m ≤ 1048576) :
    Calls Try.prog 14 #[.slice A zs.length c, .int .i64 m] w fun e w' => e = .returned (.int .i64 (m + zs.length : Nat)) ∧ Hid (OwnF w' B A (upF m zs.length)) ∧ Hid (But B A w w') := by
  have HR : Hid (OwnF w B A (mixF zs m 0)) := by rw [mixF_zero]; exact hr
  clear hr
  go_enter Try.func14, Try.ntmps14
  go_wp2
  go_loopw [1, 5] (fun q i wr => ∃ k : Nat, k ≤ zs.length ∧ i = .int .i64 k ∧ q = .int .i64 (m + k : Nat) ∧ Hid (OwnF wr B A (mixF zs m k)) ∧ Hid (But B A w wr)) (fun _ i _ => zs.length - (intOf i).toNat)
  case atStart => exact ⟨0, Nat.zero_le _, rfl, rfl, HR, But.refl _ _ _⟩
  case round =>
    obtain ⟨k, hk, rfl, rfl, hC, hB⟩ := hrel
    by_cases hlt : k < zs.length
    · obtain ⟨b, off, rfl, hle, hb, hcell, hfree⟩ := hC.out (by rw [mixF_length]; omega)
      have hc := hcell k (by rw [mixF_length]; omega)
      have hf := hfree k (by rw [mixF_length]; omega)
      have N1 : Hid (OwnF (wr.setCell ⟨b, off + k, none⟩ (.float .f32 (fI (m + k)))) B (some ⟨b, off, none⟩) (mixF zs m (k + 1))) :=
        hC.out.set (by rw [mixF_length]; omega) (by rw [mixF_length, mixF_length]) fun j hj => by
          rw [mixF_length] at hj
          rw [at_mixF hj, at_mixF hj]
          by_cases e : j = k
          · subst e; rw [if_pos (by omega), if_pos rfl]
          · rw [if_neg e]
            by_cases h : j < k
            · rw [if_pos h, if_pos (by omega)]
            · rw [if_neg h, if_neg (by omega)]
      have N2 : Hid (But B (some ⟨b, off, none⟩) w (wr.setCell ⟨b, off + k, none⟩ (.float .f32 (fI (m + k))))) := hB.out.setCell (p := ⟨b, off, none⟩) (q := ⟨b, off + k, none⟩) rfl rfl hle _
      have hfl : floatOfInt .f32 ((m : Int) + (k : Int)) = fI (m + k) := by unfold fI; congr 1
      clear hcell hfree hC hB HR hle
      go_wp2
      go_roundw
      case rel => exact ⟨k + 1, by omega, by go_num, by go_num, N1, N2⟩
      case measure => simp [intOf]; omega
    · have HE : Hid (mixF zs m k = upF m zs.length) := by rw [show k = zs.length by omega]; exact mixF_all _ _
      have HK : Hid (k = zs.length) := by show k = zs.length; omega
      go_wp2
      go_ret
      exact ⟨by rw [HK.out]; rfl, by rw [← HE.out]; exact hC, hB⟩

theorem heldF (A : Option Addr) (c m Z n : Nat) (w : World) (hr : RowF w Z A (upF m n)) (hn : n ≤ 1048576) (hm : m ≤ 1048576) :
    Calls Try.prog 19 #[.slice A n c, .int .i64 m] w fun e w' => e = .returned (.int .i64 (m + n : Nat)) ∧ w = w' := by
  have HR := Lib.hid hr
  clear hr
  go_enter Try.func19, Try.ntmps19
  go_wp2
  go_loop [1, 5] (fun q i => ∃ k : Nat, k ≤ n ∧ i = .int .i64 k ∧ q = .int .i64 (m + k : Nat)) (fun _ i => n - (intOf i).toNat)
  case atStart => exact ⟨0, Nat.zero_le _, rfl, rfl⟩
  case round =>
    obtain ⟨k, hk, rfl, rfl⟩ := hrel
    by_cases hlt : k < n
    · obtain ⟨b, off, rfl, hb, hcell⟩ := HR.out (by rw [upF_length]; omega)
      have hc := hcell k (by rw [upF_length]; omega)
      rw [at_upF hlt] at hc
      have hfl : floatOfInt .f32 ((m : Int) + (k : Int)) = fI (m + k) := by unfold fI; congr 1
      have hself := fI_self (m + k)
      clear hcell
      go_wp2
      go_round
      case rel => exact ⟨k + 1, by omega, by go_num, by go_num⟩
      case measure => simp [intOf]; omega
    · have HK : Hid (k = n) := by show k = n; omega
      go_wp2
      go_ret
      exact ⟨by rw [HK.out]; rfl, rfl⟩

theorem mark1F (A : Option Addr) (c B : Nat) (zs : List Nat) (w : World) (hr : OwnF w B A zs) (hn : zs.length ≤ 1048576) :
    Calls Try.prog 14 #[.slice A zs.length c, .int .i64 1] w fun e w' => e = .returned (.int .i64 (1 + zs.length : Nat)) ∧ Hid (OwnF w' B A (upF 1 zs.length)) ∧ Hid (But B A w w') := markF A c 1 B zs w hr hn (by omega)
theorem held1F (A : Option Addr) (c Z n : Nat) (w : World) (hr : RowF w Z A (upF 1 n)) (hn : n ≤ 1048576) :
    Calls Try.prog 19 #[.slice A n c, .int .i64 1] w fun e w' => e = .returned (.int .i64 (1 + n : Nat)) ∧ w = w' := heldF A c 1 Z n w hr hn (by omega)

end Go.Proofs.Ytnhcmloaanamnaa
