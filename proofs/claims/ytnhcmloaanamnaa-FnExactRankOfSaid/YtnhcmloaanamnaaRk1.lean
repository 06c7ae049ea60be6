/-
  What is proved here: RankOf of the program, as a walk: the places in order of their numbers, the greatest first. Conditions: at most 65536 numbers.
-/
import Derived.Test.YtnhcmloaanamnaaRk0
import Derived.Test.YtnhcmloaanamnaaSi7
namespace Go.Proofs.Ytnhcmloaanamnaa
open Flt Go.RowKit
set_option linter.unusedVariables false
set_option linter.unusedSimpArgs false

/-- tags as integers lie in a row -/
theorem GroI.sRow {w : World} {G n g c bx : Nat} (r : GroI w G (tgL (fun j => j) n) (some ⟨g, 0, none⟩) c) (h0 : 0 < n) : sIRw bx w g n (fun j => j) := by
  have hl := tgL_len (fun j => j) n
  unfold GroI at r
  exact ⟨World.ownsRow.lt r g rfl |>.2, fun j hj => by rw [World.ownsRow.cellAt r j (by omega), List.getElem?_map]; simp [tgL, hj], fun j hj => World.ownsRow.frozenAt r _⟩
theorem sIRw.rowI {w : World} {G g n bx : Nat} {h : Nat → Nat} (r : sIRw bx w g n h) (hg : G ≤ g) : RowInI w G w.heap.size (some ⟨g, 0, none⟩) (tgL h n) :=
  ⟨Nat.le_refl _, fun a ha => by injection ha with ha; subst ha; exact ⟨hg, sRw.lt r⟩, fun h0 => ⟨g, 0, rfl, hg, sRw.lt r, fun j hj => by
    rw [tgL_len] at hj
    rw [tgL_at hj, Nat.zero_add]
    exact sRw.cell r j hj, fun j hj => by
    rw [tgL_len] at hj
    rw [Nat.zero_add]
    exact sRw.free r j hj⟩⟩
theorem cell1_new (W : World) (v : Value) (t : TypeId) : (W.alloc (.cells #[v] t)).cell? ⟨W.heap.size, 0, none⟩ = some v := by
  simp [World.cell?, World.alloc, -World.alloc_eq]
theorem sBut.low {g X : Nat} {w w' : World} (h : sBut g w w') (hg : X ≤ g) : Below X w w' := ⟨h.os, h.tape, h.output, by rw [h.size]; exact Nat.le_refl _, fun k hk => h.block k (by omega)⟩
theorem cloRnk (bx b off n c a d : Nat) (u v : Nat) (w : World) (hbx : w.cell? ⟨bx, 0, none⟩ = some (.slice (some ⟨b, off, none⟩) n c)) (ha : a < n) (hd : d < n) (h1 : w.cell? ⟨b, off + a, none⟩ = some (.float .f32 u)) (h2 : w.cell? ⟨b, off + d, none⟩ = some (.float .f32 v)) (f1 : nanW .f32 u = false) (f2 : nanW .f32 v = false) :
    Calls Try.prog 36 #[.int .i64 (a : Int), .int .i64 (d : Int), .pointer (some ⟨bx, 0, none⟩)] w fun e w' => e = .returned (.int .i64 (cmpW v u)) ∧ ∃ k, w' = w.drewN k := by
  have HC := Lib.hid (fun W => cmpF v u f2 f1 W)
  clear f1 f2
  go_enter Try.func36, Try.ntmps36
  go_wp2_with fail
  go_quiet ((go_at_call 37; refine (HC.out _).mono ?_; rintro e w' ⟨rfl, rfl⟩; exact ⟨rfl, _, rfl⟩))
  go_wp2_with fail
  go_ret
  exact ⟨rfl, _, rfl⟩
def rEnv (bx b off n c : Nat) (zs : List Nat) (W : World) : Prop := W.cell? ⟨bx, 0, none⟩ = some (.slice (some ⟨b, off, none⟩) n c) ∧ ∀ j, j < n → W.cell? ⟨b, off + j, none⟩ = some (.float .f32 (at0 zs j))
theorem rEnv_ok (bx b off n c g : Nat) (zs : List Nat) (h1 : bx ≠ g) (h2 : b ≠ g) (hn : n = zs.length) (hf : finAll zs = true) : sIEnv bx n g (rK zs) (fun x y => cmpW (at0 zs y) (at0 zs x)) (rEnv bx b off n c zs) :=
  ⟨fun W W' h hb => ⟨by rw [World.cell?_of_block (w := W) (hb.block bx h1)]; exact h.1, fun j hj => by rw [World.cell?_of_block (w := W) (hb.block b h2)]; exact h.2 j hj⟩, fun W k h => h, fun W x y h hx hy => cloRnk bx b off n c x y _ _ W h.1 hx hy (h.2 x hx) (h.2 y hy) (fin_num (finAll_at hf (by omega))) (fin_num (finAll_at hf (by omega))), fun x y hx hy => by
    rw [cmpW_sV (finAll_at hf (by omega)) (finAll_at hf (by omega))]
    unfold rK
    omega⟩
set_option maxHeartbeats 4000000 in
theorem implRnk (A : Option Addr) (c : Nat) (zs : List Nat) (H : Nat → Nat) (w : World) (hr : RowF w w.heap.size A zs) (hb : lisB zs = true) (h0 : 0 < zs.length) (hH : sEnd (rK zs) zs.length H) :
    Calls Try.prog 11 #[.slice A zs.length c] w (LPI (tgL H zs.length) zs.length true w) := by
  obtain ⟨h3, hfa⟩ := lisB_yes hb
  obtain ⟨b, off, rfl, hbw, hcell⟩ := hr h0
  have HL : Hid (∀ W, Below w.heap.size w W → Calls Try.prog 34 #[.slice (some ⟨b, off, none⟩) zs.length c] W fun e w' => e = .returned (.bool true) ∧ ∃ k, w' = W.drewN k) := fun W hB => by
    have := implList (some ⟨b, off, none⟩) c zs W _ (hr.below hB) (by omega)
    rw [hb] at this
    exact this
  have b1 : Below w.heap.size w (w.alloc (.cells #[.slice (some ⟨b, off, none⟩) zs.length c] 22)) := (Below.refl _ _).alloc (Nat.le_refl _) _
  have HB1 := Lib.hid b1
  have HC1 : Hid ((w.alloc (.cells #[.slice (some ⟨b, off, none⟩) zs.length c] 22)).cell? ⟨w.heap.size, 0, none⟩ = some (.slice (some ⟨b, off, none⟩) zs.length c)) := cell1_new w _ _
  have HS1 : Hid ((w.alloc (.cells #[.slice (some ⟨b, off, none⟩) zs.length c] 22)).heap.size = w.heap.size + 1) := by show _ = _; simp
  have HZ : Hid (∀ j, j < zs.length → w.cell? ⟨b, off + j, none⟩ = some (.float .f32 (at0 zs j))) := hcell
  have HFA := Lib.hid hfa
  have HH := Lib.hid hH
  have HBW := Lib.hid hbw
  clear b1 hr hb hcell hfa hH hbw
  go_enter Try.func11, Try.ntmps11
  go_upto_region 1 with fail
  generalize hw1 : w.alloc (.cells #[.slice (some ⟨b, off, none⟩) zs.length c] 22) = w1 at *
  clear hw1
  have cw := HC1.out
  go_wp2_with (go_at_call 34; refine (HL.out _ HB1.out).mono ?_; rintro e w' ⟨rfl, k, rfl⟩)
  have W2 : Hid (∃ w2, w2 = w1.drewN k) := ⟨_, rfl⟩
  go_loopw [4, 11] (fun s i wr => ∃ (j c1 : Nat) (A1 : Option Addr), s = .slice A1 j c1 ∧ i = .int .i64 ((j : Nat) : Int) ∧ j ≤ zs.length ∧ Hid (GroI wr w1.heap.size (tgL (fun j => j) j) A1 c1) ∧ Hid (Below w1.heap.size w1 wr)) (fun _ i _ => zs.length - (intOf i).toNat)
  case atStart => exact ⟨0, 0, none, rfl, rfl, Nat.zero_le _, GroI.nil _ _, belowN (Below.refl _ _)⟩
  case round =>
    obtain ⟨j, c1, A1, rfl, rfl, hj, hO, hB⟩ := hrel
    have hsz : Hid (w1.heap.size ≤ wr.heap.size) := hB.out.size
    have hl : (tgL (fun j => j) j).length = j := tgL_len _ _
    by_cases hlt : j < zs.length
    · have hi : IntKind.i64.wrap ((j : Int) + 1) = (j : Int) + 1 := IntWalk.i64_in _ (by omega)
      go_wp2_with (at_builtin; refine wpGroI rfl _ _ rfl (w0 := wr) (y := (j : Int)) hO.out rfl (by rw [hl]; rfl) rfl (by rw [hl]; omega) hsz.out ?_; intro g4 c4 w4 O4 B4; have HO4 := Lib.hid O4; have HB4 : Hid (Below w1.heap.size w1 w4) := hB.out.trans B4; clear O4 B4)
      go_roundw
      case rel => exact ⟨j + 1, c4, _, rfl, by go_num, by omega, by show GroI _ _ _ _ _; rw [tgL_snoc]; exact HO4.out, HB4⟩
      case measure => simp [intOf]; omega
    · have e : j = zs.length := by omega
      subst e
      have hA : ∃ g, A1 = some ⟨g, 0, none⟩ := by
        rcases hO.out.cases with ⟨_, _, e⟩ | h
        · rw [e] at hl; simp at hl; omega
        · exact h
      obtain ⟨g, rfl⟩ := hA
      have hg := hO.out.lt _ rfl
      have hgw : w1.heap.size ≤ g := hg.1
      have R := Lib.hid (hO.out.sRow (bx := w.heap.size) h0)
      have hs1 := HS1.out
      have hbw := HBW.out
      have HE : Hid (rEnv w.heap.size b off zs.length c zs wr) := ⟨(hB.out.cell (p := ⟨w.heap.size, 0, none⟩) (by show w.heap.size < _; omega)).trans cw, fun j hj => (hB.out.cell (p := ⟨b, off + j, none⟩) (by show b < _; omega)).trans ((HB1.out.cell (p := ⟨b, off + j, none⟩) hbw).trans (HZ.out j hj))⟩
      have HSR := Lib.hid (sISrt w.heap.size g zs.length c1 (rK zs) _ _ wr (rEnv_ok w.heap.size b off zs.length c g zs (by omega) (by omega) rfl HFA.out) HE.out R.out h0 (by omega))
      clear HE R hO HL HZ
      go_wp2_with (go_at_call 35; refine HSR.out.mono ?_; rintro e w3 ⟨rfl, h, p3, r3, b3⟩)
      go_ret2
      exact ⟨some ⟨g, 0, none⟩, c1, _, rfl, ⟨tgL_len _ _, tgL_ext (p3.out.uniq HH.out)⟩, (r3.out.rowI (G := w.heap.size) (by omega)), HB1.out.trans ((hB.out.trans (b3.out.low hgw)).mono (by omega))⟩
end Go.Proofs.Ytnhcmloaanamnaa
