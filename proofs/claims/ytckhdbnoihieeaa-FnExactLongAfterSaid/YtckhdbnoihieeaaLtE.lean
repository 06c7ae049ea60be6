/-
  What is proved here: a map of counts that is cloned, and counts of letters behind they are rewritten, by the program, as walks. Conditions: a valid grammar; counts that stay small.
-/
import Derived.Test.YtckhdbnoihieeaaLtD
import Derived.Test.YtckhdbnoihieeaaRwn
import Derived.Laws.Externs
import Derived.Shelf.SlMaps.Clone
import Derived.Maps.RangeWalk
namespace Go.Proofs.Ytckhdbnoihieeaa
open Go.RowKit Go.Maps

set_option maxRecDepth 1000000 in
theorem clone_is (B n : Nat) (F : Nat → Int) (w : World) (hM : CtM w B n F) :
    Calls Try.prog 115 #[.map (some B)] w fun e w' => ∃ C, e = .returned (.map (some C)) ∧ w.heap.size ≤ C ∧ Hid (CtM w' C n F) ∧ Hid (Below w.heap.size w w') := by
  obtain ⟨D, ⟨es, clock, hb, hF, hs, hD⟩, h1, h2⟩ := hM
  have hx := run_callFunc_extern (P := Try.prog) Try.func118 (by kernel_rfl) (by kernel_rfl) (by kernel_rfl) (e := Extern.MapsClone.clone) (by kernel_rfl) #[.iface 94 (.map (some B))] w
  rw [run_maps_clone_sl w 94 hb] at hx
  simp only [Result.andThen] at hx
  have hq := run_eql_map_nil_sl (P := Try.prog) w 94 _ _ (some B) Try.underlying94
  have hta := run_typeAssert_map_sl (P := Try.prog) (w.alloc (.map es clock)) 94 20 _ _ (.map (some w.heap.size)) Try.underlying94
  have HO : Hid (CtM (w.alloc (.map es clock)) w.heap.size n F) := ⟨D, ⟨es, clock, by simp [World.alloc, -World.alloc_eq], hF, hs, hD⟩, h1, h2⟩
  have HB : Hid (Below w.heap.size w (w.alloc (.map es clock))) := (Below.refl _ _).alloc (Nat.le_refl _) _
  clear hD
  go_enter Try.func115, Try.ntmps115
  go_wp2_with fail
  go_ret
  exact ⟨_, rfl, Nat.le_refl _, HO, HB⟩

set_option maxRecDepth 1000000 in
theorem CtM.del {w : World} {B n c : Nat} {F G : Nat → Int} (h : CtM w B n F) (hc : c < 256) (hG : G = fun j => if keyN j = c then 0 else F j) (ty : TypeId) :
    ∃ w', (Builtin.delete_ #[94, 21] ty #[.map (some B), .int .i32 c]).run Try.prog w = .ok (.tuple #[]) w' ∧ CtM w' B n G ∧ w.grownBy w' (some B) := by
  obtain ⟨D, hown, hat, hhas⟩ := h
  obtain ⟨w', hrun, hown', ht⟩ := World.ownsMap.drop hown lawK Try.underlying94 (keyOf_int_mk Try.underlying21 (WalkArith.wf_i32 (n := (c : Int)) (by omega))) ty
  refine ⟨w', hrun, ⟨_, hown', fun j hj => ?_, fun d hd => ?_⟩, ht.grown⟩
  · subst hG
    by_cases e : keyN j = c
    · subst e
      rw [atKey_del_same]; simp
    · rw [atKey_del_other (by intro h; injection h with _ h; exact e (by omega)), hat j hj]; simp [e]
  · by_cases e : d = (c : Int)
    · rw [e, has_del_same] at hd; exact absurd hd Bool.false_ne_true
    · rw [has_del_other (by intro h; injection h with _ h; exact e h)] at hd
      exact hhas d hd

theorem CtM.mono {w : World} {B n m : Nat} {F : Nat → Int} (h : CtM w B n F) (hm : n ≤ m) : CtM w B m F := by
  obtain ⟨D, hown, h1, h2⟩ := h
  exact ⟨D, hown.mono hm, h1, h2⟩

/-- without the letters of the first rules -/
def delF (ss : List ByteArray) (F : Nat → Int) : Nat → Nat → Int
  | 0, j => F j
  | k + 1, j => if keyN j = lcode (ltr ss k) then 0 else delF ss F k j
/-- where a rule's letter is counted -/
def ixR (ss : List ByteArray) (k : Nat) : Nat := lcode (ltr ss k) - 65
/-- with the letters of the first rules' texts -/
def adF (ss : List ByteArray) (n : Nat) (F : Nat → Int) : Nat → Nat → Int
  | 0 => delF ss F n
  | k + 1 => addF (adF ss n F k) (txt ss k).data.toList (F (ixR ss k))

theorem delF_bd {ss : List ByteArray} {F : Nat → Int} {b : Int} (h : ∀ j, 0 ≤ F j ∧ F j ≤ b) : ∀ k j, 0 ≤ delF ss F k j ∧ delF ss F k j ≤ b
  | 0, j => h j
  | k + 1, j => by
    unfold delF
    split
    · have := h j; omega
    · exact delF_bd h k j

theorem txt_word {ss : List ByteArray} {n k : Nat} (h : ∀ k, k < n → okAt ss k = true) (hk : k < n) : wordB (txt ss k) 32 = true := okAt_text (h k hk)

theorem adF_bd {ss : List ByteArray} {n : Nat} {F : Nat → Int} (hok : ∀ k, k < n → okAt ss k = true) (h : ∀ j, 0 ≤ F j ∧ F j ≤ 1000000000000) : ∀ k, k ≤ n → ∀ j, 0 ≤ adF ss n F k j ∧ adF ss n F k j ≤ 1000000000000 + k * 32000000000000
  | 0, _, j => by have := delF_bd (ss := ss) h n j; unfold adF; omega
  | k + 1, hk, j => by
    have h1 := adF_bd hok h k (by omega) j
    have h2 := h (ixR ss k)
    have h3 := ltC_le (txt ss k).data.toList j
    have h5 : (txt ss k).data.toList.length ≤ 32 := by simpa using wordB_size (txt_word hok (by omega : k < n))
    have h6 : 0 ≤ F (ixR ss k) * ltC (txt ss k).data.toList j := Int.mul_nonneg h2.1 h3.1
    have h7 : F (ixR ss k) * ltC (txt ss k).data.toList j ≤ 1000000000000 * 32 := Int.mul_le_mul h2.2 (by omega) h3.1 (by decide)
    unfold adF addF
    push_cast
    omega

theorem okAt_cap {ss : List ByteArray} {k : Nat} (h : okAt ss k = true) : (ltr ss k).size = 1 ∧ 65 ≤ lcode (ltr ss k) ∧ lcode (ltr ss k) ≤ 90 := by
  unfold okAt at h
  rw [Bool.and_eq_true] at h
  have h1 := h.1
  have hs := ruleB_one h1
  unfold ruleB at h1
  rw [dif_pos hs, Bool.and_eq_true] at h1
  have h2 := capB_of h1.1
  rw [lcode_eq] at h2
  exact ⟨hs, h2⟩
theorem keyN_ix {ss : List ByteArray} {k : Nat} (h : okAt ss k = true) : ixR ss k < 26 ∧ keyN (ixR ss k) = lcode (ltr ss k) := by
  have := okAt_cap h
  unfold ixR keyN
  refine ⟨by omega, ?_⟩
  rw [if_pos (by omega)]; omega

set_option maxHeartbeats 8000000 in
set_option maxRecDepth 1000000 in
theorem behind_is (A : Option Addr) (n c B N : Nat) (ss : List ByteArray) (F : Nat → Int) (w : World) (hr : RowU w w.heap.size A ss) (hn : ss.length = 2 * n) (hN : n ≤ 8) (hok : ∀ k, k < n → okAt ss k = true) (hM : CtM w B N F) (hF : ∀ j, 0 ≤ F j ∧ F j ≤ 1000000000000) (hNN : N ≤ 90000) :
    Calls Try.prog 103 #[.slice A n c, .map (some B)] w fun e w' => ∃ C, e = .returned (.map (some C)) ∧ w.heap.size ≤ C ∧ Hid (CtM w' C (N + n * 32) (adF ss n F n)) ∧ Hid (Below w.heap.size w w') := by
  have HR := Lib.hid hr
  have HL := Lib.hid hn
  have HK := Lib.hid hok
  have HM := Lib.hid hM
  have HF := Lib.hid hF
  have hBlt := hM.lt
  clear hr hn hok hM hF
  go_enter Try.func103, Try.ntmps103
  go_wp2_with fail
  refine (clone_is B N F w HM.out).mono ?_
  rintro e w1 ⟨C, rfl, hCX, hC1, hB1⟩
  go_wp2_with fail
  generalize hX : w.heap.size = X at *
  have HX := Lib.hid hX
  clear hX
  go_loopw [14] (fun i wr => ∃ k : Nat, k ≤ n ∧ i = .int .i64 k ∧ Hid (CtM wr C N (delF ss F k)) ∧ Hid (Below X w wr)) (fun i _ => n - (intOf i).toNat)
  case atStart => exact ⟨0, Nat.zero_le _, rfl, hC1, hB1⟩
  case round =>
    obtain ⟨k, hk, rfl, hC, hB⟩ := hrel
    by_cases hlt : k < n
    · obtain ⟨b, off, rfl, hb, hc, hd⟩ := HR.out.pair HL.out hlt
      rw [← hB.out.cell (p := ⟨b, _, none⟩) hb] at hc hd
      have hc2 : wr.cell? ⟨b, off + k * 2, none⟩ = some (.string (ltr ss k)) := hc
      have hd2 : wr.cell? ⟨b, off + k * 2 + 1, none⟩ = some (.string (txt ss k)) := hd
      have y0 : Below wr.heap.size wr (wr.alloc (.cells #[.string (ltr ss k), .string (txt ss k)] 114)) := (Below.refl _ _).alloc (Nat.le_refl _) _
      have hC2 := Lib.hid (hC.out.below y0)
      have hXw : X ≤ wr.heap.size := by have h1 := hB.out.size; have h2 := HX.out; omega
      have hB2 : Hid (Below X w (wr.alloc (.cells #[.string (ltr ss k), .string (txt ss k)] 114))) := hB.out.trans (y0.mono hXw)
      have HO := Lib.hid (letterOf_n (ltr ss k) (txt ss k) (okAt_cap (HK.out k hlt)).1 (wr.alloc (.cells #[.string (ltr ss k), .string (txt ss k)] 114)))
      have hsz := hB2.out.size
      clear hc hd y0 hC hB hXw
      go_wp2_with fail
      refine HO.out.mono ?_
      rintro e w5 ⟨rfl, hb5⟩
      obtain ⟨w6, hrun, hC6, hg6⟩ := CtM.del (hC2.out.below hb5) (by have := lcode_lt (ltr ss k); omega) (G := delF ss F (k + 1)) rfl 0
      have C6 := Lib.hid hC6
      have X5 : X ≤ w5.heap.size := by have h1 := hb5.size; have h2 := HX.out; omega
      have B6 : Hid (Below X w w6) := (hB2.out.trans (hb5.mono (by have h2 := HX.out; omega))).grown hg6 X5 (fun j hj => by cases hj; omega)
      clear HO hC6 hg6 hb5 hC2 hB2
      go_wp2_with fail
      go_roundw
      case rel => exact ⟨k + 1, by omega, by go_num, C6, B6⟩
      case measure => simp [intOf]; omega
    · have hkn : k = n := by omega
      rw [hkn] at hC
      clear hkn
      go_wp2_with fail
      go_loopw [24] (fun i wr => ∃ k : Nat, k ≤ n ∧ i = .int .i64 k ∧ Hid (CtM wr C (N + k * 32) (adF ss n F k)) ∧ Hid (Below X w wr)) (fun i _ => n - (intOf i).toNat)
      case atStart => exact ⟨0, Nat.zero_le _, rfl, hC, hB⟩
      case round =>
        obtain ⟨k, hk, rfl, hC, hB⟩ := hrel
        by_cases hlt : k < n
        · obtain ⟨b, off, rfl, hb, hc, hd⟩ := HR.out.pair HL.out hlt
          rw [← hB.out.cell (p := ⟨b, _, none⟩) hb] at hc hd
          have hc2 : wr.cell? ⟨b, off + k * 2, none⟩ = some (.string (ltr ss k)) := hc
          have hd2 : wr.cell? ⟨b, off + k * 2 + 1, none⟩ = some (.string (txt ss k)) := hd
          have y0 : Below wr.heap.size wr (wr.alloc (.cells #[.string (ltr ss k), .string (txt ss k)] 114)) := (Below.refl _ _).alloc (Nat.le_refl _) _
          have e0 : (wr.alloc (.cells #[.string (ltr ss k), .string (txt ss k)] 114)).cell? ⟨wr.heap.size, 0, none⟩ = some (.string (ltr ss k)) := by simp [World.cell?, World.alloc, -World.alloc_eq]
          have e1 : (wr.alloc (.cells #[.string (ltr ss k), .string (txt ss k)] 114)).cell? ⟨wr.heap.size, 1, none⟩ = some (.string (txt ss k)) := by simp [World.cell?, World.alloc, -World.alloc_eq]
          have hy : wr.heap.size < (wr.alloc (.cells #[.string (ltr ss k), .string (txt ss k)] 114)).heap.size := by simp
          have hyC : C < wr.heap.size := hC.out.lt
          have hC2 := Lib.hid (hC.out.below y0)
          have hXw : X ≤ wr.heap.size := by have h1 := hB.out.size; have h2 := HX.out; omega
          have hB2 : Hid (Below X w (wr.alloc (.cells #[.string (ltr ss k), .string (txt ss k)] 114))) := hB.out.trans (y0.mono hXw)
          have E0 := Lib.hid e0
          have E1 := Lib.hid e1
          clear hc hd y0 hC hB hXw e0 e1
          go_wp2_with fail
          generalize wr.alloc (.cells #[.string (ltr ss k), .string (txt ss k)] 114) = a1 at *
          generalize wr.heap.size = y at *
          have e0 := E0.out
          have e1 := E1.out
          have hMB : Hid (CtM a1 B N F) := by
            obtain ⟨D, hown, h1, h2⟩ := HM.out
            exact ⟨D, ownsMap_heap hown (hB2.out.block B hBlt), h1, h2⟩
          have hix := keyN_ix (HK.out k hlt)
          have h11 := (okAt_cap (HK.out k hlt)).1
          have hwd := txt_word HK.out hlt
          have hbd := adF_bd HK.out HF.out k (by omega)
          have hdF := HF.out (ixR ss k)
          have K0 : Hid (a1.grownBy a1.drew (some C)) := ⟨rfl, rfl, rfl, Nat.le_refl _, fun _ _ _ => rfl⟩
          have hC3 : Hid (CtM a1.drew C (N + k * 32) (adF ss n F k)) := hC2
          have hM3 : Hid (CtM a1.drew B N F) := hMB
          clear E0 E1 hc2 hd2 hC2 hMB
          go_region_held3 (fun w' => w'.cell? ⟨y, 0, none⟩ = some (.string (ltr ss k)) ∧ w'.cell? ⟨y, 1, none⟩ = some (.string (txt ss k)) ∧ Hid (a1.grownBy w' (some C))) (first | (exact ⟨by assumption, by assumption, by assumption⟩) | go_keep)
            (first
              | ((go_at_call 114; refine (letterOf_n _ _ h11 _).mono ?_; rintro e w5 ⟨rfl, hb5⟩; have C5 := Lib.hid (hC3.out.below hb5); have M5 := hM3.out.below hb5; have hlk := M5.look (j := ixR ss k) (by omega); rw [hix.2] at hlk; have K5 : Hid (a1.grownBy w5 (some C)) := ⟨hb5.os, hb5.tape, hb5.output, hb5.size, fun i hi _ => hb5.block i hi⟩; have g0 : w5.cell? ⟨y, 0, none⟩ = some (.string (ltr ss k)) := (hb5.cell (p := ⟨y, 0, none⟩) hy).trans e0; have g1 : w5.cell? ⟨y, 1, none⟩ = some (.string (txt ss k)) := (hb5.cell (p := ⟨y, 1, none⟩) hy).trans e1))
              | ((go_at_call 102; refine (countLetters_is C (N + k * 32) (adF ss n F k) (txt ss k) (F (ixR ss k)) _ C5.out hwd (fun j => by have := hbd j; omega) hdF (by omega)).mono ?_; rintro e w6 ⟨rfl, C6, hg6⟩; have K6 : Hid (a1.grownBy w6 (some C)) := K5.out.trans hg6.out; have k0 : w6.cell? ⟨y, 0, none⟩ = some (.string (ltr ss k)) := (by rw [World.cell?_of_block (w := w5) (hg6.out.block y (Nat.lt_of_lt_of_le hy hb5.size) (fun e => by injection e with e; omega))]; exact g0); have k1 : w6.cell? ⟨y, 1, none⟩ = some (.string (txt ss k)) := (by rw [World.cell?_of_block (w := w5) (hg6.out.block y (Nat.lt_of_lt_of_le hy hb5.size) (fun e => by injection e with e; omega))]; exact g1))))
          have C7 : Hid (CtM w6 C (N + (k + 1) * 32) (adF ss n F (k + 1))) := by
            have := wordB_size hwd
            exact C6.out.mono (by omega)
          have B7 : Hid (Below X w w6) := hB2.out.grown K6.out (by have h1 := hB2.out.size; have h2 := HX.out; omega) (fun j hj => by cases hj; omega)
          clear C6 hg6 C5 M5 hlk K5 hb5 K6 hB2 hC3 hM3 K0 hbd hix
          go_wp2_with fail
          go_roundw
          case rel => exact ⟨k + 1, by omega, by go_num, C7, B7⟩
          case measure => simp [intOf]; omega
        · have hkn : k = n := by omega
          rw [hkn] at hC
          clear hkn
          go_wp2_with fail
          go_ret
          exact ⟨C, rfl, by rw [HX.out]; exact hCX, hC, by rw [HX.out]; exact hB⟩

end Go.Proofs.Ytckhdbnoihieeaa
