/-
  What is proved here: the parts of the law FnNumbers: texts of lists are read back; angles, sums and narrowed numbers, as walks. Conditions: as each theorem names.
-/
import Derived.Test.YtckhdbnoihieeaaDoorLogA
import Derived.Test.YtckhdbnoihieeaaDoorDrwF
import Derived.Test.YtckhdbnoihieeaaDoorHtx
import Derived.Test.YtckhdbnoihieeaaDoorAngD
import Derived.Test.YtckhdbnoihieeaaDoorSinC
import Derived.Test.YtckhdbnoihieeaaDoorSub
import Derived.Test.YtckhdbnoihieeaaDoorSumB
import Derived.Test.YtckhdbnoihieeaaDoorHtxB
import Derived.Test.YtckhdbnoihieeaaDoorNrq
namespace Go.Proofs.YtckhdbnoihieeaaDoor
namespace Flt
open Ieee

/-- two readings of one value are written as one word -/
theorem nearest_one (s : Bool) {m n d e : Nat} (hm : m ≠ 0) (hn : n ≠ 0) (h : n * 2 ^ e = m * 2 ^ (d + 925)) (hl : m.log2 ≤ 23) :
    FloatKind.f32.format.nearest s n (-1074 + (e : Int)) = FloatKind.f32.format.nearest s m (-149 + (d : Int)) := by
  have hlp : FloatKind.f32.format.leastPlace = -149 := by decide
  have hfb : FloatKind.f32.format.fractionBits = 23 := by decide
  by_cases hle : e ≤ d + 925
  · obtain ⟨j, hj⟩ : ∃ j, d + 925 = e + j := ⟨d + 925 - e, by omega⟩
    have hnm : n = m * 2 ^ j := by
      rw [hj, Nat.pow_add, Nat.mul_comm (2 ^ e), ← Nat.mul_assoc] at h
      exact Nat.eq_of_mul_eq_mul_right (Nat.two_pow_pos e) h
    rw [hnm, nearest_scale .f32 s m j (-1074 + (e : Int)) hm (by rw [hfb]; exact hl) (by rw [hlp]; omega)]
    congr 1; omega
  · obtain ⟨j, hj⟩ : ∃ j, e = d + 925 + j := ⟨e - (d + 925), by omega⟩
    have hnm : m = n * 2 ^ j := by
      rw [hj, Nat.pow_add, Nat.mul_comm (2 ^ (d + 925)), ← Nat.mul_assoc] at h
      exact (Nat.eq_of_mul_eq_mul_right (Nat.two_pow_pos (d + 925)) h).symm
    have hln : n.log2 ≤ 23 := by
      have : n ≤ m := by rw [hnm]; exact Nat.le_mul_of_pos_right _ (Nat.two_pow_pos _)
      have h1 : n < 2 ^ 24 := Nat.lt_of_le_of_lt this ((Nat.log2_lt hm).1 (by omega))
      have := (Nat.log2_lt hn).2 h1
      omega
    rw [hnm, nearest_scale .f32 s n j (-149 + (d : Int)) hn (by rw [hfb]; exact hln) (by rw [hlp]; omega)]
    congr 1; omega

/-- what a word reads as is written as that word -/
theorem nearest_read {x : Nat} (hx : x < 2 ^ 32) (h : x % FloatKind.f32.format.signWeight < FloatKind.f32.format.infRung) {m d : Nat}
    (hd : FloatKind.f32.format.read x = .number (x / FloatKind.f32.format.signWeight % 2 == 1) m (-149 + (d : Int))) (hv : m * 2 ^ d = V FloatKind.f32.format.binade (x % FloatKind.f32.format.signWeight)) :
    FloatKind.f32.format.nearest (x / FloatKind.f32.format.signWeight % 2 == 1) m (-149 + (d : Int)) = x := by
  have hlp : FloatKind.f32.format.leastPlace = -149 := by decide
  have hfb : FloatKind.f32.format.fractionBits = 23 := by decide
  have heb : 2 ^ FloatKind.f32.format.exponentBits - 1 = 255 := by decide
  have hbnd : (d : Int) + m.log2 ≤ 276 ∧ m.log2 ≤ 23 := by
    have hdd : d ≤ 253 := by
      have hd2 := hd
      unfold Format.read at hd2
      dsimp only at hd2
      rw [hlp, bi32] at hd2
      rw [inf32] at h
      split at hd2
      · injection hd2 with _ _ e3
        omega
      · rw [if_pos (by rw [inf32]; exact h)] at hd2
        injection hd2 with _ _ e3
        have : x % FloatKind.f32.format.signWeight / 8388608 ≤ 254 := by omega
        omega
    by_cases hm0 : m = 0
    · subst hm0
      have : Nat.log2 0 = 0 := by decide
      omega
    · have h23 := read_small hd hm0
      rw [hfb] at h23
      omega
  obtain ⟨g1, g2⟩ := nearest_exact .f32 (x / FloatKind.f32.format.signWeight % 2 == 1) m (-149 + (d : Int)) (by rw [hfb]; omega) d (by rw [hlp]) (by rw [hfb, heb]; omega)
  rw [hv] at g1
  have e1 := V_inj (Nat.two_pow_pos _) g1
  have e2 := nearest_sign .f32 (x / FloatKind.f32.format.signWeight % 2 == 1) m (-149 + (d : Int))
  have hlt : FloatKind.f32.format.nearest (x / FloatKind.f32.format.signWeight % 2 == 1) m (-149 + (d : Int)) < 2 ^ 32 := FloatKind.f32.format.write_lt (.number _ m (-149 + (d : Int)))
  generalize FloatKind.f32.format.nearest (x / FloatKind.f32.format.signWeight % 2 == 1) m (-149 + (d : Int)) = y at *
  rw [sw32] at e1 e2
  have : y / 2147483648 % 2 = x / 2147483648 % 2 := by
    have a := Nat.mod_two_eq_zero_or_one (y / 2147483648)
    have b := Nat.mod_two_eq_zero_or_one (x / 2147483648)
    rcases a with a | a <;> rcases b with b | b <;> rw [a, b] at e2 <;> first | omega | exact absurd e2 (by decide)
  omega

theorem nearest_zero (s : Bool) (p q : Int) : FloatKind.f32.format.nearest s 0 p = FloatKind.f32.format.nearest s 0 q := by
  unfold Format.nearest
  rw [if_pos rfl, if_pos rfl]

theorem narrow_back {x r : Nat} (hx : x < 2 ^ 32) (h : x % FloatKind.f32.format.signWeight < FloatKind.f32.format.infRung) (hr : can .f64 r = wid (can .f32 x)) : floatToFloatBits .f64 r .f32 = some x := by
  obtain ⟨v1, v2, v3⟩ := widen_V h hr
  obtain ⟨m, d, hd, hv⟩ := read_V h
  obtain ⟨n, e, he, hw⟩ := read_V v3
  have hlp : FloatKind.f32.format.leastPlace = -149 := by decide
  have hlp64 : FloatKind.f64.format.leastPlace = -1074 := by decide
  rw [hlp] at hd
  rw [hlp64] at he
  have hback := nearest_read hx h hd hv
  have henc : FloatKind.f32.format.nearest (r / FloatKind.f64.format.signWeight % 2 == 1) n (-1074 + (e : Int)) = x := by
    rw [v2]
    by_cases hm : m = 0
    · have hn : n = 0 := by
        rw [hm, Nat.zero_mul] at hv
        rw [← hv, Nat.zero_mul] at v1
        rw [v1] at hw
        rcases Nat.mul_eq_zero.1 hw with h0 | h0
        · exact h0
        · exact absurd h0 (Nat.ne_of_gt (Nat.two_pow_pos _))
      rw [hm] at hback
      rw [hn, nearest_zero _ _ (-149 + (d : Int))]
      exact hback
    · have hn : n ≠ 0 := by
        intro h0
        rw [h0, Nat.zero_mul] at hw
        rw [← hw, ← hv] at v1
        rcases Nat.mul_eq_zero.1 v1.symm with h1 | h1
        · rcases Nat.mul_eq_zero.1 h1 with h2 | h2
          · exact hm h2
          · exact absurd h2 (Nat.ne_of_gt (Nat.two_pow_pos _))
        · exact absurd h1 (Nat.ne_of_gt (Nat.two_pow_pos _))
      have hl : m.log2 ≤ 23 := read_small hd hm
      rw [nearest_one _ hm hn (by rw [hw, v1, ← hv, gap_eq, Nat.pow_add, Nat.mul_assoc]) hl]
      exact hback
  unfold floatToFloatBits
  rw [if_neg (by decide)]
  have hdc : FloatKind.f64.decode r = .number (r / FloatKind.f64.format.signWeight % 2 == 1) n (-1074 + (e : Int)) := he
  rw [hdc]
  dsimp only
  rw [encode_number, henc, isInf_read h]
  rfl

/-- widened, whatever is drawn, and narrowed -/
theorem nar_back {x r : Nat} (hx : WF .f32 x) (hr : can .f64 r = wid (can .f32 x)) : okNar (can .f64 r) ∧ nar (can .f64 r) = can .f32 x := by
  by_cases hn : nanW .f32 x = true
  · rw [can_nan hn] at hr ⊢
    rw [hr]
    exact ⟨fun v hv => (by cases hv), rfl⟩
  · have hn' : nanW .f32 x = false := by simpa using hn
    have hle : x % FloatKind.f32.format.signWeight ≤ FloatKind.f32.format.infRung := Nat.le_of_not_lt fun hc => hn (nanW_of_lt hc)
    have hlt := hx.lt32
    have key : floatToFloatBits .f64 r .f32 = some x ∧ can .f64 r = some r := by
      rcases Nat.lt_or_eq_of_le hle with h | h
      · refine ⟨narrow_back hlt h hr, ?_⟩
        obtain ⟨q, hq, _, hqn⟩ := widen_finite h
        rw [can_num hn'] at hr
        have : wid (some x) = some q := hq
        rw [this] at hr
        obtain ⟨_, rfl⟩ := can_eq_some hr
        exact can_num hqn
      · have hw : wid (some x) = some _ := widen_inf h
        rw [can_num hn', hw] at hr
        obtain ⟨hrn, rfl⟩ := can_eq_some hr
        refine ⟨?_, can_num hrn⟩
        rw [sw32, inf32] at h
        have hs := Nat.mod_two_eq_zero_or_one (x / 2147483648)
        rcases hs with hs | hs
        · obtain rfl : x = 2139095040 := by omega
          decide
        · obtain rfl : x = 4286578688 := by omega
          decide
    rw [key.2, can_num hn']
    exact ⟨fun v hv => by cases hv; exact ⟨x, key.1⟩, key.1⟩

end Flt
end Go.Proofs.YtckhdbnoihieeaaDoor

namespace Go.Proofs.YtckhdbnoihieeaaDoor
open Flt Go.RowKit

theorem Chg.thenBelow {p : Nat} {a b c : World} (h : Chg p a b) (g : Below a.heap.size b c) : Chg p a c :=
  ⟨g.os.trans h.os, g.tape.trans h.tape, g.output.trans h.output, Nat.le_trans h.size g.size, fun k hk hp => (g.block k hk).trans (h.block k hk hp)⟩
theorem Rdy.belowAt {w w' : World} {p B : Nat} {A : Option Addr} {c : Nat} {zs : List Int} {N : Nat} (h : Rdy w p A c zs N) (hB : p < B) (hb : Below B w w') : Rdy w' p A c zs N := by
  obtain ⟨j, h1, h2⟩ := h.pos
  obtain ⟨s, h3⟩ := h.seed
  exact ⟨Nat.lt_of_lt_of_le h.lt hb.size, by rw [hb.cell hB]; exact h.code, ⟨j, h1, by rw [hb.cell hB]; exact h2⟩, ⟨s, by rw [hb.cell hB]; exact h3⟩, fun o => by rw [hb.frozen hB]; exact h.free o, h.row.below (hb.mono (Nat.le_of_lt hB)), h.all, h.most⟩
theorem own_chg {w w' : World} {G n size p : Nat} {e : TypeId} {v : Value} {xs : List Value} (h : w.ownsRow G e size v n xs) (hp : p < G) (hb : Chg p w w') : w'.ownsRow G e size v n xs := by
  refine ⟨h.1, ?_⟩
  rcases h.2 with h1 | ⟨g, cap, cur, rfl, h2, h3, h4⟩
  · exact .inl h1
  · refine .inr ⟨g, cap, cur, rfl, h2, ?_, h4⟩
    have hlt : g < w.heap.size := by
      rcases Nat.lt_or_ge g w.heap.size with h | h
      · exact h
      · rw [Array.getElem?_eq_none h] at h3; cases h3
    rw [hb.block g hlt (by omega)]; exact h3

/-- what drawing a list gives -/
def DrewL (n M p : Nat) (A : Option Addr) (c : Nat) (zs : List Int) (w : World) (e : Ending) (w' : World) : Prop :=
  ∃ g c' L, e = .returned (.slice (some ⟨g, 0, none⟩) L.length c') ∧ Hid (L.length = n) ∧ Hid (AllW L) ∧ Hid (OwnLF w' w.heap.size L g c') ∧ Hid (Rdy w' p A c zs M) ∧ Hid (Chg p w w')

set_option maxHeartbeats 4000000 in
theorem floats_any (n0 : Nat) (hn : n0 ≤ 1000) (w : World) (p : Nat) (A : Option Addr) (c : Nat) (zs : List Int) (h : Rdy w p A c zs 0) :
    Calls Tryd.prog 45 #[.pointer (some ⟨p, 0, none⟩), .int .i64 n0] w (DrewL n0 100000 p A c zs w) := by
  obtain ⟨i0, hi, hz0, hz1, hz2⟩ := info_parts info_f32b
  have HI := Lib.hid (And.intro hi (And.intro hz0 (And.intro hz1 hz2)))
  have O0 : Hid (OwnLF (w.alloc (.cells #[] 30)) w.heap.size [] w.heap.size 0) := World.ownsRow_lit w #[] 0 (Nat.le_refl _) (by decide) rfl
  have B0 : Hid (Below w.heap.size w (w.alloc (.cells #[] 30))) := (Below.refl _ _).alloc (Nat.le_refl _) _
  have R0 : Hid (Rdy (w.alloc (.cells #[] 30)) p A c zs 0) := h.below B0.out
  have C0 : Hid (Chg p w (w.alloc (.cells #[] 30))) := Chg.ofBelow B0.out
  have HPL : Hid (p < w.heap.size) := h.lt
  clear hi hz0 hz1 hz2 h B0
  go_enter Tryd.func45, Tryd.ntmps45
  go_wp2_with fail
  refine (one_any 4 (by omega) (by omega) _ p A c zs 0 R0.out (by omega)).mono ?_
  rintro e w1 ⟨b, rfl, R1, C1⟩
  have O1 : Hid (OwnLF w1 w.heap.size [] w.heap.size 0) := own_chg O0.out HPL.out C1.out
  have D1 : Hid (Chg p w w1) := C0.out.trans C1.out
  clear O0 R0 C0 C1
  go_wp2_with fail
  generalize hG : w.heap.size = G at *
  have HG := Lib.hid hG
  clear hG
  go_loopw [1, 5] (fun i o wr => ∃ (k g cc : Nat) (L : List Nat), i = .int .i64 k ∧ o = .slice (some ⟨g, 0, none⟩) L.length cc ∧ k ≤ 1000 ∧ L.length ≤ 1000 ∧ Hid (L.length + k = n0) ∧ Hid (AllW L) ∧ Hid (OwnLF wr G L g cc) ∧ Hid (Rdy wr p A c zs (2 + 20 * L.length)) ∧ Hid (Chg p w wr)) (fun i _ _ => (intOf i).toNat)
  case atStart => exact ⟨n0, G, 0, [], rfl, rfl, hn, by simp, by show _ = _; simp, fun z hz => absurd hz (List.not_mem_nil), O1, R1.out.mono (by simp), D1⟩
  case round =>
    obtain ⟨k, g, cc, L, rfl, rfl, hk, htl, HL, HA, hO, hR, hC⟩ := hrel
    by_cases hlt : 0 < k
    · have hki : (0 : Int) < k := by omega
      cases b
      all_goals
        go_wp2_with fail
        first
          | refine (float_any _ p A c zs (2 + 20 * L.length) hR.out (by omega)).mono ?_
          | refine ((plain_any _ p A c zs (2 + 20 * L.length) hR.out (by omega)).mono ?_)
        rintro e w3 ⟨x, rfl, hx, R3, C3⟩
        have D3 : Hid (Chg p w w3) := hC.out.trans C3.out
        have O3 : Hid (OwnLF w3 G L g cc) := own_chg hO.out HPL.out C3.out
        have hsz : Hid (G ≤ w3.heap.size) := by show G ≤ w3.heap.size; rw [← HG.out]; exact D3.out.size
        have R3' : Hid (Rdy w3 p A c zs (2 + 20 * (L.length + 1))) := R3.out.mono (by omega)
        have HX := Lib.hid hx
        clear R3 C3 hO hR hC hx
        go_wp2_with (first | (at_builtin; refine wpList_append_own _ rfl _ _ 36 rfl G 30 i0 (.float .f32 0) 1 4 Tryd.underlying36 HI.out.1 HI.out.2.1 HI.out.2.2.1 HI.out.2.2.2 rfl (by decide) _ L.length (L.map (Value.float .f32)) rfl (World.ownsRow.alloc O3.out _) ⟨w3.heap.size, 0, none⟩ 1 1 [.float .f32 x] rfl rfl (World.ownsRow.cells (World.ownsRow_lit (base := G) (e := 30) (size := 1) w3 #[.float .f32 x] 1 hsz.out (by decide) rfl) rfl) (by intro u hu; rw [List.mem_singleton.1 hu]; rfl) (by unfold maxLen; omega) (by omega) (by simp; exact Nat.le_succ_of_le hsz.out) ?_))
        intro v' w4 h2 hg2 hv2
        obtain ⟨g2, c2, rfl, O2⟩ := OwnLF.of (L := L ++ [x]) (by rw [List.map_append]; exact h2) (by simp) hv2
        have HB4 : Hid (Below G w3 w4) := Below.grown ((Below.refl G w3).alloc hsz.out _) hg2 (by simp; exact Nat.le_succ_of_le hsz.out) (fun q hq => by obtain rfl := Option.some.inj hq; exact (World.ownsRow.lt O3.out g rfl).1)
        have HO4 := Lib.hid O2
        have HR4 : Hid (Rdy w4 p A c zs (2 + 20 * (L ++ [x]).length)) := by
          rw [List.length_append]; exact R3'.out.belowAt HPL.out HB4.out
        have HC4 : Hid (Chg p w w4) := D3.out.thenBelow (by rw [HG.out]; exact HB4.out)
        have HA4 : Hid (AllW (L ++ [x])) := fun z hz => by
          rcases List.mem_append.1 hz with hz | hz
          · exact HA.out z hz
          · rw [List.mem_singleton.1 hz]; exact HX.out
        have hl4 : (L ++ [x]).length + (k - 1) = n0 := by have := HL.out; simp; omega
        have HL4 := Lib.hid hl4
        have hl5 : (L ++ [x]).length ≤ 1000 := by omega
        generalize L ++ [x] = L2 at *
        clear hv2 hg2 h2 O2 O3 hl4
        go_wp2_with fail
        go_roundw
        case rel => exact ⟨k - 1, g2, c2, L2, by go_num, rfl, by omega, hl5, HL4, HA4, HO4, HR4, HC4⟩
        case measure => simp [intOf]; omega
    · have hk0 : k = 0 := by omega
      have hll : L.length = n0 := by have := HL.out; omega
      clear HL
      subst hk0
      go_wp2_with fail
      go_ret
      exact ⟨g, cc, L, rfl, hll, HA, by rw [HG.out]; exact hO, hR.out.mono (by omega), hC⟩

theorem ownF_low {w : World} {B B' : Nat} {A : Option Addr} {zs : List Nat} (h : OwnF w B A zs) (hB : B' ≤ B) : OwnF w B' A zs := fun h0 => by
  obtain ⟨b, off, hA, hle, h2⟩ := h h0
  exact ⟨b, off, hA, Nat.le_trans hB hle, h2⟩

/-- a list of some 32-bit numbers, of a given length; nothing that was there has changed -/
def NewL (n : Nat) (w : World) (e : Ending) (w' : World) : Prop :=
  ∃ g c' L, e = .returned (.slice (some ⟨g, 0, none⟩) L.length c') ∧ Hid (L.length = n) ∧ Hid (AllW L) ∧ Hid (OwnF w' w.heap.size (some ⟨g, 0, none⟩) L) ∧ Hid (Below w.heap.size w w')
theorem numbers_any (n0 : Nat) (hn : n0 ≤ 1000) (A : Option Addr) (c : Nat) (zs : List Int) (w : World) (hr : RowB w w.heap.size A zs) (ha : AllB zs) (hl : zs.length ≤ 1048576) :
    Calls Tryd.prog 16 #[.slice A zs.length c, .int .i64 n0] w (NewL n0 w) := by
  have HF := Lib.hid (from_any A c zs w hr ha hl)
  clear hr ha
  go_enter Tryd.func16, Tryd.ntmps16
  go_wp2_with fail
  refine HF.out.mono ?_
  rintro e w1 ⟨p, rfl, hp, R1, B1⟩
  go_wp2_with fail
  refine (floats_any n0 hn _ p A c zs R1.out).mono ?_
  rintro e w2 ⟨g, c', L, rfl, hL, HA, HO, R2, C2⟩
  go_wp2_with fail
  go_ret
  exact ⟨g, c', L, rfl, hL, HA, ownF_low HO.out.own B1.out.size, B1.out.trans (C2.out.below B1.out.size hp.out)⟩

end Go.Proofs.YtckhdbnoihieeaaDoor

namespace Go.Proofs.YtckhdbnoihieeaaDoor
open Flt Go.RowKit

/-! texts that are read back -/
theorem digH_plain {m : Nat} (h : m < 16) : digH m ≠ 44 := by
  intro e
  have := digH_val h
  rw [e] at this
  have e2 : ((44 : UInt8).toNat : Int) = 44 := by decide
  rw [e2] at this
  split at this <;> omega
theorem hexN_plain : ∀ (k n : Nat), plain (hexN k n)
  | 0, _ => fun x hx => by simp [hexN] at hx
  | k + 1, n => fun x hx => by
    rw [hexN] at hx
    rcases List.mem_append.1 hx with h | h
    · exact hexN_plain k (n / 16) x h
    · rw [List.mem_singleton.1 h]; exact digH_plain (Nat.mod_lt _ (by decide))
theorem joinH_cons2 (z y : Nat) (r : List Nat) : joinH (z :: y :: r) = hexB z ++ 44 :: joinH (y :: r) := by
  unfold joinH
  rw [List.map_cons, Lib.join_cons, List.map_cons, Lib.join_cons]
  unfold Lib.joinTail
  simp
theorem cut_joinH : ∀ (z : Nat) (r : List Nat), cutF (joinH (z :: r)) = (z :: r).map hexB
  | z, [] => by rw [joinH_one]; exact cutF_end (hexN_plain 8 _)
  | z, y :: r => by
    have hp : plain (hexB z) := hexN_plain 8 _
    rw [joinH_cons2, cutF_hit hp, cut_joinH y r]; rfl

theorem bitsN_twice (x : Nat) : bitsN (bitsN x) = bitsN x := by
  cases h : nanW .f32 x
  · have e : bitsN x = x := by unfold bitsN; rw [h]; rfl
    rw [e, e]
  · have e : bitsN x = 2143289344 := by unfold bitsN; rw [h]; rfl
    rw [e]
    decide

theorem rd_hexB {z : Nat} (hz : WF .f32 z) : rdFN (bytes (hexB z)) = bitsN z ∧ rdFB (bytes (hexB z)) = true :=
  rdF_is (by show (hexB z).toArray.size = 8; rw [List.size_toArray]; exact hexB_length z) (by show hexR (hexB z) = some (bitsN z); exact hexR_hexN 8 _ (by have := bitsN_lt hz; omega)) (bitsN_twice z)

theorem joinH_long (z : Nat) (r : List Nat) : 8 ≤ (joinH (z :: r)).length := by
  have h1 := hexB_length z
  unfold joinH
  rw [List.map_cons, Lib.join_cons, List.length_append]
  omega

/-- what was written is read back, but for the bits of not-a-numbers -/
theorem nl_back {zs : List Nat} (h : zs.length ≤ 256) (hz : AllW zs) : nlB ⟨(ntT zs).toArray⟩ = true ∧ nlL ⟨(ntT zs).toArray⟩ = zs.map bitsN ∧ (ntT zs).toArray.size ≤ 1048576 := by
  have hb : ntB zs = true := decide_eq_true h
  cases zs with
  | nil =>
    have e : ntT [] = noneT := by rw [ntT, if_pos hb, if_pos (show ([] : List Nat).length = 0 from rfl)]; rfl
    rw [e]
    obtain ⟨h1, h2⟩ := nlL_none (s := ⟨noneT.toArray⟩) (by simp)
    exact ⟨h2, h1, by decide⟩
  | cons z r =>
    have e : ntT (z :: r) = joinH (z :: r) := by rw [ntT, if_pos hb, if_neg (by simp)]
    rw [e]
    have hlen := joinH_long z r
    have hl9 := joinH_len (z :: r)
    have hcut : cutB ⟨(joinH (z :: r)).toArray⟩ = ((z :: r).map hexB).map bytes := by
      unfold cutB
      rw [← cut_joinH]
    have hnone : ¬ (⟨(joinH (z :: r)).toArray⟩ : ByteArray).data.toList = noneT := by
      intro e2
      have e3 := congrArg List.length e2
      have e4 : noneT.length = 4 := by decide
      rw [e4] at e3
      simp at e3
      omega
    have hok : rdOkF (((z :: r).map hexB).map bytes) = true := by
      unfold rdOkF
      rw [List.all_eq_true]
      intro x hx
      obtain ⟨y, hy, rfl⟩ := List.mem_map.1 hx
      obtain ⟨q, hq, rfl⟩ := List.mem_map.1 hy
      exact (rd_hexB (hz q hq)).2
    obtain ⟨h1, h2⟩ := nlL_yes hnone (by rw [hcut]; simpa using h) (by rw [hcut]; exact hok)
    refine ⟨h2, ?_, by rw [List.size_toArray]; omega⟩
    rw [h1, hcut]
    unfold rdNsF
    rw [List.map_map, List.map_map]
    refine List.map_congr_left fun q hq => ?_
    exact (rd_hexB (hz q hq)).1

theorem at0_map {zs : List Nat} {j : Nat} (h : j < zs.length) : at0 (zs.map bitsN) j = bitsN (at0 zs j) := by
  simp [at0, List.getD, h]
theorem bitsV_twice (x : Nat) : bitsV (bitsN x) = bitsV x := by rw [bitsV_N, bitsV_N, bitsN_twice]
theorem bitsN_wf {x : Nat} (h : WF .f32 x) : WF .f32 (bitsN x) := ⟨bitsN_lt h⟩

/-- one value, one answer -/
theorem bitsV_of {a b : Nat} (h : can .f32 a = can .f32 b) : bitsV a = bitsV b := by
  unfold bitsV
  cases ha : nanW .f32 a
  · rw [can_num ha] at h
    obtain ⟨hb, rfl⟩ := can_eq_some h.symm
    rw [hb]
  · rw [can_nan ha] at h
    cases hb : nanW .f32 b
    · rw [can_num hb] at h; cases h
    · rfl

/-! zero with its sign for the subnormal -/
theorem flush_facts {x z : Nat} (hx : WF .f32 x) (h : can .f32 z = can .f32 (flushW x)) : subB z = false ∧ (subB x == (bitsV x == bitsV z)) = false := by
  have hl := hx.lt32
  cases hn : nanW .f32 x
  · have hle : x % 2147483648 ≤ 2139095040 := by
      have := Nat.le_of_not_lt (show ¬ FloatKind.f32.format.infRung < x % FloatKind.f32.format.signWeight from fun hc => by rw [nanW_of_lt hc] at hn; cases hn)
      rw [inf32, sw32] at this
      exact this
    have hfn : nanW .f32 (flushW x) = false := by
      refine nanW_of_le ?_
      rw [inf32, sw32]
      unfold flushW
      split <;> omega
    rw [can_num hfn] at h
    obtain ⟨hz, rfl⟩ := can_eq_some h
    have e : bitsV x = x := by unfold bitsV; rw [hn]; rfl
    have e2 : bitsV (flushW x) = flushW x := by unfold bitsV; rw [hfn]; rfl
    refine ⟨decide_eq_false ?_, ?_⟩
    · unfold flushW; split <;> omega
    · rw [e, e2]
      by_cases hs : x % 2147483648 ≠ 0 ∧ x % 2147483648 < 8388608
      · have h1 : subB x = true := decide_eq_true hs
        have h2 : ((x : Int) == ((flushW x : Nat) : Int)) = false := by
          rw [beq_eq_false_iff_ne]
          unfold flushW
          rw [if_pos hs.2]
          omega
        rw [h1, h2]; rfl
      · have h1 : subB x = false := decide_eq_false hs
        have h2 : ((x : Int) == ((flushW x : Nat) : Int)) = true := by
          rw [beq_iff_eq]
          unfold flushW
          split <;> omega
        rw [h1, h2]; rfl
  · rw [flush_nan hn] at h
    have hgt : 2139095040 < x % 2147483648 := by
      rcases three .f32 x with h1 | h1 | h1
      · rw [nanW_of_le (Nat.le_of_lt h1)] at hn; cases hn
      · rw [nanW_of_le (Nat.le_of_eq h1)] at hn; cases hn
      · rw [inf32, sw32] at h1; exact h1
    rw [can_nan hn] at h
    have hzn : nanW .f32 z = true := by
      cases hb : nanW .f32 z
      · rw [can_num hb] at h; cases h
      · rfl
    have hgz : 2139095040 < z % 2147483648 := by
      rcases three .f32 z with h1 | h1 | h1
      · rw [nanW_of_le (Nat.le_of_lt h1)] at hzn; cases hzn
      · rw [nanW_of_le (Nat.le_of_eq h1)] at hzn; cases hzn
      · rw [inf32, sw32] at h1; exact h1
    have h1 : subB x = false := decide_eq_false (by omega)
    refine ⟨decide_eq_false (by omega), ?_⟩
    rw [bitsV_of (by rw [can_nan hn, can_nan hzn] : can .f32 x = can .f32 z), h1]
    simp

/-! the program's angle -/
theorem angle_one (y x : Nat) : ∃ c, ∀ w, Calls Tryd.prog 23 #[.float .f32 y, .float .f32 x] w (FPost .f32 c w) := by
  by_cases hfin : finB .f32 y = true ∧ finB .f32 x = true
  · obtain ⟨hfy, hfx⟩ := hfin
    have ly : y % FloatKind.f32.format.signWeight < FloatKind.f32.format.infRung := of_decide_eq_true hfy
    have lx : x % FloatKind.f32.format.signWeight < FloatKind.f32.format.infRung := of_decide_eq_true hfx
    have ny : nanW .f32 y = false := nanW_of_le (Nat.le_of_lt ly)
    have nx : nanW .f32 x = false := nanW_of_le (Nat.le_of_lt lx)
    obtain ⟨Y, hY, _, hYn⟩ := widen_finite ly
    obtain ⟨X, hX, _, hXn⟩ := widen_finite lx
    have cy : Hid (can .f64 Y = wid (can .f32 y)) := by show can .f64 Y = wid (can .f32 y); rw [can_num hYn, can_num ny]; exact hY.symm
    have cx : Hid (can .f64 X = wid (can .f32 x)) := by show can .f64 X = wid (can .f32 x); rw [can_num hXn, can_num nx]; exact hX.symm
    have fy := (finB_wid cy).trans hfy
    have fx := (finB_wid cx).trans hfx
    obtain ⟨sy, _⟩ := side_wid ny cy
    obtain ⟨sx, _⟩ := side_wid nx cx
    by_cases hz : side .f32 y = .eq ∧ side .f32 x = .eq
    · exact ⟨some 0, implAngleZero y x hfy hfx (by rw [ord0 nx, hz.2]) (by rw [ord0 ny, hz.1])⟩
    · have hok := fun a b => ok_angC (Bd_tan fy fx (by rw [sy, sx]; exact hz)) (FloatKind.f64.format.order (absW Y) (absW X) == some .gt) a b
      have hy0 := ord0 ny
      have hx0 := ord0 nx
      have z2 : (FloatKind.f32.format.order y 0 == some .eq) = false ∨ ((FloatKind.f32.format.order y 0 == some .eq) = true ∧ (FloatKind.f32.format.order x 0 == some .eq) = false) := by
        rw [hx0, hy0, some_beq, some_beq]
        cases h1 : side .f32 x <;> cases h2 : side .f32 y <;> first | (left; rfl) | (right; exact ⟨rfl, rfl⟩) | exact absurd ⟨h2, h1⟩ hz
      exact ⟨_, implAngle y x Y X _ _ _ hfy hfx hY hX (conv_wf (by decide) hY) (conv_wf (by decide) hX) rfl (by rw [hx0, some_beq]) (by rw [hy0, some_beq]) z2 (hok _ _)⟩
  · have h : finB .f32 y = false ∨ (finB .f32 y = true ∧ finB .f32 x = false) := by
      cases h1 : finB .f32 y
      · exact .inl rfl
      · cases h2 : finB .f32 x
        · exact .inr ⟨rfl, rfl⟩
        · exact absurd ⟨h1, h2⟩ hfin
    exact ⟨none, implAngleNaN y x h⟩

theorem angleOf_any (y x : Nat) (c : Option Nat) (h : ∀ w, Calls Tryd.prog 23 #[.float .f32 y, .float .f32 x] w (FPost .f32 c w)) (w : World) :
    Calls Tryd.prog 24 #[.complex .f32 x y] w (FPost .f32 c w) := by
  have H := Lib.hid h
  clear h
  go_enter Tryd.func24, Tryd.ntmps24
  go_wp2_with (go_at_call 23; refine (H.out _).mono ?_; rintro e w' ⟨g, n, rfl, rfl, hc, hg⟩)
  go_ret
  exact fpost hc.out hg

theorem narrowNumber_any (r : Nat) (c : Option Nat) (h1 : okNar (can .f64 r)) (h2 : nar (can .f64 r) = c) (w : World) :
    Calls Tryd.prog 25 #[.float .f64 r] w (FPost .f32 c w) := by
  have H := Lib.hid h1
  have H2 := Lib.hid h2
  clear h1 h2
  go_enter Tryd.func25, Tryd.ntmps25
  go_wp2_with ((with_reducible refine upon_nar ?_ ?_ H.out ?_); rotate_left 2; intro _ _ _ _; rotate_left 1; kernel_rfl; kernel_rfl)
  rename_i t n wt et
  go_ret
  exact fpost (by rw [et.out, H2.out]) wt

/-- a quarter's sine -/
theorem sine_quarter (w : World) : Calls Tryd.prog 26 #[.float .f32 1048576000] w fun e w' => e = .returned (.float .f32 1065353216) ∧ ∃ n, w' = w.drewN n := by
  have h := implTurns 1048576000 4598175219545276416 (by decide +kernel) (by decide +kernel) ⟨by decide +kernel⟩ (by decide +kernel) w
  rw [show nar (sineF (fracF 4598175219545276416)) = some 1065353216 by decide +kernel] at h
  refine h.mono ?_
  rintro e w' ⟨g, n, rfl, rfl, hc, _⟩
  obtain ⟨_, rfl⟩ := can_eq_some hc.out
  exact ⟨rfl, n, rfl⟩

/-- a sum, with its word -/
theorem implSumW (A : Option Addr) (c : Nat) (zs : List Nat) (w : World) (Z : Nat) (hr : RowF w Z A zs) (hn : zs.length ≤ 256) :
    Calls Tryd.prog 18 #[.slice A zs.length c] w fun e w' => ∃ g n, e = .returned (.tuple #[.float .f32 g, .bool true]) ∧ w' = w.drewN n ∧ WF .f32 g ∧ Hid (can .f32 g = sumF zs) := by
  have HR := Lib.hid hr
  clear hr
  have h9 : decide ((256 : Int) < (zs.length : Int)) = false := decide_eq_false (by omega)
  go_enter Tryd.func18, Tryd.ntmps18
  go_wp2
  clear h9
  go_loopw [4, 6, 12] (fun s _ i wr => ∃ k : Nat, k ≤ zs.length ∧ i = .int .i64 k ∧ ∃ n sw, wr = w.drewN n ∧ s = .float .f32 sw ∧ WF .f32 sw ∧ Hid (can .f32 sw = sumF (zs.take k))) (fun _ _ i _ => zs.length - (intOf i).toNat)
  case atStart => exact ⟨0, Nat.zero_le _, rfl, 0, _, rfl, rfl, ⟨by decide⟩, by show can .f32 0 = _; simp [sumF]⟩
  case round =>
    obtain ⟨k, hk, rfl, n, sw, rfl, rfl, hw, hs⟩ := hrel
    by_cases hlt : k < zs.length
    · obtain ⟨b, off, rfl, hb, hcell⟩ := HR.out (by omega)
      have hc := hcell k hlt
      have S := Lib.hid (sum_step zs k hlt)
      clear hcell
      go_wp2_with ((with_reducible refine upon_bin rfl ?_); intro _ _ _ _)
      rename_i r n2 wr er
      go_roundw
      case rel => exact ⟨k + 1, by omega, by go_num, _, _, rfl, rfl, wr, by show can .f32 r = _; rw [er.out, hs.out, S.out]⟩
      case measure => simp [intOf]; omega
    · have e : Hid (zs.take k = zs) := List.take_of_length_le (by omega)
      go_wp2
      go_ret2
      exact ⟨sw, _, rfl, rfl, hw, by show can .f32 sw = sumF zs; rw [hs.out, e.out]⟩

end Go.Proofs.YtckhdbnoihieeaaDoor
