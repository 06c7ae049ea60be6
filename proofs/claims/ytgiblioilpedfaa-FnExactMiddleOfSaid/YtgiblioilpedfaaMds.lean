/-
  What is proved here: MiddleOf, of the reference, as a walk; the sums as words. Conditions: at most 1048576 cells.
-/
import Derived.Test.YtgiblioilpedfaaMdw
import Derived.Test.YtgiblioilpedfaaRoot
import Derived.Test.YtgiblioilpedfaaMes
import Derived.Deep.RegionHeld3
namespace Go.Proofs.Ytgiblioilpedfaa
open Flt Go.RowKit
set_option linter.unusedVariables false

/-- all that is reckoned of a field -/
structure MidF (x : Int) (n : Nat) (p : Nat → Bool) (SA SB : Nat → Nat) (TA TB : Nat → Nat) (mx my : Nat) (dx dy q : Int → Nat) : Prop where
  a0 : SA 0 = 0 ∧ SB 0 = 0 ∧ TA 0 = 0 ∧ TB 0 = 0
  no : ∀ k, p k = false → SA (k + 1) = SA k ∧ SB (k + 1) = SB k
  yes : ∀ k : Nat, k < n → p k = true → floatBits .add .f32 (SA k) (plX x k) = some (SA (k + 1)) ∧ floatBits .add .f32 (SB k) (plY x k) = some (SB (k + 1))
  at' : ∀ m, m < (fulL p n).length → floatBits .add .f32 (TA m) (plX x (atI (fulL p n) m)) = some (TA (m + 1)) ∧ floatBits .add .f32 (TB m) (plY x (atI (fulL p n) m)) = some (TB (m + 1))
  eq : TA (fulL p n).length = SA n ∧ TB (fulL p n).length = SB n
  quo : floatBits .quo .f32 (SA n) (floatOfInt .f32 ((fulN p n : Nat) : Int)) = some mx ∧ floatBits .quo .f32 (SB n) (floatOfInt .f32 ((fulN p n : Nat) : Int)) = some my
  wd : (∃ X, floatToFloatBits .f32 mx .f64 = some X) ∧ ∃ Y, floatToFloatBits .f32 my .f64 = some Y
  pw : ∀ k : Nat, k < n → PwF (plX x k) (plY x k) mx my (dx k) (dy k) (q k)
theorem takeL_snoc {L : List Int} {k : Nat} (h : k < L.length) : L.take (k + 1) = L.take k ++ [atI L k] := by
  rw [List.take_succ_eq_append_getElem h]; unfold atI; rw [List.getD_eq_getElem?_getD, List.getElem?_eq_getElem h]; rfl
theorem mid_is (x y : Int) (n : Nat) (p : Nat → Bool) (hv : fvB x y n = true) (h1 : 1 ≤ fulN p n) : ∃ SA SB TA TB mx my dx dy q, MidF x n p SA SB TA TB mx my dx dy q := by
  obtain ⟨⟨⟨hx1, hx2⟩, hy1, hy2⟩, hn, hn1, hn2⟩ := fvB_yes hv
  obtain ⟨W, rfl⟩ := Int.eq_ofNat_of_zero_le (show 0 ≤ x by omega)
  obtain ⟨Y, rfl⟩ := Int.eq_ofNat_of_zero_le (show 0 ≤ y by omega)
  have hWY : n = W * Y := by
    have : ((n : Nat) : Int) = ((W * Y : Nat) : Int) := by rw [hn]; simp
    omega
  have b1 : ∀ j : Nat, j < n → (j : Int).toNat % W ≤ 15 := fun j _ => by
    rw [Int.toNat_natCast]
    have := Nat.mod_lt j (show 0 < W by omega)
    omega
  have b2 : ∀ j : Nat, j < n → (j : Int).toNat / W ≤ 15 := fun j hj => by
    rw [Int.toNat_natCast]
    have : j / W < Y := (Nat.div_lt_iff_lt_mul (by omega)).2 (by rw [Nat.mul_comm]; omega)
    omega
  have hfl : ∀ k, k ≤ n → (∀ c ∈ fulL p k, c.toNat % W ≤ 15) ∧ (∀ c ∈ fulL p k, c.toNat / W ≤ 15) := fun k hk => ⟨fun c hc => by obtain ⟨j, hj, rfl⟩ := mem_fulL hc; exact b1 j (by omega), fun c hc => by obtain ⟨j, hj, rfl⟩ := mem_fulL hc; exact b2 j (by omega)⟩
  have hle := fulN_le p n
  obtain ⟨mx, my, dx, dy, q, e1, e2, hw, hp⟩ := mid_ex W (fulL p n) (by rw [fulL_len]; exact h1) (by rw [fulL_len]; omega) (hfl n (Nat.le_refl _)).1 (hfl n (Nat.le_refl _)).2
  rw [fulL_len] at e1 e2
  have add1 : ∀ (L : List Int) (c : Int), 0 ≤ c → L.length ≤ 256 → (∀ c ∈ L, c.toNat % W ≤ 15) → (∀ c ∈ L, c.toNat / W ≤ 15) → c.toNat % W ≤ 15 → c.toNat / W ≤ 15 →
      floatBits .add .f32 (N .f32 false (lsA W L)) (plX (W : Int) c) = some (N .f32 false (lsA W (L ++ [c]))) ∧ floatBits .add .f32 (N .f32 false (lsB W L)) (plY (W : Int) c) = some (N .f32 false (lsB W (L ++ [c]))) := fun L c h0 hl g1 g2 g3 g4 => by
    have u1 := lsA_le g1
    have u2 := lsB_le g2
    rw [plX_nat W c h0, plY_nat W c h0, lsA_snoc, lsB_snoc]
    exact ⟨add_int (by omega), add_int (by omega)⟩
  have hin : ∀ m, m < (fulL p n).length → atI (fulL p n) m ∈ fulL p n := fun m hm => by unfold atI; rw [List.getD_eq_getElem?_getD, List.getElem?_eq_getElem hm]; exact List.getElem_mem _
  refine ⟨fun k => N .f32 false (lsA W (fulL p k)), fun k => N .f32 false (lsB W (fulL p k)), fun m => N .f32 false (lsA W ((fulL p n).take m)), fun m => N .f32 false (lsB W ((fulL p n).take m)), mx, my, dx, dy, q, ?_⟩
  refine ⟨⟨by show N .f32 false 0 = 0; decide, by show N .f32 false 0 = 0; decide, by show N .f32 false 0 = 0; decide, by show N .f32 false 0 = 0; decide⟩, fun k h => by rw [fulL_no h]; exact ⟨rfl, rfl⟩, fun k hk h => ?_, fun m hm => ?_, by rw [List.take_length]; exact ⟨rfl, rfl⟩, ⟨e1, e2⟩, hw, fun k hk => hp _ (by omega) (b1 k hk) (b2 k hk)⟩
  · rw [fulL_yes h]
    exact add1 _ _ (by omega) (by rw [fulL_len]; have := fulN_le p k; omega) (hfl k (by omega)).1 (hfl k (by omega)).2 (b1 k hk) (b2 k hk)
  · rw [takeL_snoc hm]
    have hm2 := hin m hm
    obtain ⟨j, hj, ej⟩ := mem_fulL hm2
    refine add1 _ _ (by rw [ej]; omega) (by rw [List.length_take, fulL_len]; omega) (fun c hc => (hfl n (Nat.le_refl _)).1 c (List.mem_of_mem_take hc)) (fun c hc => (hfl n (Nat.le_refl _)).2 c (List.mem_of_mem_take hc)) ((hfl n (Nat.le_refl _)).1 _ hm2) ((hfl n (Nat.le_refl _)).2 _ hm2)

/-- what MiddleOf gives -/
def MdPost (cx cy : Nat) (g : Option Nat) (b : Bool) (w : World) (e : Ending) (w' : World) : Prop := ∃ gw, e = .returned (.tuple #[.complex .f32 cx cy, .float .f32 gw, .bool b]) ∧ WF .f32 gw ∧ Hid (can .f32 gw = g) ∧ Hid (Below w.heap.size w w')
theorem mdpost_no {w w' : World} (hb : Below w.heap.size w w') : MdPost 0 0 (can .f32 0) false w (.returned (.tuple #[.complex .f32 0 0, .float .f32 0, .bool false])) w' := ⟨0, rfl, ⟨by decide⟩, rfl, hb⟩

theorem specMidNo (x y : Int) (A : Option Addr) (n c : Nat) (p : Nat → Bool) (w : World) (hr : RowV w w.heap.size A n (bo p)) (hn : n ≤ 1048576) (h : fvB x y n = false ∨ fulN p n = 0) :
    Calls Try.prog 33 #[.agg #[.int .i64 x, .int .i64 y, .slice A n c]] w (MdPost 0 0 (can .f32 0) false w) := by
  have B0 := below_var w x y A n c 40
  have V0 := varT_new w x y A n c 40
  have HR := Lib.hid (hr.carry B0)
  have HB0 := Lib.hid B0
  have c0 := V0.c0
  have c1 := V0.c1
  have c2 := V0.c2
  have hl := V0.lt
  clear hr V0 B0
  cases hv : fvB x y n
  · have HC := Lib.hid (specCntNo x y A n c (w.alloc (.cells #[.int .i64 x, .int .i64 y, .slice A n c] 40)) hn hv)
    clear hv h
    go_enter Try.func33, Try.ntmps33
    go_wp2_with fail
    refine HC.out.mono ?_
    rintro e w1 ⟨rfl, hb⟩
    have HE := Lib.hid (HB0.out.trans (hb.out.mono HB0.out.size))
    clear HC hb
    go_wp2_with fail
    go_ret3
    exact mdpost_no HE.out
  · have hz : fulN p n = 0 := by
      rcases h with h | h
      · rw [hv] at h; cases h
      · exact h
    have HC := Lib.hid (specCnt x y A n c p _ HR.out hn hv)
    rw [hz] at HC
    clear hv h hz
    go_enter Try.func33, Try.ntmps33
    go_wp2_with fail
    refine HC.out.mono ?_
    rintro e w1 ⟨rfl, hb⟩
    have HE := Lib.hid (HB0.out.trans (hb.out.mono HB0.out.size))
    clear HC hb
    go_wp2_with fail
    go_ret3
    exact mdpost_no HE.out

set_option maxHeartbeats 4000000 in
theorem specMidYes (x y : Int) (A : Option Addr) (n c : Nat) (p : Nat → Bool) (w : World) (hr : RowV w w.heap.size A n (bo p)) (hn : n ≤ 1048576) (hv : fvB x y n = true) (h1 : 1 ≤ fulN p n)
    {SA SB TA TB : Nat → Nat} {mx my : Nat} {dx dy q : Int → Nat} (M : MidF x n p SA SB TA TB mx my dx dy q) :
    Calls Try.prog 33 #[.agg #[.int .i64 x, .int .i64 y, .slice A n c]] w (MdPost mx my (rootM (fop .quo .f32 (smO q (fulL p n)) (can .f32 (floatOfInt .f32 ((fulN p n : Nat) : Int))))) true w) := by
  have B0 := below_var w x y A n c 40
  have V0 := varT_new w x y A n c 40
  have HR := Lib.hid (hr.carry B0)
  have HB0 := Lib.hid B0
  have HV := Lib.hid V0
  have HM := Lib.hid M
  have c0 := V0.c0
  have c1 := V0.c1
  have c2 := V0.c2
  have hl := V0.lt
  have HC := Lib.hid (specCnt x y A n c p _ HR.out hn hv)
  have hcl := fulN_le p n
  obtain ⟨⟨⟨hx1, hx2⟩, hy⟩, hxy, hn1, hn2⟩ := fvB_yes hv
  have hz : (((fulN p n : Nat) : Int) == 0) = false := by rw [beq_eq_false_iff_ne]; omega
  have q1 := run_f32 M.quo.1
  have q2 := run_f32 M.quo.2
  clear hr V0 B0 hv M hy hxy
  go_enter Try.func33, Try.ntmps33
  go_wp2_with fail
  generalize w.alloc (.cells #[.int .i64 x, .int .i64 y, .slice A n c] 40) = wa at *
  refine HC.out.mono ?_
  rintro e w1 ⟨rfl, hb⟩
  have HE := Lib.hid (HB0.out.trans (hb.out.mono HB0.out.size))
  have HV1 := Lib.hid (HV.out.below hb.out)
  have HR1 := Lib.hid (HR.out.carry hb.out)
  have c2 := HV1.out.c2
  have hl := HV1.out.lt
  obtain ⟨fb, fo, rfl, hfb, hcell⟩ := HR1.out (by omega)
  have HCL := Lib.hid hcell
  clear HC hb c0 c1 HV HR hcell
  go_wp2_with fail
  have hS0 := Lib.hid HM.out.a0
  go_loopw [7, 26] (fun o i wr => ∃ (k : Nat), k ≤ n ∧ i = .int .i64 k ∧ o = .complex .f32 (SA k) (SB k) ∧ ∃ m, wr = w1.drewN m) (fun _ i _ => n - (intOf i).toNat)
  case atStart => exact ⟨0, Nat.zero_le _, rfl, by rw [hS0.out.1, hS0.out.2.1], 0, rfl⟩
  case round =>
    obtain ⟨k, hk, rfl, rfl, m, rfl⟩ := hrel
    by_cases hlt : k < n
    · have hc := HCL.out k hlt
      unfold bo at hc
      cases hp : p k
      · have E := Lib.hid (HM.out.no k hp)
        rw [hp] at hc
        clear hp q1 q2
        go_wp2_with fail
        go_roundw
        case rel => exact ⟨k + 1, by omega, by go_num, by rw [E.out.1, E.out.2], _, rfl⟩
        case measure => simp [intOf]; omega
      · have E := HM.out.yes k hlt hp
        have q3 := run_cs (.inl rfl) E.1 E.2
        have HP := Lib.hid (specPlc w.heap.size x y (some ⟨fb, fo, none⟩) n c (k : Int) (w1.drewN m) (HV1.out.below (belowN (Below.refl _ _))) hx1 hx2 (by omega) (by omega))
        rw [hp] at hc
        clear hp q1 q2 E
        go_wp2_with (go_at_call 89; refine HP.out.mono ?_; rintro e w' ⟨rfl, m2, rfl⟩)
        go_roundw
        case rel => exact ⟨k + 1, by omega, by go_num, rfl, _, rfl⟩
        case measure => simp [intOf]; omega
    · have ek : k = n := by omega
      subst ek
      go_wp2_with fail
      clear q1 q2
      go_loopw [10, 53] (fun o i wr => ∃ (j : Nat) (sw : Nat), j ≤ k ∧ i = .int .i64 j ∧ o = .float .f32 sw ∧ WF .f32 sw ∧ Hid (can .f32 sw = smO q (fulL p j)) ∧ ∃ m, wr = w1.drewN m) (fun _ i _ => k - (intOf i).toNat)
      case atStart => exact ⟨0, 0, Nat.zero_le _, rfl, rfl, ⟨by decide⟩, rfl, m, rfl⟩
      case round =>
        obtain ⟨j, sw, hj, rfl, rfl, hw, hs, m, rfl⟩ := hrel
        by_cases hlt : j < k
        · have hc := HCL.out j hlt
          unfold bo at hc
          cases hp : p j
          · have E := Lib.hid (fulL_no hp)
            rw [hp] at hc
            clear hp
            go_wp2_with fail
            go_roundw
            case rel => exact ⟨j + 1, sw, by omega, by go_num, rfl, hw, by rw [E.out]; exact hs, _, rfl⟩
            case measure => simp [intOf]; omega
          · have E := Lib.hid (show smO q (fulL p (j + 1)) = _ by rw [fulL_yes hp, smO_snoc])
            have P := HM.out.pw j hlt
            have q3 := run_cs (.inr rfl) P.sx P.sy
            have HQ := Lib.hid (fun W => specPow P W)
            have HP := Lib.hid (specPlc w.heap.size x y (some ⟨fb, fo, none⟩) k c (j : Int) (w1.drewN m) (HV1.out.below (belowN (Below.refl _ _))) hx1 hx2 (by omega) (by omega))
            rw [hp] at hc
            clear hp P
            go_wp2_with (first | (go_at_call 89; refine HP.out.mono ?_; rintro e w' ⟨rfl, m2, rfl⟩) | (go_at_call 90; refine (HQ.out _).mono ?_; rintro e w' ⟨rfl, rfl⟩) | ((with_reducible refine upon_bin rfl ?_); intro r n2 wf er))
            go_roundw
            case rel => exact ⟨j + 1, r, by omega, by go_num, rfl, wf, by show _ = _; rw [er.out, hs.out, E.out], _, rfl⟩
            case measure => simp [intOf]; omega
        · have ej : j = k := by omega
          subst ej
          go_wp2_with (first | ((with_reducible refine upon_bin rfl ?_); intro r n2 wf er) | (go_at_call 91; refine (specSqrtM _ _).mono ?_; rintro e w' ⟨g, m3, rfl, rfl, hg⟩))
          go_ret3
          exact ⟨g, rfl, hg.2, by show _ = _; rw [hg.1, er.out, hs.out]; rfl, belowN HE.out⟩

end Go.Proofs.Ytgiblioilpedfaa
