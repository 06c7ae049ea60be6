/-
  What is proved here: the texts Rgp Rgs Rgi in one. Conditions: as theirs. Own text.
-/
import Derived.Test.YtfjahgojmiednaaHlf
import Derived.Test.YtfjahgojmiednaaDif
import Derived.Test.YtfjahgojmiednaaMas
import Derived.Test.YtfjahgojmiednaaSlq
import Derived.Test.YtfjahgojmiednaaVas
import Derived.Test.YtfjahgojmiednaaVrm
namespace Go.Proofs.Ytfjahgojmiednaa
section
open Flt Ieee

theorem half_fin {x : Nat} (h : finB .f32 x = true) : ∃ r, floatBits .mul .f32 1056964608 x = some r ∧ finB .f32 r = true := by
  have hx : x % FloatKind.f32.format.signWeight < FloatKind.f32.format.infRung := of_decide_eq_true h
  obtain ⟨m, d, hr, hv⟩ := read_V hx
  have hB : 0 < FloatKind.f32.format.binade := by decide
  obtain ⟨N, hN⟩ : ∃ N : Nat, N = 254 := ⟨_, rfl⟩
  have hle : m * 2 ^ d ≤ FloatKind.f32.format.binade * 2 ^ N := by
    rw [hv, hN]
    have := V_le hB (Nat.le_of_lt hx)
    rw [show FloatKind.f32.format.infRung = 255 * FloatKind.f32.format.binade by decide, V_mul hB 255 (by decide)] at this
    exact this
  have h1 : LeP m (FloatKind.f32.format.leastPlace + d) 128 := by
    refine ⟨149, by have : FloatKind.f32.format.leastPlace = -149 := by decide
                    omega, by omega, ?_⟩
    have e1 : (FloatKind.f32.format.leastPlace + (d : Int) + (149 : Nat)).toNat = d := by
      have : FloatKind.f32.format.leastPlace = -149 := by decide
      omega
    have e2 : ((128 : Int) + (149 : Nat)).toNat = 23 + N := by omega
    rw [e1, e2, Nat.pow_add]
    have e3 : FloatKind.f32.format.binade = 2 ^ 23 := by decide
    rw [e3] at hle
    exact hle
  have h2 : LeP 8388608 (-24) (-1) := ⟨24, by omega, by omega, by decide⟩
  have h3 := h2.mul h1
  have hc : FloatKind.f32.format.read 1056964608 = .number false 8388608 (-24) := by decide +kernel
  have a1 : floatBits .mul .f32 1056964608 x = ((FloatKind.f32.format.read 1056964608).product (FloatKind.f32.format.read x)).map FloatKind.f32.format.write := rfl
  rw [a1, hc, hr]
  refine ⟨_, rfl, ?_⟩
  have h4 := nearest_le .f32 (false != (x / FloatKind.f32.format.signWeight % 2 == 1)) 254 h3 (by decide) (by decide)
  refine decide_eq_true (Nat.lt_of_le_of_lt h4 ?_)
  show 254 * FloatKind.f32.format.binade < FloatKind.f32.format.infRung
  decide

theorem quo_two (x : Nat) : fop .quo .f32 (some x) (can .f32 1073741824) = floatBits .mul .f32 1056964608 x := by
  rw [← half_eq, show can .f32 1056964608 = some 1056964608 by decide +kernel]; rfl
/-- a number over 2 is finite just if the number is -/
theorem fin_two (c : Option Nat) : finO (fop .quo .f32 c (can .f32 1073741824)) = finO c := by
  cases c with
  | none => rfl
  | some x =>
    rw [quo_two]
    show _ = finB .f32 x
    rcases three .f32 x with h | h | h
    · have hf : finB .f32 x = true := decide_eq_true h
      obtain ⟨r, hr, hg⟩ := half_fin hf
      rw [hr, hf]; exact hg
    · have hf : finB .f32 x = false := decide_eq_false (by omega)
      have hc : FloatKind.f32.format.read 1056964608 = .number false 8388608 (-24) := by decide +kernel
      have a1 : floatBits .mul .f32 1056964608 x = ((FloatKind.f32.format.read 1056964608).product (FloatKind.f32.format.read x)).map FloatKind.f32.format.write := rfl
      rw [hf, a1, hc, read_inf h]
      cases (x / FloatKind.f32.format.signWeight % 2 == 1) <;> decide
    · have hf : finB .f32 x = false := decide_eq_false (by omega)
      rw [hf]
      cases e : floatBits .mul .f32 1056964608 x with
      | none => rfl
      | some r =>
        exfalso
        have hn := nanW_of_lt h
        have a1 := fop_can .mul .f32 1056964608 x
        rw [e, can_nan hn] at a1
        cases hq : can .f32 1056964608 <;> rw [hq] at a1 <;> cases a1
theorem two_numC (c : Option Nat) : fop .quo .f32 (numC c) (can .f32 1073741824) = numC (fop .quo .f32 c (can .f32 1073741824)) := by
  unfold numC
  rw [fin_two]
  cases finO c
  · rw [if_neg (by decide), if_neg (by decide)]; decide +kernel
  · rw [if_pos rfl, if_pos rfl]
end

section
open Flt Go.RowKit
set_option linter.unusedVariables false

theorem VarT.lowX {w w' : World} {v G : Nat} {x y : Int} {A : Option Addr} {n c : Nat} (h : VarT w v x y A n c) (hb : Below G w w') (hv : v < G) : VarT w' v x y A n c :=
  ⟨Nat.lt_of_lt_of_le h.lt hb.size, by rw [hb.cell (p := ⟨v, 0, none⟩) hv]; exact h.c0, by rw [hb.cell (p := ⟨v, 1, none⟩) hv]; exact h.c1, by rw [hb.cell (p := ⟨v, 2, none⟩) hv]; exact h.c2⟩
theorem can_eq {g v : Nat} (h : can .f32 g = some v) : g = v := by
  cases hn : nanW .f32 g with
  | true => rw [can_nan hn] at h; cases h
  | false => rw [can_num hn] at h; injection h
/-- the variogram of a lag of k and 1, and the word that is taken for it: 0 where there is none above 0 -/
def rgV (x y : Int) (zs : List Nat) (k : Nat) : Nat := (varC x y zs ((k : Int) + 1)).getD 0
def rgK (x y : Int) (zs : List Nat) (k : Nat) : Bool := varB x y zs ((k : Int) + 1) && posB (rgV x y zs k)
def rgW (x y : Int) (zs : List Nat) (k : Nat) : Nat := if rgK x y zs k = true then rgV x y zs k else 0
def rgL (x y : Int) (zs : List Nat) (m : Nat) : List Nat := (List.range m).map (rgW x y zs)
theorem rgL_len (x y : Int) (zs : List Nat) (m : Nat) : (rgL x y zs m).length = m := by unfold rgL; rw [List.length_map, List.length_range]
theorem rgL_at {x y : Int} {zs : List Nat} {m k : Nat} (h : k < m) : at0 (rgL x y zs m) k = rgW x y zs k := by
  rw [at0_lt (by rw [rgL_len]; exact h)]
  unfold rgL
  simp
theorem varB_some {x y : Int} {zs : List Nat} {lg : Int} (h : varB x y zs lg = true) : ∃ v, varC x y zs lg = some v ∧ finB .f32 v = true := by
  have h' := h
  unfold varB at h
  simp only [Bool.and_eq_true] at h
  obtain ⟨h1, h2, h3, h4⟩ := h
  have e := (var_yes (x := x) (y := y) (zs := zs) (lg := lg) (by rw [h1, h2, h3]; rfl)).2
  unfold numC at e
  rw [h4, if_pos rfl] at e
  cases q : varQ x y lg zs with
  | none => rw [q] at h4; cases h4
  | some v => rw [q] at h4 e; exact ⟨v, e, h4⟩
/-- the word that is told -/
theorem rg_word {x y : Int} {zs : List Nat} {k g : Nat} (h : varB x y zs ((k : Int) + 1) = true) (hg : can .f32 g = varC x y zs ((k : Int) + 1)) : g = rgV x y zs k ∧ finB .f32 g = true := by
  obtain ⟨v, e, hf⟩ := varB_some h
  rw [e] at hg
  have := can_eq hg
  subst this
  unfold rgV
  rw [e]
  exact ⟨rfl, hf⟩
theorem posB_zero : posB 0 = false := by decide
theorem rgW_pos (x y : Int) (zs : List Nat) (k : Nat) : posB (rgW x y zs k) = rgK x y zs k := by
  unfold rgW
  cases h : rgK x y zs k with
  | false => rw [if_neg (by decide)]; exact posB_zero
  | true => rw [if_pos rfl]; unfold rgK at h; rw [Bool.and_eq_true] at h; exact h.2
theorem rgL_fin (x y : Int) (zs : List Nat) (m : Nat) : finAll (rgL x y zs m) = true := by
  refine finAll_yes fun j hj => ?_
  rw [rgL_len] at hj
  rw [rgL_at hj]
  unfold rgW
  cases h : rgK x y zs j with
  | false => rw [if_neg (by decide)]; decide
  | true =>
    rw [if_pos rfl]
    unfold rgK at h
    rw [Bool.and_eq_true] at h
    obtain ⟨v, e, hf⟩ := varB_some h.1
    unfold rgV
    rw [e]; exact hf
theorem rgL_no {x y : Int} {zs : List Nat} {m k : Nat} (h : k < m) (g : rgK x y zs k = false) : posAll (rgL x y zs m) = false :=
  posAll_no (k := k) (by rw [rgL_len]; exact h) (by rw [rgL_at h, rgW_pos]; exact g)
def rgA (x y : Int) (zs : List Nat) (most : Int) : Bool := shB x y zs && (inB most 2 17 && posAll (rgL x y zs most.toNat))
def rgQ (F G : Nat → Option Nat) (m : Nat) : Option Nat := fop .quo .f32 (sloT G F m) (can .f32 1073741824)
def rgC (F G : Nat → Option Nat) (x y : Int) (zs : List Nat) (most : Int) : Option Nat := orNo (rgA x y zs most) (numC (rgQ F G most.toNat))
def rgB (F G : Nat → Option Nat) (x y : Int) (zs : List Nat) (most : Int) : Bool := rgA x y zs most && finO (rgQ F G most.toNat)
theorem rg_no {F G : Nat → Option Nat} {x y : Int} {zs : List Nat} {most : Int} (h : rgA x y zs most = false) : rgB F G x y zs most = false ∧ rgC F G x y zs most = some 0 := by
  unfold rgB rgC orNo
  rw [h]; exact ⟨rfl, rfl⟩

set_option maxHeartbeats 8000000 in
set_option maxRecDepth 1000000 in
theorem specRgh (x y most : Int) (A : Option Addr) (c : Nat) (zs : List Nat) (F G : Nat → Option Nat) (w : World) (hr : RowF w w.heap.size A zs) (hn : zs.length ≤ 1048576) (hF : Lgs (rgL x y zs most.toNat) F) (hG : Cnts G) (h1 : shB x y zs = true) (h2 : inB most 2 17 = true) :
    Calls Try.prog 15 #[.agg #[.int .i64 x, .int .i64 y, .slice A zs.length c], .int .i64 most] w (MPost (rgC F G x y zs most) (rgB F G x y zs most) w) := by
  have B0 : Below w.heap.size w (w.alloc (.cells #[.int .i64 x, .int .i64 y, .slice A zs.length c] 29)) := (Below.refl _ _).alloc (Nat.le_refl _) _
  have HV := Lib.hid (varT_new w x y A zs.length c 29)
  have HC := Lib.hid (specIs w.heap.size x y A c zs _ HV.out (hr.carry B0) hn)
  have HB := Lib.hid B0
  have HR := Lib.hid (hr.below B0)
  obtain ⟨hm1, hm2⟩ := inB_yes h2
  have H1 := Lib.hid h1
  have H2 := Lib.hid h2
  obtain ⟨M, hM⟩ : ∃ M : Nat, most.toNat = M := ⟨_, rfl⟩
  have hMm : (M : Int) = most := by omega
  have EA : Hid (rgA x y zs most = posAll (rgL x y zs M)) := by show _ = _; unfold rgA; rw [h1, h2, hM]; rfl
  have EQ : Hid (rgQ F G most.toNat = rgQ F G M) := by show _ = _; rw [hM]
  rw [hM] at hF
  have hM17 : M ≤ 17 := by omega
  have HMM := Lib.hid hMm
  clear hr B0 h1 h2 hM hMm
  go_enter Try.func15, Try.ntmps15
  go_wp2_with fail
  refine HC.out.mono ?_
  rintro e w' ⟨rfl, n0, rfl⟩
  rw [H1.out]
  clear HC
  go_wp2_with (go_at_call 35; refine (inS_any _ _ _ _).mono ?_; rintro e w' ⟨rfl, rfl⟩; rw [H2.out])
  have hsz : (w.alloc (.cells #[.int .i64 x, .int .i64 y, .slice A zs.length c] 29)).heap.size = w.heap.size + 1 := by simp
  generalize hX : w.heap.size = X at *
  have HX := Lib.hid hX
  generalize ha : w.alloc (.cells #[.int .i64 x, .int .i64 y, .slice A zs.length c] 29) = a0 at *
  have hXa : X < a0.heap.size := HV.out.lt
  clear hX ha
  have O1 : Hid (OwnA (((a0.drewN n0).alloc (.cells #[] 26)).alloc (.cells #[] 26)) (X + 1) [] (X + 1) 0) := by
    show OwnA _ _ _ _ _
    rw [← hsz]; exact (OwnA.lit0 (a0.drewN n0)).below ((Below.refl _ _).alloc (Nat.le_refl _) _)
  have O2 : Hid (OwnA (((a0.drewN n0).alloc (.cells #[] 26)).alloc (.cells #[] 26)) (X + 1) [] (X + 1 + 1) 0) := by
    show OwnA _ _ _ _ _
    rw [← hsz]; exact own_second a0 n0
  have B2 : Hid (Below (X + 1) a0 (((a0.drewN n0).alloc (.cells #[] 26)).alloc (.cells #[] 26))) := by
    show Below _ _ _
    rw [← hsz]; exact ((belowN (Below.refl _ _)).alloc (Nat.le_refl _) _).alloc (by simp) _
  generalize ((a0.drewN n0).alloc (.cells #[] 26)).alloc (.cells #[] 26) = a1 at *
  have HSZ := Lib.hid hsz
  clear hsz hXa
  go_loopw [6, 7, 8] (fun p q i wr => ∃ (k g c h d : Nat) (P Q : List Nat), p = .slice (some ⟨g, 0, none⟩) P.length c ∧ q = .slice (some ⟨h, 0, none⟩) Q.length d ∧ i = .int .i64 ((k : Int) + 1) ∧ k ≤ M ∧ g ≠ h ∧ Hid (∀ j, j < k → rgK x y zs j = true) ∧ Hid (Tl G k P) ∧ Hid (Tl F k Q) ∧ Hid (OwnA wr (X + 1) P g c) ∧ Hid (OwnA wr (X + 1) Q h d) ∧ Hid (Below (X + 1) a0 wr)) (fun _ _ i _ => M + 1 - (intOf i).toNat)
  case atStart => exact ⟨0, X + 1, 0, X + 1 + 1, 0, [], [], rfl, rfl, rfl, Nat.zero_le _, by omega, fun j hj => absurd hj (Nat.not_lt_zero _), Tl.nil _, Tl.nil _, O1, O2, B2⟩
  case round =>
    clear O1 O2 B2
    obtain ⟨k, g, c1, h, d, P, Q, rfl, rfl, rfl, hk, hgh, hJ, hT, hU, hO, hV, hB⟩ := hrel
    have hsz : Hid (X + 1 ≤ wr.heap.size) := by show _ ≤ _; have := hB.out.size; have := HSZ.out; omega
    have hl : P.length ≤ 64 := by rw [hT.out.len]; omega
    have hl2 : Q.length ≤ 64 := by rw [hU.out.len]; omega
    have hlo := hO.out.lo
    have hlo2 := hV.out.lo
    have BE : Hid (Below X w wr) := HB.out.trans (hB.out.mono (by omega))
    by_cases hlt : k < M
    · have hkm : (k : Int) + 1 ≤ most := by have := HMM.out; omega
      have VW := HV.out.lowX hB.out (show X < X + 1 by omega)
      have RW : RowF wr wr.heap.size A zs := (HR.out.below (hB.out.mono (by omega))).mono (by have := hsz.out; omega)
      have HQ := Lib.hid (specVar0 X x y ((k : Int) + 1) A c zs wr VW RW H1.out (by unfold inB; rw [decide_eq_true (show (1 : Int) ≤ (k : Int) + 1 by omega), decide_eq_true (show (k : Int) + 1 ≤ 17 by omega)]; rfl))
      clear VW RW
      cases hvb : varB x y zs ((k : Int) + 1)
      · have N := Lib.hid (rg_no (F := F) (G := G) (x := x) (y := y) (zs := zs) (most := most) (by rw [EA.out]; exact rgL_no hlt (by unfold rgK; rw [hvb]; rfl)))
        rw [hvb] at HQ
        clear hvb
        go_wp2_with fail
        refine HQ.out.mono ?_
        rintro e w' ⟨r, n, rfl, rfl, e1, w1⟩
        clear HQ
        go_wp2_with fail
        go_ret2
        exact mpost_not N.out.1 N.out.2 (belowN (by rw [HX.out]; exact BE.out))
      · have HW := Lib.hid (fun (r : Nat) hg => rg_word (g := r) hvb hg)
        cases hp : posB (rgV x y zs k)
        · have hp2 : (FloatKind.f32.format.order (rgV x y zs k) 0 == some .gt) = false := hp
          have N := Lib.hid (rg_no (F := F) (G := G) (x := x) (y := y) (zs := zs) (most := most) (by rw [EA.out]; exact rgL_no hlt (by unfold rgK; rw [hp, Bool.and_false])))
          rw [hvb] at HQ
          clear hvb hp
          go_wp2_with fail
          refine HQ.out.mono ?_
          rintro e w' ⟨r, n, rfl, rfl, e1, w1⟩
          obtain ⟨er, _⟩ := HW.out r e1.out
          rw [← er] at hp2
          clear HQ HW er
          go_wp2_with fail
          go_ret2
          exact mpost_not N.out.1 N.out.2 (belowN (by rw [HX.out]; exact BE.out))
        · have hp2 : (FloatKind.f32.format.order (rgV x y zs k) 0 == some .gt) = true := hp
          have hK : rgK x y zs k = true := by unfold rgK; rw [hvb, hp]; rfl
          have hat : at0 (rgL x y zs M) k = rgV x y zs k := by rw [rgL_at hlt]; unfold rgW; rw [if_pos hK]
          have HS0 := hF.sp k (by rw [rgL_len]; exact hlt) (by rw [hat]; exact hp)
          rw [hat] at HS0
          have HG := Lib.hid (fun W => (hG k (by omega)).1 W)
          have HJ : Hid (∀ j, j < k + 1 → rgK x y zs j = true) := fun j hj => by
            by_cases e : j = k
            · rw [e]; exact hK
            · exact hJ.out j (by omega)
          rw [hvb] at HQ
          clear hvb hp hJ hK hat
          go_wp2_with fail
          refine HQ.out.mono ?_
          rintro e w' ⟨r, n, rfl, rfl, e1, w1⟩
          obtain ⟨er, _⟩ := HW.out r e1.out
          rw [← er] at hp2 HS0
          have HS := Lib.hid HS0
          clear HQ HW er HS0 e1
          go_wp2_with (first | (go_at_call 43; (first | ((with_reducible refine (HS.out _).mono ?_); rintro e w' ⟨r2, n2, rfl, rfl, e2, w2⟩) | ((with_reducible refine (HG.out _).mono ?_); rintro e w' ⟨r1, n1, rfl, rfl, e1, w1⟩))) | (at_builtin; (first | (refine wpApp2 rfl _ _ rfl (show OwnA (wr.drewN _) _ P _ _ from hO.out) rfl rfl rfl (by omega) hsz.out ?_; intro g2 c2 w4 O4 B4 G4; have HO4 := Lib.hid O4; have HV4 := Lib.hid ((show OwnA (wr.drewN (n + n1)) _ Q _ _ from hV.out).but B4 (by omega)); have HB4 := Lib.hid (below_app (belowN hB.out) (by have := HSZ.out; omega) hlo.1 B4); have hsz4 := B4.size; have G4' : g2 = g ∨ wr.heap.size ≤ g2 := G4; clear O4 B4 G4) | (refine wpApp2 rfl _ _ rfl (show OwnA (w4.drewN _) _ Q _ _ from HV4.out) rfl rfl rfl (by omega) (Nat.le_trans hsz.out hsz4) ?_; intro h2 d2 w5 O5 B5 G5; have HV5 := Lib.hid O5; have HO5 := Lib.hid ((show OwnA (w4.drewN n2) _ _ _ _ from HO4.out).but B5 (by omega)); have HB5 := Lib.hid (below_app (belowN HB4.out) (by have := HSZ.out; omega) hlo2.1 B5); have G5' : h2 = h ∨ w4.heap.size ≤ h2 := G5; have hlo4 := HO4.out.lo; clear O5 B5 G5))))
          have HT2 : Hid (Tl G (k + 1) (P ++ [r1])) := hT.out.snoc e1.out
          have HU2 : Hid (Tl F (k + 1) (Q ++ [r2])) := hU.out.snoc e2.out
          have hsz5 : wr.heap.size ≤ w4.heap.size := hsz4
          go_roundw
          case rel => exact ⟨k + 1, g2, c2, h2, d2, P ++ [r1], Q ++ [r2], by rw [snoc_len], by rw [snoc_len], by go_num, by omega, by omega, HJ, HT2, HU2, HO5, HV5, HB5⟩
          case measure => simp [intOf]; omega
    · have HK : Hid (k = M) := by show _ = _; omega
      have hkm : ¬ (k : Int) + 1 ≤ most := by have := HMM.out; omega
      have N : Hid (rgA x y zs most = true) := by
        show _ = _
        rw [EA.out]
        exact posAll_yes fun j hj => by rw [rgL_len] at hj; rw [rgL_at hj, rgW_pos]; exact hJ.out j (by have := HK.out; omega)
      have hT2 : Hid (Tl G M P) := by have := hT.out; rw [HK.out] at this; exact this
      have hU2 : Hid (Tl F M Q) := by have := hU.out; rw [HK.out] at this; exact this
      have HS := specSl5 (some ⟨g, 0, none⟩) (some ⟨h, 0, none⟩) c1 d P Q wr _ hO.out.rowIn.toRow hV.out.rowIn.toRow (by rw [hT2.out.len, hU2.out.len]) (by omega)
      rw [slo_told hT2.out hU2.out] at HS
      have HS2 := Lib.hid HS
      clear HS
      go_wp2_with (first | (go_at_call 45; refine HS2.out.mono ?_; rintro e w' ⟨gm, nm, rfl, rfl, hgm, hwm⟩) | ((with_reducible refine upon_bin rfl ?_); intro r1 m1 wf1 er1))
      have hcr : can .f32 r1 = rgQ F G M := by rw [er1.out, hgm.out]; rfl
      refine (specNumber r1 _ hcr wf1 _).mono ?_
      rintro e w' ⟨g3, n3, rfl, rfl, hg3, hgw3⟩
      clear hcr
      go_wp2_with fail
      go_ret2
      exact ⟨g3, by unfold rgB; rw [N.out, EQ.out]; rfl, by show _ = _; unfold rgC orNo; rw [N.out, EQ.out]; exact hg3.out, hgw3, belowN (by rw [HX.out]; exact BE.out)⟩
end

section
open Flt Go.RowKit
attribute [local go_sem] run_store_float
set_option linter.unusedVariables false

theorem rg_pos {x y : Int} {zs ws : List Nat} {M : Nat} (hl : ws.length = M) (h : ∀ j, j < M → varB x y zs ((j : Int) + 1) = true ∧ at0 ws j = rgV x y zs j) : posAll ws = posAll (rgL x y zs M) := by
  have e : ∀ j, j < M → posB (at0 ws j) = rgK x y zs j := fun j hj => by
    obtain ⟨h1, h2⟩ := h j hj
    unfold rgK
    rw [h2, h1, Bool.true_and]
  by_cases g : ∀ j, j < M → rgK x y zs j = true
  · rw [posAll_yes (zs := ws) fun j hj => by rw [hl] at hj; rw [e j hj]; exact g j hj, posAll_yes (zs := rgL x y zs M) fun j hj => by rw [rgL_len] at hj; rw [rgL_at hj, rgW_pos]; exact g j hj]
  · have : ∃ j, j < M ∧ rgK x y zs j = false := by
      apply Classical.byContradiction
      intro hn
      exact g fun j hj => by
        cases q : rgK x y zs j with
        | true => rfl
        | false => exact absurd ⟨j, hj, q⟩ hn
    obtain ⟨j, hj, q⟩ := this
    rw [posAll_no (k := j) (by rw [hl]; exact hj) (by rw [e j hj]; exact q), rgL_no hj q]
theorem rg_lgs {x y : Int} {zs ws : List Nat} {M : Nat} {F : Nat → Option Nat} (hl : ws.length = M) (h : ∀ j, j < M → varB x y zs ((j : Int) + 1) = true ∧ at0 ws j = rgV x y zs j ∧ finB .f32 (at0 ws j) = true) (hF : Lgs (rgL x y zs M) F) : Lgs ws F := by
  have e : ∀ j, j < M → posB (at0 ws j) = true → at0 (rgL x y zs M) j = at0 ws j := fun j hj hp => by
    obtain ⟨h1, h2, _⟩ := h j hj
    have hK : rgK x y zs j = true := by unfold rgK; rw [h1, ← h2, hp]; rfl
    rw [rgL_at hj]
    unfold rgW
    rw [if_pos hK, h2]
  refine ⟨finAll_yes fun j hj => by rw [hl] at hj; exact (h j hj).2.2, fun j hj hp => ?_, fun j hj hp => ?_⟩
  · rw [hl] at hj
    have := hF.sp j (by rw [rgL_len]; exact hj) (by rw [e j hj hp]; exact hp)
    rwa [e j hj hp] at this
  · rw [hl] at hj
    have := hF.im j (by rw [rgL_len]; exact hj) (by rw [e j hj hp]; exact hp)
    rwa [e j hj hp] at this
theorem rg_two (b : Bool) (c : Option Nat) : fop .quo .f32 (orNo b (numC c)) (can .f32 1073741824) = orNo b (numC (fop .quo .f32 c (can .f32 1073741824))) := by
  unfold orNo
  cases b
  · rw [if_neg (by decide), if_neg (by decide)]; decide +kernel
  · rw [if_pos rfl, if_pos rfl]; exact two_numC c

set_option maxHeartbeats 8000000 in
set_option maxRecDepth 1000000 in
theorem implRgh (x y most : Int) (A : Option Addr) (c : Nat) (zs : List Nat) (F G : Nat → Option Nat) (w : World) (hr : RowF w w.heap.size A zs) (hn : zs.length ≤ 1048576) (hF : Lgs (rgL x y zs most.toNat) F) (hG : Cnts G) (h2 : inB most 2 17 = true) :
    Calls Try.prog 16 #[.agg #[.int .i64 x, .int .i64 y, .slice A zs.length c], .int .i64 most] w (MPost (rgC F G x y zs most) (rgB F G x y zs most) w) := by
  have B0 : Below w.heap.size w (w.alloc (.cells #[.int .i64 x, .int .i64 y, .slice A zs.length c] 29)) := (Below.refl _ _).alloc (Nat.le_refl _) _
  have HV := Lib.hid (varT_new w x y A zs.length c 29)
  have HB := Lib.hid B0
  have HR := Lib.hid (hr.below B0)
  obtain ⟨hm1, hm2⟩ := inB_yes h2
  have H2 := Lib.hid h2
  obtain ⟨M, hM⟩ : ∃ M : Nat, most.toNat = M := ⟨_, rfl⟩
  have hMm : (M : Int) = most := by omega
  have hmk := run_mk M (by omega)
  rw [hMm] at hmk
  have EQ : Hid (rgQ F G most.toNat = rgQ F G M) := by show _ = _; rw [hM]
  have EA : Hid (shB x y zs = true → rgA x y zs most = posAll (rgL x y zs M)) := fun h1 => by unfold rgA; rw [h1, h2, hM]; rfl
  have EN : Hid (posAll (rgL x y zs M) = false → rgA x y zs most = false) := fun h1 => by unfold rgA; rw [hM, h1, Bool.and_false, Bool.and_false]
  rw [hM] at hF
  have hM17 : M ≤ 17 := by omega
  have hM2 : 2 ≤ M := by omega
  have HMM := Lib.hid hMm
  clear hr B0 h2 hM hMm
  go_enter Try.func16, Try.ntmps16
  go_wp2_with (go_at_call 38; refine (within_any _ _ _ _).mono ?_; rintro e w' ⟨rfl, rfl⟩; rw [H2.out])
  have hsz : (w.alloc (.cells #[.int .i64 x, .int .i64 y, .slice A zs.length c] 29)).heap.size = w.heap.size + 1 := by simp
  generalize hX : w.heap.size = X at *
  have HX := Lib.hid hX
  generalize ha : w.alloc (.cells #[.int .i64 x, .int .i64 y, .slice A zs.length c] 29) = a0 at *
  clear hX ha hmk
  have O1 : Hid (RowH (a0.alloc (.cells (madeCells #[.float .f32 0] M) 26)) (X + 1) (List.replicate M 0)) := by
    show RowH _ _ _
    rw [← hsz]; exact rowH_new a0 M
  have B2 : Hid (Below (X + 1) a0 (a0.alloc (.cells (madeCells #[.float .f32 0] M) 26))) := by
    show Below _ _ _
    rw [← hsz]; exact (Below.refl _ _).alloc (Nat.le_refl _) _
  generalize a0.alloc (.cells (madeCells #[.float .f32 0] M) 26) = a1 at *
  have HSZ := Lib.hid hsz
  clear hsz
  go_loopw [19] (fun i wr => ∃ (k : Nat) (ws : List Nat), i = .int .i64 k ∧ k ≤ M ∧ Hid (ws.length = M) ∧ Hid (∀ j, j < k → varB x y zs ((j : Int) + 1) = true ∧ at0 ws j = rgV x y zs j ∧ finB .f32 (at0 ws j) = true) ∧ Hid (RowH wr (X + 1) ws) ∧ Hid (Below (X + 1) a0 wr)) (fun i _ => M - (intOf i).toNat)
  case atStart => exact ⟨0, List.replicate M 0, rfl, Nat.zero_le _, List.length_replicate, fun j hj => absurd hj (Nat.not_lt_zero _), O1, B2⟩
  case round =>
    clear O1 B2
    obtain ⟨k, ws, rfl, hk, hL, hJ, hO, hB⟩ := hrel
    have hsz : Hid (X + 1 ≤ wr.heap.size) := by show _ ≤ _; have := hB.out.size; have := HSZ.out; omega
    have BE : Hid (Below X w wr) := HB.out.trans (hB.out.mono (by omega))
    by_cases hlt : k < M
    · have VW := HV.out.lowX hB.out (show X < X + 1 by omega)
      have RW : RowF wr wr.heap.size A zs := (HR.out.below (hB.out.mono (by omega))).mono (by have := hsz.out; omega)
      have HQ := Lib.hid (implVar x y ((k : Int) + 1) A c zs wr RW hn)
      have v0 := VW.c0
      have v1 := VW.c1
      have v2 := VW.c2
      have vl := VW.lt
      clear VW RW
      cases hvb : varB x y zs ((k : Int) + 1)
      · have N := Lib.hid (rg_no (F := F) (G := G) (x := x) (y := y) (zs := zs) (most := most) (EN.out (rgL_no hlt (by unfold rgK; rw [hvb]; rfl))))
        rw [hvb] at HQ
        clear hvb
        go_wp2_with fail
        refine HQ.out.mono ?_
        rintro e w5 ⟨r, rfl, e1, w1, hb⟩
        have BB : Hid (Below X w w5) := BE.out.trans (hb.out.mono (by have := hsz.out; omega))
        clear HQ v0 v1 v2 vl
        go_wp2_with fail
        go_ret2
        exact mpost_not N.out.1 N.out.2 (by rw [HX.out]; exact BB.out)
      · have HW := Lib.hid (fun (r : Nat) hg => rg_word (g := r) hvb hg)
        have HVB := Lib.hid hvb
        rw [hvb] at HQ
        clear hvb
        go_wp2_with fail
        refine HQ.out.mono ?_
        rintro e w5 ⟨r, rfl, e1, w1, hb⟩
        obtain ⟨er, hfin⟩ := HW.out r e1.out
        have HE := Lib.hid (And.intro er hfin)
        have R5 := Lib.hid (hO.out.below hb.out)
        have B5 := Lib.hid (hB.out.trans (hb.out.mono hsz.out))
        have x1 := R5.out.cell k (by rw [hL.out]; exact hlt)
        have x2 := R5.out.free k (by rw [hL.out]; exact hlt)
        have HJ : Hid (∀ j, j < k + 1 → varB x y zs ((j : Int) + 1) = true ∧ at0 (ws.set k r) j = rgV x y zs j ∧ finB .f32 (at0 (ws.set k r) j) = true) := fun j hj => by
          rw [at0_put (by rw [hL.out]; omega)]
          by_cases e : j = k
          · rw [if_pos e, e]; exact ⟨HVB.out, HE.out.1, HE.out.2⟩
          · rw [if_neg e]; exact hJ.out j (by omega)
        clear HQ HW er hfin e1 hb v0 v1 v2 vl hJ
        go_wp2_with fail
        go_roundw
        case rel => exact ⟨k + 1, ws.set k r, by go_num, by omega, by show _ = _; rw [List.length_set]; exact hL.out, HJ, R5.out.set (by rw [hL.out]; exact hlt), B5.out.setCell (by dsimp only; omega) _⟩
        case measure => simp [intOf]; omega
    · have HK : Hid (k = M) := by show _ = _; omega
      have HJM : Hid (∀ j, j < M → varB x y zs ((j : Int) + 1) = true ∧ at0 ws j = rgV x y zs j ∧ finB .f32 (at0 ws j) = true) := fun j hj => hJ.out j (by have := HK.out; omega)
      have hs1 : shB x y zs = true := by
        have := (HJM.out 0 (by omega)).1
        unfold varB at this
        rw [Bool.and_eq_true] at this
        exact this.1
      have HA := Lib.hid (EA.out hs1)
      have HP := Lib.hid (rg_pos hL.out fun j hj => ⟨(HJM.out j hj).1, (HJM.out j hj).2.1⟩)
      have HT := implLogSl (some ⟨X + 1, 0, none⟩) M ws F G wr hO.out.row (by rw [hL.out]; omega) (rg_lgs hL.out HJM.out hF) hG
      rw [hL.out, HP.out, ← HA.out] at HT
      have HT2 := Lib.hid HT
      clear HT hs1
      go_wp2_with fail
      refine HT2.out.mono ?_
      rintro e w5 ⟨r, rfl, e1, w1, hb⟩
      have BB : Hid (Below X w w5) := BE.out.trans (hb.out.mono (by have := hsz.out; omega))
      clear HT2 hb
      go_wp2_with ((with_reducible refine upon_bin rfl ?_); intro r1 m1 wf1 er1)
      go_ret2
      refine ⟨r1, ?_, ?_, wf1, belowN (by rw [HX.out]; exact BB.out)⟩
      · unfold rgB
        rw [EQ.out]
        unfold rgQ
        rw [fin_two]
        rfl
      · show _ = _
        rw [er1.out, e1.out, rg_two]
        unfold rgC
        rw [EQ.out]; rfl

set_option maxHeartbeats 800000 in
theorem specRghNo (x y most : Int) (A : Option Addr) (c : Nat) (zs : List Nat) (w : World) (hr : RowF w w.heap.size A zs) (hn : zs.length ≤ 1048576) (h : (shB x y zs && inB most 2 17) = false) :
    Calls Try.prog 15 #[.agg #[.int .i64 x, .int .i64 y, .slice A zs.length c], .int .i64 most] w (MPost (some 0) false w) := by
  have B0 : Below w.heap.size w (w.alloc (.cells #[.int .i64 x, .int .i64 y, .slice A zs.length c] 29)) := (Below.refl _ _).alloc (Nat.le_refl _) _
  have HV := Lib.hid (varT_new w x y A zs.length c 29)
  have HC := Lib.hid (specIs w.heap.size x y A c zs _ HV.out (hr.carry B0) hn)
  have HB := Lib.hid B0
  clear hr B0
  cases h1 : shB x y zs
  · have H1 := Lib.hid h1
    clear h1 h
    go_enter Try.func15, Try.ntmps15
    go_wp2_with fail
    refine HC.out.mono ?_
    rintro e w' ⟨rfl, n, rfl⟩
    rw [H1.out]
    clear HC
    go_wp2_with fail
    go_ret2
    exact mpost_not rfl rfl (belowN HB.out)
  · rw [h1, Bool.true_and] at h
    have H1 := Lib.hid h1
    have H2 := Lib.hid h
    clear h1 h
    go_enter Try.func15, Try.ntmps15
    go_wp2_with fail
    refine HC.out.mono ?_
    rintro e w' ⟨rfl, n, rfl⟩
    rw [H1.out]
    clear HC
    go_wp2_with (go_at_call 35; refine (inS_any _ _ _ _).mono ?_; rintro e w' ⟨rfl, rfl⟩; rw [H2.out])
    go_ret2
    exact mpost_not rfl rfl (belowN HB.out)
theorem implRghNo (x y most : Int) (A : Option Addr) (c : Nat) (zs : List Nat) (w : World) (h : inB most 2 17 = false) :
    Calls Try.prog 16 #[.agg #[.int .i64 x, .int .i64 y, .slice A zs.length c], .int .i64 most] w (MPost (some 0) false w) := by
  have HB : Hid (Below w.heap.size w (w.alloc (.cells #[.int .i64 x, .int .i64 y, .slice A zs.length c] 29))) := (Below.refl _ _).alloc (Nat.le_refl _) _
  have H2 := Lib.hid h
  clear h
  go_enter Try.func16, Try.ntmps16
  go_wp2_with (go_at_call 38; refine (within_any _ _ _ _).mono ?_; rintro e w' ⟨rfl, rfl⟩; rw [H2.out])
  go_ret2
  exact mpost_not rfl rfl HB.out
theorem rghBoth (x y most : Int) (zs : List Nat) : ∃ cc b,
    (∀ W A c, zs.length ≤ 1048576 → RowF W W.heap.size A zs → Calls Try.prog 15 #[.agg #[.int .i64 x, .int .i64 y, .slice A zs.length c], .int .i64 most] W (MPost cc b W)) ∧
    (∀ W A c, zs.length ≤ 1048576 → RowF W W.heap.size A zs → Calls Try.prog 16 #[.agg #[.int .i64 x, .int .i64 y, .slice A zs.length c], .int .i64 most] W (MPost cc b W)) := by
  cases h2 : inB most 2 17 with
  | false => exact ⟨some 0, false, fun W A c hn hr => specRghNo x y most A c zs W hr hn (by rw [h2, Bool.and_false]), fun W A c _ _ => implRghNo x y most A c zs W h2⟩
  | true =>
    obtain ⟨G, hG⟩ := cnts_any
    obtain ⟨F, hF⟩ := lgs_of (rgL_fin x y zs most.toNat)
    cases h1 : shB x y zs with
    | true => exact ⟨rgC F G x y zs most, rgB F G x y zs most, fun W A c hn hr => specRgh x y most A c zs F G W hr hn hF hG h1 h2, fun W A c hn hr => implRgh x y most A c zs F G W hr hn hF hG h2⟩
    | false =>
      have N := rg_no (F := F) (G := G) (x := x) (y := y) (zs := zs) (most := most) (by unfold rgA; rw [h1]; rfl)
      refine ⟨some 0, false, fun W A c hn hr => specRghNo x y most A c zs W hr hn (by rw [h1]; rfl), fun W A c hn hr => ?_⟩
      have := implRgh x y most A c zs F G W hr hn hF hG h2
      rwa [N.1, N.2] at this
end

end Go.Proofs.Ytfjahgojmiednaa
