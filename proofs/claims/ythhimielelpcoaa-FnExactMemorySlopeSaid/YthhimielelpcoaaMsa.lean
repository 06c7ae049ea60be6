/-
  What is proved here: pieces of a list; the slope of what is told, as SlopeOf gives it; sizes as numbers; the program's slope of logarithms. Conditions: at most 256 numbers.
-/
import Derived.Test.YthhimielelpcoaaLgb
import Derived.Test.YthhimielelpcoaaRos
import Derived.Test.YthhimielelpcoaaSlp
import Derived.Test.YthhimielelpcoaaLki
namespace Go.Proofs.Ythhimielelpcoaa
open Flt Go.RowKit
attribute [local go_sem] run_store_float
set_option linter.unusedVariables false
set_option linter.unusedSimpArgs false

/-- what a function gives that returns a number, told up to not-a-numbers, and whether there is one -/
def VQ (c : Option Nat) (b : Bool) (w : World) (e : Ending) (w' : World) : Prop := ∃ g, e = .returned (.tuple #[.float .f32 g, .bool b]) ∧ Hid (can .f32 g = c) ∧ Hid (Below w.heap.size w w')
/-! the slope of what is told -/
def sloBT (f g : Nat → Option Nat) (n : Nat) : Option Nat := fop .quo .f32 (fop .sub .f32 (sumT g n) (fop .mul .f32 (sloT f g n) (sumT f n))) (lenF n)
def sloAT (f g : Nat → Option Nat) (n : Nat) : Bool := decide (n ≤ 256) && finT f n && finT g n && decide (2 ≤ n) && finO (sloT f g n) && finO (sloBT f g n)
theorem sloA_told {f g : Nat → Option Nat} {n : Nat} {xs ys : List Nat} (hx : Tl f n xs) (hy : Tl g n ys) : sloAll xs ys = sloAT f g n := by
  have e1 : sumT (selfF xs) n = sumT f n := sumT_ext fun j hj => hx.at' j hj
  have e2 : sumT (selfF ys) n = sumT g n := sumT_ext fun j hj => hy.at' j hj
  unfold sloAll sloIn sloOk sloAT sloB sloBT lisB
  rw [slo_told hx hy, hx.fin, hy.fin, hx.len, hy.len, e1, e2]
  cases decide (n ≤ 256) <;> cases finT f n <;> cases finT g n <;> cases decide (2 ≤ n) <;> simp
theorem sloA_len {xs ys : List Nat} (h : xs.length ≠ ys.length) : sloAll xs ys = false := by
  unfold sloAll sloIn
  rw [show (xs.length == ys.length) = false from beq_eq_false_iff_ne.2 h]; simp
theorem finT_no {f : Nat → Option Nat} {n k : Nat} (hk : k < n) (h : finO (f k) = false) : finT f n = false := by
  unfold finT
  rw [List.all_eq_false]
  exact ⟨k, List.mem_range.2 hk, by rw [h]; decide⟩
theorem sloAT_no {f g : Nat → Option Nat} {n : Nat} (h : finT g n = false) : sloAT f g n = false := by unfold sloAT; rw [h]; simp

/-! pieces -/
def pcz (zs : List Nat) (z j : Nat) : List Nat := (zs.drop (j * z)).take z
theorem pcz_fit {N z j : Nat} (h : j < N / z) : (j + 1) * z ≤ N := Nat.le_trans (Nat.mul_le_mul_right z h) (Nat.div_mul_le_self N z)
theorem pcz_len {zs : List Nat} {z j : Nat} (h : (j + 1) * z ≤ zs.length) : (pcz zs z j).length = z := by
  unfold pcz
  rw [Nat.succ_mul] at h
  rw [List.length_take, List.length_drop]; omega
theorem pcz_at {zs : List Nat} {z j i : Nat} (h : (j + 1) * z ≤ zs.length) (hi : i < z) : at0 (pcz zs z j) i = at0 zs (j * z + i) := by
  unfold pcz at0
  rw [List.getD_eq_getElem?_getD, List.getD_eq_getElem?_getD, List.getElem?_take, if_pos hi, List.getElem?_drop]
theorem pcz_lis {zs : List Nat} {z j : Nat} (h : (j + 1) * z ≤ zs.length) (hb : lisB zs = true) : lisB (pcz zs z j) = true := by
  obtain ⟨h1, h2⟩ := lisB_yes hb
  have hl := pcz_len h
  rw [Nat.succ_mul] at h
  unfold lisB
  rw [hl, decide_eq_true (by omega : z ≤ 256)]
  show finAll _ = true
  refine finAll_yes fun i hi => ?_
  rw [hl] at hi
  rw [pcz_at (by rw [Nat.succ_mul]; exact h) hi]
  exact finAll_at h2 (by omega)
theorem pcz_row {w : World} {X b off z j : Nat} {zs : List Nat} (h : (j + 1) * z ≤ zs.length) (hb : b < X) (hc : ∀ i, i < zs.length → w.cell? ⟨b, off + i, none⟩ = some (.float .f32 (at0 zs i))) : RowF w X (some ⟨b, off + j * z, none⟩) (pcz zs z j) := fun _ =>
  ⟨b, off + j * z, rfl, hb, fun i hi => by
    rw [pcz_len h] at hi
    rw [pcz_at h hi, Nat.add_assoc]
    rw [Nat.succ_mul] at h
    exact hc _ (by omega)⟩
/-- a piece's range over its spread, and whether there is one -/
def pOk (zs : List Nat) (z j : Nat) : Bool := rosOk (pcz zs z j) && finO (rosC (pcz zs z j))
def pC (zs : List Nat) (z j : Nat) : Option Nat := orNo (rosOk (pcz zs z j)) (numC (rosC (pcz zs z j)))
def mOk (zs : List Nat) (z : Nat) : Bool := (List.range (zs.length / z)).all (pOk zs z)
/-- the mean of them -/
def mC (zs : List Nat) (z : Nat) : Option Nat := fop .quo .f32 (sumT (pC zs z) (zs.length / z)) (lenF (zs.length / z))
theorem mOk_no {zs : List Nat} {z k : Nat} (hk : k < zs.length / z) (h : pOk zs z k = false) : mOk zs z = false := by
  unfold mOk
  rw [List.all_eq_false]
  exact ⟨k, List.mem_range.2 hk, by rw [h]; decide⟩
theorem mOk_yes {zs : List Nat} {z : Nat} (h : ∀ k, k < zs.length / z → pOk zs z k = true) : mOk zs z = true := List.all_eq_true.2 fun k hk => h k (List.mem_range.1 hk)
theorem mean_tl {f : Nat → Option Nat} {n : Nat} {ys : List Nat} (h : Tl f n ys) : meanF ys = fop .quo .f32 (sumT f n) (lenF n) := by unfold meanF; rw [sumF_tl h, h.len]

/-! sizes as numbers -/
theorem siz_ok : (List.range 257).all (fun k => decide (k < 2) || abvB (floatOfInt .f32 (k : Int))) = true := by kernel_rfl
theorem siz_at {s : Int} (h1 : 2 ≤ s) (h2 : s ≤ 256) : abvB (floatOfInt .f32 s) = true := by
  obtain ⟨k, rfl⟩ := Int.eq_ofNat_of_zero_le (show 0 ≤ s by omega)
  have := List.all_eq_true.1 siz_ok k (List.mem_range.2 (by omega))
  rw [decide_eq_false (by omega)] at this
  simpa using this
def numW (ss : List Int) : List Nat := ss.map (fun s => floatOfInt .f32 s)
theorem numW_len (ss : List Int) : (numW ss).length = ss.length := List.length_map _
theorem numW_at {ss : List Int} {j : Nat} (h : j < ss.length) : at0 (numW ss) j = floatOfInt .f32 (atI ss j) := by
  rw [at0_lt (by rw [numW_len]; exact h)]
  unfold numW
  rw [List.getElem_map]
  congr 1
  simp [atI, List.getD, h]
theorem numW_all {ss : List Int} (hn : ss.length ≤ 256) (h : ∀ j, j < ss.length → 2 ≤ atI ss j ∧ atI ss j ≤ 256) : lisB (numW ss) = true ∧ posAll (numW ss) = true := by
  have ha : ∀ j, j < (numW ss).length → abvB (at0 (numW ss) j) = true := fun j hj => by
    rw [numW_len] at hj
    rw [numW_at hj]
    exact siz_at (h j hj).1 (h j hj).2
  constructor
  · unfold lisB
    rw [numW_len, decide_eq_true hn]
    exact finAll_yes fun j hj => by
      have := ha j hj
      unfold abvB at this
      rw [Bool.and_eq_true] at this
      exact this.1
  · exact posAll_yes fun j hj => by
      have := ha j hj
      unfold abvB at this
      rw [Bool.and_eq_true] at this
      exact this.2

set_option maxHeartbeats 4000000 in
theorem implNumW (A : Option Addr) (c : Nat) (ss : List Int) (w : World) (hr : RowI w w.heap.size A ss) (hn : ss.length ≤ 256) :
    Calls Try.prog 77 #[.slice A ss.length c] w fun e w' => ∃ A' c', e = .returned (.slice A' ss.length c') ∧ Hid (RowIn w' w.heap.size w'.heap.size A' (numW ss)) ∧ Hid (Below w.heap.size w w') := by
  have HR := Lib.hid hr
  have hmk := run_mk ss.length (by omega)
  clear hr
  go_enter Try.func77, Try.ntmps77
  go_wp2
  clear hmk
  go_loopw [11] (fun i wr => ∃ (k : Nat) (ws : List Nat), i = .int .i64 k ∧ k ≤ ss.length ∧ Hid (ws.length = ss.length) ∧ Hid (∀ j, j < k → at0 ws j = at0 (numW ss) j) ∧ Hid (RowH wr w.heap.size ws) ∧ Hid (Below w.heap.size w wr)) (fun i _ => ss.length - (intOf i).toNat)
  case atStart => exact ⟨0, List.replicate ss.length 0, rfl, Nat.zero_le _, by show _ = _; simp, fun j hj => absurd hj (Nat.not_lt_zero _), rowH_new _ ss.length, (Below.refl _ _).alloc (Nat.le_refl _) _⟩
  case round =>
    obtain ⟨k, ws, rfl, hk, hL, hJ, hH, hB⟩ := hrel
    by_cases hlt : k < ss.length
    · obtain ⟨b, off, rfl, hb, hcell⟩ := (HR.out.below hB.out) (by omega)
      have hc := hcell k hlt
      have hc3 := hH.out.cell k (by rw [hL.out]; exact hlt)
      have hf3 := hH.out.free k (by rw [hL.out]; exact hlt)
      have HJ : Hid (∀ j, j < k + 1 → at0 (ws.set k (floatOfInt .f32 (atI ss k))) j = at0 (numW ss) j) := fun j hj => by
        rw [at0_put (by rw [hL.out]; omega)]
        by_cases e : j = k
        · rw [if_pos e, e, numW_at hlt]
        · rw [if_neg e]; exact hJ.out j (by omega)
      clear hcell hb hJ
      generalize atI ss k = sz at *
      go_wp2
      go_roundw
      case rel => exact ⟨k + 1, ws.set k (floatOfInt .f32 sz), by go_num, by omega, by show _ = _; rw [List.length_set]; exact hL.out, HJ, hH.out.set (by rw [hL.out]; exact hlt), hB.out.setCell (Nat.le_refl _) _⟩
      case measure => simp [intOf]; omega
    · have E : Hid (ws = numW ss) := List.ext_getElem (by rw [hL.out, numW_len]) fun j h1 h2 => by
        have := hJ.out j (by rw [hL.out] at h1; omega)
        rwa [at0_lt h1, at0_lt h2] at this
      go_wp2_with fail
      go_ret
      exact ⟨_, _, rfl, by rw [← E.out]; exact hH.out.rowIn (Nat.le_refl _), hB⟩
/-- what LogsOf gives of a row: the logarithms where all are numbers above nothing, else none -/
def abvAll (zs : List Nat) : Bool := zs.all abvB
theorem abvAll_is (zs : List Nat) : abvAll zs = (finAll zs && posAll zs) := by
  induction zs with
  | nil => rfl
  | cons z zs ih =>
    have h1 : abvAll (z :: zs) = (abvB z && abvAll zs) := rfl
    have h2 : finAll (z :: zs) = (finB .f32 z && finAll zs) := rfl
    have h3 : posAll (z :: zs) = (posB z && posAll zs) := rfl
    rw [h1, h2, h3, ih]
    have h4 : abvB z = (finB .f32 z && posB z) := rfl
    rw [h4]
    cases finB .f32 z <;> cases posB z <;> cases finAll zs <;> cases posAll zs <;> rfl
theorem implLogs (zs : List Nat) (F : Nat → Option Nat) (hn : zs.length ≤ 256) (h : abvAll zs = true → Lgs zs F) : ∃ f n, (abvAll zs = true → n = zs.length ∧ f = F) ∧ (abvAll zs = false → n = 0) ∧ n ≤ 256 ∧ ∀ A c W, RowF W W.heap.size A zs → Calls Try.prog 122 #[.slice A zs.length c] W (LP f n (abvAll zs) W) := by
  rw [abvAll_is] at *
  cases hf : finAll zs with
  | false =>
    exact ⟨fun _ => none, 0, fun h => by simp at h, fun _ => rfl, Nat.zero_le _, fun A c W hr => by
      have := implLgoNo A c zs (fun _ => none) W hr (by omega) (by unfold lisB; rw [hf, Bool.and_false])
      exact this⟩
  | true =>
    have hb : lisB zs = true := by unfold lisB; rw [hf, decide_eq_true hn]; rfl
    cases hp : posAll zs with
    | false =>
      obtain ⟨F2, h2⟩ := lgs_of hf
      refine ⟨F2, 0, fun h => by simp at h, fun _ => rfl, Nat.zero_le _, fun A c W hr => ?_⟩
      have := implLgo A c zs F2 W hr hb h2
      rw [hp] at this
      exact this
    | true =>
      refine ⟨F, zs.length, fun _ => ⟨rfl, rfl⟩, fun h => by simp at h, hn, fun A c W hr => ?_⟩
      have := implLgo A c zs F W hr hb (h (by rw [hf, hp]; rfl))
      rw [hp] at this
      exact this
set_option maxHeartbeats 4000000 in
theorem implLgSl (A B : Option Addr) (c d : Nat) (xs ys : List Nat) (F G : Nat → Option Nat) (w : World) (hr : RowF w w.heap.size A xs) (hq : RowF w w.heap.size B ys) (hl : xs.length = ys.length) (hn : xs.length ≤ 256) (h1 : 1 ≤ xs.length) (hX : lisB xs = true ∧ posAll xs = true) (hF : Lgs xs F) (hG : abvAll ys = true → Lgs ys G) :
    Calls Try.prog 76 #[.slice A xs.length c, .slice B ys.length d] w (VQ (orNo (abvAll ys && sloAT F G xs.length) (sloT F G xs.length)) (abvAll ys && sloAT F G xs.length) w) := by
  obtain ⟨f, n, e1, e2, hn2, HL2⟩ := implLogs ys G (by omega) hG
  have HL1 := implLgo A c xs F w hr hX.1 hF
  rw [hX.2] at HL1
  have HA := Lib.hid HL1
  have HB := Lib.hid (fun W hw => HL2 B d W hw)
  have HQ := Lib.hid hq
  have E1 := Lib.hid e1
  have E2 := Lib.hid e2
  have HLE := Lib.hid hl
  have h1H := Lib.hid h1
  clear HL1 HL2 hr hq e1 e2 hX hl h1
  go_enter Try.func76, Try.ntmps76
  go_wp2_with fail
  refine HA.out.mono ?_
  rintro e w1 ⟨A1, c1, us, rfl, t1, r1, b1⟩
  have C1 := Lib.hid b1.out
  have R1 := Lib.hid r1.out
  have T1 := Lib.hid t1.out
  have HQ1 := Lib.hid (HQ.out.carry b1.out)
  have o1 := Lib.hid b1.out.size
  clear b1 r1 t1 HA HQ
  go_wp2_with fail
  refine (HB.out w1 HQ1.out).mono ?_
  rintro e w2 ⟨A2, c2, vs, rfl, t2, r2, b2⟩
  have C2 := Lib.hid (C1.out.trans (b2.out.mono o1.out))
  have R2 := Lib.hid r2.out.toRow
  have T2 := Lib.hid t2.out
  have R1' := Lib.hid (R1.out.but (ButIn.of b2.out) (.inr (Nat.zero_le _))).toRow
  clear b2 r2 t2 HB HQ1 R1 C1
  have hcn : cntB true xs.length = xs.length := rfl
  have hul : us.length = cntB true xs.length := T1.out.len
  have hul2 : us.length = xs.length := hul
  have hvl : vs.length = n := T2.out.len
  have HS := implSlO A1 A2 c1 c2 us vs w2 w2.heap.size R1'.out R2.out (by omega) (by omega)
  rw [hul, hvl] at HS
  have HSL := Lib.hid HS
  clear HS
  have HE : Hid (orNo (sloAll us vs) (sloS us vs) = orNo (abvAll ys && sloAT F G xs.length) (sloT F G xs.length) ∧ sloAll us vs = (abvAll ys && sloAT F G xs.length)) := by
    show _ ∧ _
    have tu : Tl F xs.length us := T1.out
    cases ha : abvAll ys with
    | true =>
      obtain ⟨g1, g2⟩ := E1.out ha
      have tv : Tl G xs.length vs := by have := T2.out; rw [g1, g2, ← HLE.out] at this; exact this
      rw [sloA_told tu tv, slo_told tu tv]
      exact ⟨rfl, rfl⟩
    | false =>
      have hv0 : vs.length = 0 := by rw [T2.out.len]; exact E2.out ha
      have h0 : sloAll us vs = false := sloA_len (by rw [tu.len, hv0]; have := h1H.out; omega)
      rw [h0]
      exact ⟨rfl, rfl⟩
  clear hcn hul hul2 hvl T1 T2
  generalize cntB true xs.length = nn at *
  go_wp2_with fail
  refine HSL.out.mono ?_
  rintro e w3 ⟨g, g', rfl, q1, q2, b3⟩
  go_wp2_with fail
  go_ret2
  exact ⟨g, by rw [← HE.out.2]; rfl, by rw [← HE.out.1]; exact q1, C2.out.trans (b3.out.mono C2.out.size)⟩
end Go.Proofs.Ythhimielelpcoaa
