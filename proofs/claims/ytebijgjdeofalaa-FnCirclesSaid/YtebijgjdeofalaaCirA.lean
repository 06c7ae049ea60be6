/-
  What is proved here: phasors of 64ths of turns, their angles and powers, as tables that are checked. Conditions: none. Own text; no dump.
-/
import Derived.Test.YtebijgjdeofalaaTab
import Derived.Test.YtebijgjdeofalaaPha
import Derived.Test.YtebijgjdeofalaaAngB
namespace Go.Proofs.Ytebijgjdeofalaa
open Flt
namespace Flt
open Ieee
def PRn : Nat := 0x3f7ec46d3f7b14be3f74fa0b3f6c835e3f61c5983f54db313f45e4033f3504f33f2267993f0e39da3ef15aea3ec3ef153e94a0313e47c5c23dc8bd3600000000bdc8bd36be47c5c2be94a031bec3ef15bef15aeabf0e39dabf226799bf3504f3bf45e403bf54db31bf61c598bf6c835ebf74fa0bbf7b14bebf7ec46dbf800000bf7ec46dbf7b14bebf74fa0bbf6c835ebf61c598bf54db31bf45e403bf3504f3bf226799bf0e39dabef15aeabec3ef15be94a031be47c5c2bdc8bd36000000003dc8bd363e47c5c23e94a0313ec3ef153ef15aea3f0e39da3f2267993f3504f33f45e4033f54db313f61c5983f6c835e3f74fa0b3f7b14be3f7ec46d3f800000
def PR (j : Nat) : Nat := Nat.mod (Nat.shiftRight PRn (Nat.mul 32 j)) 4294967296
def PIn : Nat := 0xbdc8bd36be47c5c2be94a031bec3ef15bef15aeabf0e39dabf226799bf3504f3bf45e403bf54db31bf61c598bf6c835ebf74fa0bbf7b14bebf7ec46dbf800000bf7ec46dbf7b14bebf74fa0bbf6c835ebf61c598bf54db31bf45e403bf3504f3bf226799bf0e39dabef15aeabec3ef15be94a031be47c5c2bdc8bd36000000003dc8bd363e47c5c23e94a0313ec3ef153ef15aea3f0e39da3f2267993f3504f33f45e4033f54db313f61c5983f6c835e3f74fa0b3f7b14be3f7ec46d3f8000003f7ec46d3f7b14be3f74fa0b3f6c835e3f61c5983f54db313f45e4033f3504f33f2267993f0e39da3ef15aea3ec3ef153e94a0313e47c5c23dc8bd3600000000
def PI (j : Nat) : Nat := Nat.mod (Nat.shiftRight PIn (Nat.mul 32 j)) 4294967296
def AWn : Nat := 0xbc800000bd000000bd3fffffbd800000bda00000bdc00000bde00000be000000be100000be200000be300000be400000be500000be600000be700000be800000be880000be900000be980000bea00000bea80000beb00000beb80000bec00000bec80000bed00000bed80000bee00000bee80000bef00000bef800003f0000003ef800003ef000003ee800003ee000003ed800003ed000003ec800003ec000003eb800003eb000003ea800003ea000003e9800003e9000003e8800003e8000003e7000003e6000003e5000003e4000003e3000003e2000003e1000003e0000003de000003dc000003da000003d8000003d3fffff3d0000003c80000000000000
def AW (j : Nat) : Nat := Nat.mod (Nat.shiftRight AWn (Nat.mul 32 j)) 4294967296
def PWn : Nat := 0x3f8000003f7fffff3f8000003f7fffff3f8000003f8000003f7fffff3f7fffff3f7fffff3f8000003f8000003f7fffff3f8000003f7fffff3f8000003f8000003f8000003f7fffff3f8000003f7fffff3f8000003f8000003f7fffff3f7fffff3f7fffff3f8000003f8000003f7fffff3f8000003f7fffff3f8000003f8000003f8000003f7fffff3f8000003f7fffff3f8000003f8000003f7fffff3f7fffff3f7fffff3f8000003f8000003f7fffff3f8000003f7fffff3f8000003f8000003f8000003f7fffff3f8000003f7fffff3f8000003f8000003f7fffff3f7fffff3f7fffff3f8000003f8000003f7fffff3f8000003f7fffff3f8000003f800000
def PW (j : Nat) : Nat := Nat.mod (Nat.shiftRight PWn (Nat.mul 32 j)) 4294967296
def SNn : Nat := 0x3ff00000000000c43fefd88da3d1259a3fef6297cff75ccf3fee9f4156c62de33fed906bcf328d483fec38b2f180bdb03fea9b66290ea1a33fe8bc806b1517403fe6a09e667f3bcc3fe44cf325091dd63fe1c73b39ae68c83fde2b5d3806f63b3fd87de2a6aea9633fd294062ed59f053fc8f8b83c69a60a3fb917a6bc29b42c0000000000000000
def SN (j : Nat) : Nat := Nat.mod (Nat.shiftRight SNn (Nat.mul 64 j)) 18446744073709551616

/-- j / 64 -/
def qw (j : Nat) : Nat := nearF .f64 j 1068
/-- a / 64, with its sign -/
def awI (a : Int) : Nat := wordF .f64 (decide (a < 0)) (nearF .f64 a.natAbs 1068)
def w64 : Nat := 4634204016564240384
def eqI (a : Option Int) (n : Int) : Bool := @Option.casesOn Int (fun _ => Bool) a false fun x => decide (x = n)
theorem eqI_ok {a : Option Int} {n : Int} (h : eqI a n = true) : a = some n := by
  cases a with
  | none => cases h
  | some x => rw [of_decide_eq_true h]

/-- the sines of 64ths -/
def sineB (j : Nat) : Bool := eqO (sineF (fracF (qw j))) (SN j)
theorem sines : allR sineB 0 17 = true := by kernel_rfl
theorem sine_at (j : Nat) (h : j ≤ 16) : sineF (fracF (qw j)) = some (SN j) := eqO_ok (allR_at sines j (by omega) (by omega))

/-- what is known of (k - 256) / 64 -/
def kI (k : Nat) : Int := (k : Int) - 256
def knB (k : Nat) : Bool :=
  let y := awI (kI k)
  let K := Nat.div (Nat.mod k 64) 16
  let v := qw (Nat.mod k 16)
  let u := qw (Nat.sub 16 (Nat.mod k 16))
  andB (andB (andB (eqO (quoF .f64 (ofIntK .f64 (kI k)) w64) y) (finF .f64 (ofIntK .f64 (kI k)))) (andB (eqI (floatToIntVal .f64 y .i64) (Int.tdiv (kI k) 64)) (allR (fun j => geB (quaF (fracF y) j) (can .f64 4598175219545276416)) 0 K)))
    (andB (andB (xorB true (geB (quaF (fracF y) K) (can .f64 4598175219545276416))) (eqO (quaF (fracF y) K) v)) (andB (andB (eqO (fop .sub .f64 (can .f64 4598175219545276416) (some v)) u) (andB (eqI (floatToIntVal .f64 u .i64) 0) (eqI (floatToIntVal .f64 v .i64) 0))) (andB (Nat.ble (Nat.mod y (fS .f64)) 4841369599423283199) (andB (Nat.ble (Nat.mod u (fS .f64)) 4841369599423283199) (Nat.ble (Nat.mod v (fS .f64)) 4841369599423283199)))))
theorem kns0 : allR knB 0 128 = true := by kernel_rfl
theorem kns1 : allR knB 128 128 = true := by kernel_rfl
theorem kns2 : allR knB 256 128 = true := by kernel_rfl
theorem kns3 : allR knB 384 128 = true := by kernel_rfl
theorem kn_at (k : Nat) (h : k < 512) : knB k = true := by
  rcases (by omega : k < 128 ∨ (128 ≤ k ∧ k < 256) ∨ (256 ≤ k ∧ k < 384) ∨ 384 ≤ k) with h1 | h1 | h1 | h1
  · exact allR_at kns0 k (by omega) (by omega)
  · exact allR_at kns1 k (by omega) (by omega)
  · exact allR_at kns2 k (by omega) (by omega)
  · exact allR_at kns3 k (by omega) (by omega)
theorem width_eq (k : FloatKind) : 2 ^ k.format.width = 2 * fS k := by cases k <;> decide
theorem word_wf {k : FloatKind} {s : Bool} {q : Nat} (hq : q ≤ fI k) : WF k (wordK k s q) := by
  have h := fI_lt k
  refine ⟨?_⟩
  rw [width_eq]
  cases s
  · rw [show wordK k false q = q from rfl]; omega
  · rw [show wordK k true q = fS k + q from rfl]; omega
theorem awI_lt (a : Int) : WF .f64 (awI a) := by
  unfold awI
  rw [wordF_eq, nearF_eq]
  exact word_wf (near_small .f64 a.natAbs 1068)
theorem kn_of (k : Nat) (h : k < 512) : floatBits .quo .f64 (floatOfInt .f64 (kI k)) w64 = some (awI (kI k)) ∧ awI (kI k) % FloatKind.f64.format.signWeight < 4841369599423283200 ∧
    Known (awI (kI k)) (Int.tdiv (kI k) 64) (k % 64 / 16) (qw (k % 16)) (qw (16 - k % 16)) 0 0 := by
  have hk := kn_at k h
  unfold knB at hk
  dsimp only at hk
  have eK : Nat.div (Nat.mod k 64) 16 = k % 64 / 16 := rfl
  have ev : Nat.mod k 16 = k % 16 := rfl
  have eu : Nat.sub 16 (k % 16) = 16 - k % 16 := rfl
  rw [eK, ev, eu] at hk
  simp only [andB_eq, Bool.and_eq_true, xorB_eq] at hk
  obtain ⟨⟨⟨h1, _⟩, h2, h3⟩, ⟨h4, h5⟩, ⟨h6, h7, h8⟩, h9, h10, h11⟩ := hk
  have h9 := Nat.le_of_ble_eq_true h9
  have h10 := Nat.le_of_ble_eq_true h10
  have h11 := Nat.le_of_ble_eq_true h11
  refine ⟨?_, ?_, ⟨eqI_ok h2, by omega, fun j hj => allR_at h3 j (Nat.zero_le _) (by omega), ?_, eqO_ok h5, eqO_ok h6, eqI_ok h7, eqI_ok h8, ?_, ?_⟩⟩
  · rw [ofInt_K]
    have := eqO_ok h1
    rw [quoF_eq] at this
    exact quo_K this
  · rw [fS_eq]; exact Nat.lt_succ_of_le h9
  · revert h4
    cases geB (quaF (fracF (awI (kI k))) (k % 64 / 16)) (can .f64 4598175219545276416) <;> simp
  · rw [fS_eq]; exact Nat.lt_succ_of_le h10
  · rw [fS_eq]; exact Nat.lt_succ_of_le h11

/-- the phasors -/
def phB (j : Nat) : Bool := andB (eqO (phaR (some (SN (Nat.sub 16 (Nat.mod j 16)))) (some (SN (Nat.mod j 16))) (Nat.div j 16)) (PR j)) (eqO (phaI (some (SN (Nat.sub 16 (Nat.mod j 16)))) (some (SN (Nat.mod j 16))) (Nat.div j 16)) (PI j))
theorem phs : allR phB 0 64 = true := by kernel_rfl
theorem ph_of (j : Nat) (h : j < 64) : phaR (some (SN (16 - j % 16))) (some (SN (j % 16))) (j / 16) = some (PR j) ∧ phaI (some (SN (16 - j % 16))) (some (SN (j % 16))) (j / 16) = some (PI j) := by
  have hk := allR_at phs j (Nat.zero_le _) (by omega)
  unfold phB at hk
  rw [andB_eq, Bool.and_eq_true] at hk
  exact ⟨eqO_ok hk.1, eqO_ok hk.2⟩

/-- the parts, widened -/
def getO (a : Option Nat) : Nat := @Option.casesOn Nat (fun _ => Nat) a 0 fun x => x
def WR (j : Nat) : Nat := getO (widF (PR j))
def WI (j : Nat) : Nat := getO (widF (PI j))
def isO (a : Option Nat) : Bool := @Option.casesOn Nat (fun _ => Bool) a false fun _ => true
theorem isO_ok {a : Option Nat} (h : isO a = true) : a = some (getO a) := by
  cases a with
  | none => cases h
  | some x => rfl
def gtO (a : Option Ordering) : Bool := a == some .gt
def ltO (a : Option Ordering) : Bool := a == some .lt
def eqOO (a : Option Ordering) : Bool := a == some .eq
/-- one phasor: its parts, its angle -/
def anB (j : Nat) : Bool :=
  let y := PI j
  let x := PR j
  let Y := WI j
  let X := WR j
  let over := gtO (FloatKind.f64.format.order (absW Y) (absW X))
  let sx := ltO (FloatKind.f32.format.order x 0)
  let sy := ltO (FloatKind.f32.format.order y 0)
  andB (andB (andB (finF .f32 y) (finF .f32 x)) (andB (andB (isO (widF y)) (isO (widF x))) (andB (finF .f64 Y) (finF .f64 X))))
    (andB (andB (andB (Nat.ble Y 18446744073709551615) (Nat.ble X 18446744073709551615)) (andB (Nat.ble y 4294967295) (Nat.ble x 4294967295)))
      (andB (xorB true (andB (eqOO (FloatKind.f32.format.order y 0)) (eqOO (FloatKind.f32.format.order x 0)))) (eqO (nar (angC (tanF Y X over) over sx sy)) (AW j))))
theorem ans : allR anB 0 64 = true := by kernel_rfl
structure Part (x X : Nat) : Prop where
  fin : finB .f32 x = true
  wid : floatToFloatBits .f32 x .f64 = some X
  finX : finF .f64 X = true
  wfX : WF .f64 X
  wf : WF .f32 x
theorem fin_of {x : Nat} (h : finF .f32 x = true) : finB .f32 x = true := by
  unfold finB
  rw [fS_eq, fI_eq]
  exact decide_eq_true (blt_iff.1 h)
structure Ang (y x Y X A : Nat) : Prop where
  py : Part y Y
  px : Part x X
  nz : (FloatKind.f32.format.order y 0 == some .eq) = false ∨ ((FloatKind.f32.format.order y 0 == some .eq) = true ∧ (FloatKind.f32.format.order x 0 == some .eq) = false)
  ang : nar (angC (tanF Y X (FloatKind.f64.format.order (absW Y) (absW X) == some .gt)) (FloatKind.f64.format.order (absW Y) (absW X) == some .gt) (FloatKind.f32.format.order x 0 == some .lt) (FloatKind.f32.format.order y 0 == some .lt)) = some A
theorem an_of (j : Nat) (h : j < 64) : Ang (PI j) (PR j) (WI j) (WR j) (AW j) := by
  have hk := allR_at ans j (Nat.zero_le _) (by omega)
  unfold anB at hk
  dsimp only at hk
  simp only [andB_eq, Bool.and_eq_true, xorB_eq] at hk
  obtain ⟨⟨⟨h1, h2⟩, ⟨h3, h4⟩, h5, h6⟩, ⟨⟨h7, h8⟩, h9, h10⟩, h11, h12⟩ := hk
  have h7 := Nat.le_of_ble_eq_true h7
  have h8 := Nat.le_of_ble_eq_true h8
  have h9 := Nat.le_of_ble_eq_true h9
  have h10 := Nat.le_of_ble_eq_true h10
  have e3 : widF (PI j) = some (WI j) := isO_ok h3
  have e4 : widF (PR j) = some (WR j) := isO_ok h4
  rw [widF_eq] at e3 e4
  refine ⟨⟨fin_of h1, wid_K e3 h5, h5, ⟨Nat.lt_succ_of_le h7⟩, ⟨Nat.lt_succ_of_le h9⟩⟩, ⟨fin_of h2, wid_K e4 h6, h6, ⟨Nat.lt_succ_of_le h8⟩, ⟨Nat.lt_succ_of_le h10⟩⟩, ?_, eqO_ok h12⟩
  have h11 : (true ^^ ((FloatKind.f32.format.order (PI j) 0 == some .eq) && (FloatKind.f32.format.order (PR j) 0 == some .eq))) = true := h11
  revert h11
  cases (FloatKind.f32.format.order (PI j) 0 == some .eq) <;> cases (FloatKind.f32.format.order (PR j) 0 == some .eq) <;> simp

/-- a power, before it is narrowed -/
def powO (X Y : Nat) : Option Nat := bindO (mulF .f64 X X) fun s => bindO (mulF .f64 Y Y) fun t => addF .f64 false s t
def narF (x : Nat) : Option Nat :=
  iteO (finF .f64 x) (iteO (Nat.beq (mgF .f64 x) 0) (some (wordF .f32 (sgF .f64 x) 0)) (iteO (Nat.ble 925 (ofF .f64 x)) (iteO (Nat.ble (Nat.succ (nearF .f32 (mgF .f64 x) (Nat.sub (ofF .f64 x) 925))) (fI .f32)) (some (wordF .f32 (sgF .f64 x) (nearF .f32 (mgF .f64 x) (Nat.sub (ofF .f64 x) 925)))) none) none)) none
theorem narF_eq (x : Nat) : narF x = narK x := by
  unfold narF narK
  rw [iteO_eq, iteO_eq, iteO_eq, iteO_eq, wordF_eq, wordF_eq, nearF_eq, mgF_eq, ofF_eq, sgF_eq, finF_eq]; rfl
theorem narF_ok {x r : Nat} (h : narF x = some r) : floatToFloatBits .f64 x .f32 = some r := by rw [narF_eq] at h; exact nar_K h

/-- how far two words are apart -/
def lessF (k : FloatKind) (x y : Nat) : Bool := @Ordering.casesOn (fun _ => Bool) (ordK k x y) true false false
def gapO (x y : Nat) : Option Nat := iteO (lessF .f64 x y) (addF .f64 true y x) (addF .f64 true x y)
def GapIs (x y g : Nat) : Prop := ((FloatKind.f64.format.order x y == some .lt) = true ∧ floatBits .sub .f64 y x = some g) ∨ ((FloatKind.f64.format.order x y == some .lt) = false ∧ floatBits .sub .f64 x y = some g)
theorem gap_of {x y g : Nat} (h : gapO x y = some g) : GapIs x y g := by
  unfold gapO at h
  rw [iteO_eq] at h
  have hf : (finK .f64 x && finK .f64 y) = true := by
    cases hl : lessF .f64 x y with
    | true => rw [hl] at h; have := addF_fin (show addF .f64 true y x = some g from h); rw [this.1, this.2]; rfl
    | false => rw [hl] at h; have := addF_fin (show addF .f64 true x y = some g from h); rw [this.1, this.2]; rfl
  have ho := ord_K hf
  cases hl : lessF .f64 x y with
  | true =>
    rw [hl] at h
    have h : addF .f64 true y x = some g := h
    rw [addF_eq] at h
    refine .inl ⟨?_, sub_K h⟩
    rw [ho]
    unfold lessF at hl
    cases hq : ordK .f64 x y <;> rw [hq] at hl <;> first | rfl | cases hl
  | false =>
    rw [hl] at h
    have h : addF .f64 true x y = some g := h
    rw [addF_eq] at h
    refine .inr ⟨?_, sub_K h⟩
    rw [ho]
    unfold lessF at hl
    cases hq : ordK .f64 x y <;> rw [hq] at hl <;> first | rfl | cases hl
/-- a word that is not greater -/
def notGt (x y : Nat) : Bool := andB (andB (finF .f64 x) (finF .f64 y)) (@Ordering.casesOn (fun _ => Bool) (ordK .f64 x y) true true false)
theorem notGt_ok {x y : Nat} (h : notGt x y = true) : FloatKind.f64.format.order x y = some .lt ∨ FloatKind.f64.format.order x y = some .eq := by
  unfold notGt at h
  rw [andB_eq, andB_eq, Bool.and_eq_true] at h
  have hf : (finK .f64 x && finK .f64 y) = true := h.1
  rw [ord_K hf]
  have h2 := h.2
  revert h2
  cases ordK .f64 x y <;> intro h2 <;> first | exact .inl rfl | exact .inr rfl | cases h2
def onO (a : Option Nat) (f : Nat → Bool) : Bool := @Option.casesOn Nat (fun _ => Bool) a false f
theorem onO_ok {a : Option Nat} {f : Nat → Bool} (h : onO a f = true) : ∃ x, a = some x ∧ f x = true := by
  cases a with
  | none => cases h
  | some x => exact ⟨x, rfl, h⟩
def onI (a : Option Int) (f : Int → Bool) : Bool := @Option.casesOn Int (fun _ => Bool) a false f
theorem onI_ok {a : Option Int} {f : Int → Bool} (h : onI a f = true) : ∃ x, a = some x ∧ f x = true := by
  cases a with
  | none => cases h
  | some x => exact ⟨x, rfl, h⟩

def c1e4 : Nat := 4547007122018943789
def c1e3 : Nat := 4562254508917369340
def c1 : Nat := 4607182418800017408
def cH : Nat := 4666723447345250304
/-- a power that is nearly 1 -/
def poB (j : Nat) : Bool := onO (powO (WR j) (WI j)) fun r => onO (narF r) fun q => onO (widF q) fun Q => andB (finF .f64 Q) (onO (gapO Q c1) fun g => notGt g c1e4)
theorem pos : allR poB 0 64 = true := by kernel_rfl
/-- an angle that is nearly the one from which it comes: a = k - 128 -/
def agB (k : Nat) : Bool :=
  onO (widF (AW (Nat.mod k 64))) fun A => andB (finF .f64 A) (onO (mulF .f64 A w64) fun ang => onO (addF .f64 true ang (ofIntK .f64 ((k : Int) - 128))) fun turn => onO (addF .f64 false turn cH) fun tt => onI (floatToIntVal .f64 tt .i64) fun n =>
    andB (andB (decide (0 ≤ n)) (decide (n ≤ 20000))) (andB (onO (gapO turn (ofIntK .f64 (n - 10000))) fun g => notGt g c1e3) (decide (Int.tmod (n - 10000) 64 = 0))))
theorem ags0 : allR agB 0 128 = true := by kernel_rfl
theorem ags1 : allR agB 128 128 = true := by kernel_rfl
theorem ag_at (k : Nat) (h : k < 256) : agB k = true := by
  by_cases h1 : k < 128
  · exact allR_at ags0 k (by omega) (by omega)
  · exact allR_at ags1 k (by omega) (by omega)
/-- quarters have a part that is 0 or 1 -/
def qrB (j : Nat) : Bool := onO (gapO (WR (Nat.mul 16 j)) 0) fun g => orB (@Ordering.casesOn (fun _ => Bool) (ordK .f64 g 0) false true false) (@Ordering.casesOn (fun _ => Bool) (ordK .f64 g c1) false true false)
theorem qrs : allR qrB 0 4 = true := by kernel_rfl

end Flt
end Go.Proofs.Ytebijgjdeofalaa
