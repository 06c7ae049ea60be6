/-
  What is proved here: FlipCells, of both packages, as walks. Conditions: at most 1048576 cells and numbers.
-/
import Derived.Test.YtjojhklbikgfoaaOwb
import Derived.Test.YtjojhklbikgfoaaLvi
namespace Go.Proofs.Ytjojhklbikgfoaa
open Go.RowKit
attribute [local go_sem] run_store_bool
set_option linter.unusedVariables false

/-- the numbers before a place are a set of cells -/
def setC (z : List Int) (n : Nat) (t : Nat) : Prop := ∀ j, j < t → (0 ≤ atI z j ∧ atI z j < n) ∧ (0 < j → atI z (j - 1) < atI z j)
/-- the number at a place goes on with them -/
def okC (z : List Int) (n t : Nat) : Bool := decide ((0 ≤ atI z t ∧ atI z t < n) ∧ (0 < t → atI z (t - 1) < atI z t))
def setB (z : List Int) (n : Nat) : Bool := (List.range z.length).all fun t => okC z n t
theorem setB_no {z : List Int} {n t : Nat} (ht : t < z.length) (h : okC z n t = false) : setB z n = false := by
  unfold setB
  rw [List.all_eq_false]
  exact ⟨t, List.mem_range.2 ht, by rw [h]; decide⟩
theorem setB_yes {z : List Int} {n : Nat} (h : ∀ t, t < z.length → okC z n t = true) : setB z n = true := by
  unfold setB
  exact List.all_eq_true.2 fun t ht => h t (List.mem_range.1 ht)
theorem setB_at {z : List Int} {n t : Nat} (h : setB z n = true) (ht : t < z.length) : okC z n t = true := by
  unfold setB at h
  exact List.all_eq_true.1 h t (List.mem_range.2 ht)
def befC (z : List Int) (t : Nat) : Int := if t = 0 then -1 else atI z (t - 1)
theorem okC_in {z : List Int} {n t : Nat} (hb : -1 ≤ befC z t) : okC z n t = inB (atI z t) (befC z t + 1) ((n : Int) - 1) := by
  unfold okC inB
  rw [← Bool.decide_and]
  congr 1
  unfold befC at hb ⊢
  by_cases e : t = 0
  · rw [if_pos e]
    subst e
    apply propext
    constructor
    · intro h; omega
    · intro h; exact ⟨by omega, fun h => absurd h (Nat.lt_irrefl _)⟩
  · rw [if_neg e] at hb ⊢
    apply propext
    constructor
    · intro h; have := h.2 (by omega); omega
    · intro h; exact ⟨by omega, fun _ => by omega⟩

set_option maxHeartbeats 2000000 in
theorem implAre (x y : Int) (A : Option Addr) (n c : Nat) (Z : Option Addr) (d : Nat) (z : List Int) (w : World) (hr : RowV w w.heap.size Z z.length (iv (atI z))) (hn : n ≤ 1048576) (hz : z.length ≤ 1048576) :
    Calls Try.prog 62 #[.agg #[.int .i64 x, .int .i64 y, .slice A n c], .slice Z z.length d] w fun e w' => e = .returned (.bool (setB z n)) ∧ Hid (Below w.heap.size w w') := by
  have HR := Lib.hid hr
  have HB0 := Lib.hid (below_var w x y A n c 27)
  have V0 := varT_new w x y A n c 27
  have c2 := V0.c2
  clear hr V0
  go_enter Try.func62, Try.ntmps62
  go_wp2_with fail
  generalize w.alloc (.cells #[.int .i64 x, .int .i64 y, .slice A n c] 27) = b at *
  go_loopw [5, 10] (fun o i wr => ∃ t : Nat, t ≤ z.length ∧ i = .int .i64 t ∧ o = .int .i64 (befC z t) ∧ Hid (∀ j, j < t → okC z n j = true) ∧ -1 ≤ befC z t ∧ befC z t < n ∧ ∃ m, wr = b.drewN m) (fun _ i _ => z.length - (intOf i).toNat)
  case atStart => exact ⟨0, Nat.zero_le _, rfl, rfl, fun j h => absurd h (Nat.not_lt_zero _), by unfold befC; simp, by unfold befC; simp; omega, 0, rfl⟩
  case round =>
    obtain ⟨t, ht, rfl, rfl, hJ, hb1, hb2, m, rfl⟩ := hrel
    by_cases hlt : t < z.length
    · obtain ⟨b1, off, rfl, hbb, hcell⟩ := (HR.out.below HB0.out) (by omega)
      have hc := hcell t hlt
      unfold iv at hc
      have E := Lib.hid (okC_in (z := z) (n := n) hb1)
      clear hcell
      cases ho : okC z n t
      · have N := Lib.hid (setB_no hlt ho)
        rw [ho] at E
        clear ho
        go_wp2_with (go_at_call 69; refine (within_any _ _ _ _).mono ?_; rintro e w' ⟨rfl, rfl⟩; rw [← E.out])
        go_ret
        exact ⟨by rw [N.out]; rfl, belowN HB0.out⟩
      · have HJ : Hid (∀ j, j < t + 1 → okC z n j = true) := fun j hj => by
          by_cases e : j = t
          · rw [e]; exact ho
          · exact hJ.out j (by omega)
        have hin := E.out.symm.trans ho
        obtain ⟨g1, g2⟩ := inB_yes hin
        have hbn : befC z (t + 1) = atI z t := by unfold befC; rw [if_neg (by omega)]; rfl
        have HBN := Lib.hid hbn
        rw [ho] at E
        clear ho hin hJ hbn
        go_wp2_with (go_at_call 69; refine (within_any _ _ _ _).mono ?_; rintro e w' ⟨rfl, rfl⟩; rw [← E.out])
        go_roundw
        case rel => exact ⟨t + 1, by omega, by go_num, by rw [HBN.out], HJ, by rw [HBN.out]; omega, by rw [HBN.out]; omega, _, rfl⟩
        case measure => simp [intOf]; omega
    · have N : Hid (setB z n = true) := setB_yes fun j hj => hJ.out j (by omega)
      go_wp2_with fail
      go_ret
      exact ⟨by rw [N.out]; rfl, belowN HB0.out⟩

/-- so many cells changed -/
def flF (p : Nat → Bool) (z : List Int) : Nat → Nat → Bool
  | 0 => p
  | t + 1 => fun j => if (j : Int) = atI z t then !(flF p z t j) else flF p z t j
theorem flF_put (p : Nat → Bool) (z : List Int) (t s : Nat) (h : atI z t = (s : Int)) : ∀ j, put (bo (flF p z t)) s (.bool (!(flF p z t s))) j = bo (flF p z (t + 1)) j := fun j => by
  unfold put
  show (if j = s then Value.bool (!(flF p z t s)) else bo (flF p z t) j) = Value.bool (if (j : Int) = atI z t then !(flF p z t j) else flF p z t j)
  rw [h]
  by_cases e : j = s
  · subst e; rw [if_pos rfl, if_pos rfl]
  · rw [if_neg e, if_neg (by omega)]; rfl

set_option maxHeartbeats 8000000 in
theorem implFl (x y : Int) (A : Option Addr) (n c : Nat) (p : Nat → Bool) (Z : Option Addr) (d : Nat) (z : List Int) (w : World) (hr : RowV w w.heap.size A n (bo p)) (hq : RowV w w.heap.size Z z.length (iv (atI z))) (hn : n ≤ 1048576) (hz : z.length ≤ 1048576) (hv : fvB x y n = true) (hs : setB z n = true) :
    Calls Try.prog 18 #[.agg #[.int .i64 x, .int .i64 y, .slice A n c], .slice Z z.length d] w fun e w' => ∃ A' c', e = .returned (.tuple #[.agg #[.int .i64 x, .int .i64 y, .slice A' n c'], .bool true]) ∧ Hid (RowW w' w.heap.size w'.heap.size A' n (bo (flF p z z.length))) ∧ Hid (Below w.heap.size w w') := by
  obtain ⟨_, _, hn1, hn2⟩ := fvB_yes hv
  have HVA := Lib.hid (fun W => implValid x y A n c W hn)
  have HAR := Lib.hid (fun W h => implAre x y A n c Z d z W h hn hz)
  have HCP := Lib.hid (fun W h => fieldCopy_is x y A c n p W h (by omega) hn)
  rw [hv] at HVA
  rw [hs] at HAR
  have HOK : Hid (∀ t, t < z.length → 0 ≤ atI z t ∧ atI z t < n) := fun t ht => (of_decide_eq_true (setB_at hs ht)).1
  have B1 := below_var w x y A n c 27
  have V0 := varT_new w x y A n c 27
  have hsz : (w.alloc (.cells #[.int .i64 x, .int .i64 y, .slice A n c] 27)).heap.size = w.heap.size + 1 := by simp
  have B2 := below_var (w.alloc (.cells #[.int .i64 x, .int .i64 y, .slice A n c] 27)) 0 0 none 0 0 27
  have V1 := V0.below B2
  obtain ⟨d0, d1, d2, f0, f1, f2⟩ := fresh3 (w.alloc (.cells #[.int .i64 x, .int .i64 y, .slice A n c] 27)) (.int .i64 0) (.int .i64 0) (.slice none 0 0) 27
  rw [hsz] at d0 d1 d2 f0 f1 f2
  have hlt2 : w.heap.size + 1 < ((w.alloc (.cells #[.int .i64 x, .int .i64 y, .slice A n c] 27)).alloc (.cells #[.int .i64 0, .int .i64 0, .slice none 0 0] 27)).heap.size := by simp
  have HB := Lib.hid (B1.trans (B2.mono B1.size))
  have HV1 := Lib.hid V1
  have HR := Lib.hid hr
  have HQ := Lib.hid hq
  have HRES := Lib.hid (And.intro d0 (And.intro d1 (And.intro d2 (And.intro f0 (And.intro f1 f2)))))
  clear hr hq hv hs V0 V1 B1 B2 d0 d1 d2 f0 f1 f2 hsz
  go_enter Try.func18, Try.ntmps18
  go_wp2_with fail
  generalize ((w.alloc (.cells #[.int .i64 x, .int .i64 y, .slice A n c] 27)).alloc (.cells #[.int .i64 0, .int .i64 0, .slice none 0 0] 27)) = b at *
  refine (HVA.out b).mono ?_
  rintro e w1 ⟨rfl, hb1⟩
  have HB1 := Lib.hid (HB.out.trans (hb1.out.mono HB.out.size))
  have HK1 := Lib.hid hb1.out
  have V1 := HV1.out.below hb1.out
  have c0 := V1.c0
  have c1 := V1.c1
  have c2 := V1.c2
  clear hb1
  go_wp2_with fail
  refine (HAR.out w1 ((HQ.out.below HB1.out).mono HB1.out.size)).mono ?_
  rintro e w2 ⟨rfl, hb2⟩
  have HB2 := Lib.hid (HB1.out.trans (hb2.out.mono HB1.out.size))
  have HK2 := Lib.hid (HK1.out.trans (hb2.out.mono HK1.out.size))
  have V2 := V1.below hb2.out
  clear c0 c1 c2
  have c0 := V2.c0
  have c1 := V2.c1
  have c2 := V2.c2
  clear hb2 V1 HAR HVA
  go_wp2_with fail
  refine (HCP.out w2 ((HR.out.below HB2.out).mono HB2.out.size)).mono ?_
  rintro e w3 ⟨g, cg, rfl, hRG, hb3⟩
  have HB3 := Lib.hid (HB2.out.trans (hb3.out.mono HB2.out.size))
  have HK3 := Lib.hid (HK2.out.trans (hb3.out.mono HK2.out.size))
  have hbv := below_var w3 x y (some ⟨g, 0, none⟩) n cg 27
  have VF := Lib.hid (varT_new w3 x y (some ⟨g, 0, none⟩) n cg 27)
  have HK4 := Lib.hid (HK3.out.trans (hbv.mono HK3.out.size))
  have HB4 := Lib.hid (HB3.out.trans (hbv.mono HB3.out.size))
  have HX2 : Hid (w.heap.size + 2 ≤ w2.heap.size) := Nat.le_trans hlt2 HK2.out.size
  have R4 : Hid (RowW (w3.alloc (.cells #[.int .i64 x, .int .i64 y, .slice (some ⟨g, 0, none⟩) n cg] 27)) (w2.heap.size + 2) w3.heap.size (some ⟨g, 0, none⟩) n (bo (flF p z 0))) := hRG.out.below hbv
  have K4 : Hid (ButIn (w2.heap.size + 2) w3.heap.size (w3.alloc (.cells #[.int .i64 x, .int .i64 y, .slice (some ⟨g, 0, none⟩) n cg] 27)) (w3.alloc (.cells #[.int .i64 x, .int .i64 y, .slice (some ⟨g, 0, none⟩) n cg] 27))) := ButIn.refl _ _ _
  have HLZ : Hid (RowV (w3.alloc (.cells #[.int .i64 x, .int .i64 y, .slice (some ⟨g, 0, none⟩) n cg] 27)) w.heap.size Z z.length (iv (atI z))) := HQ.out.below HB4.out
  clear hb3 hbv c0 c1 c2 V2 HCP hRG HQ HR
  go_wp2_with fail
  generalize w3.alloc (.cells #[.int .i64 x, .int .i64 y, .slice (some ⟨g, 0, none⟩) n cg] 27) = b4 at *
  go_loopw [23] (fun i wr => ∃ t : Nat, t ≤ z.length ∧ i = .int .i64 t ∧ Hid (VarT wr w3.heap.size x y (some ⟨g, 0, none⟩) n cg) ∧ Hid (RowW wr (w2.heap.size + 2) w3.heap.size (some ⟨g, 0, none⟩) n (bo (flF p z t))) ∧ Hid (ButIn (w2.heap.size + 2) w3.heap.size b4 wr)) (fun i _ => z.length - (intOf i).toNat)
  case atStart => exact ⟨0, Nat.zero_le _, rfl, VF, R4, K4⟩
  case round =>
    obtain ⟨t, ht, rfl, hV, hRow, hK⟩ := hrel
    by_cases hlt : t < z.length
    · obtain ⟨bz, oz, rfl, hbz, hzc⟩ := (HLZ.out.butIn hK.out (by have := HB4.out.size; exact this) (.inl (by have := HX2.out; omega))) (by omega)
      have hcz := hzc t hlt
      unfold iv at hcz
      obtain ⟨s0, s1⟩ := HOK.out t hlt
      obtain ⟨s, hs⟩ : ∃ s : Nat, atI z t = (s : Int) := ⟨(atI z t).toNat, by omega⟩
      rw [hs] at hcz
      have hsn : s < n := by omega
      have hsn2 : (s : Int) < n := by omega
      obtain ⟨bb, off, e3, hl1, hl2, hcell, hfree⟩ := hRow.out.row (by omega)
      injection e3 with e3
      injection e3 with e31 e32 _
      subst e31 e32
      have hc := hcell s hsn
      have hf := hfree s hsn
      unfold bo at hc
      rw [Nat.zero_add] at hc hf
      have v2 := hV.out.c2
      clear hzc s0 s1 hcell hfree
      go_wp2_with fail
      have S1 := Lib.hid ((ButIn.refl g (g + 1) wr).set (q := ⟨g, s, none⟩) (Nat.le_refl _) (Nat.lt_succ_self _) (.bool (!flF p z t s)))
      have D1 : Hid (Below (wr.setCell ⟨g, s, none⟩ (.bool (!flF p z t s))).heap.size (wr.setCell ⟨g, s, none⟩ (.bool (!flF p z t s))) (wr.setCell ⟨g, s, none⟩ (.bool (!flF p z t s))).drew) := (Below.refl _ _).drew
      have V5 := Lib.hid ((hV.out.but S1.out (.inr hl2)).below D1.out)
      have hset := (hRow.out.setW (k := s) (u := .bool (!flF p z t s)) hsn).ext (U := bo (flF p z (t + 1))) fun j _ => flF_put p z t s hs j
      rw [Nat.zero_add] at hset
      have R5 := Lib.hid (hset.below D1.out)
      have K5 := Lib.hid ((hK.out.set (q := ⟨g, s, none⟩) hl1 hl2 (.bool (!flF p z t s))).below D1.out)
      clear hset S1 D1 hs hV hRow hK
      go_region_with fail
      all_goals
        go_wp2
        go_roundw
        case rel => exact ⟨t + 1, by omega, by go_num, V5, R5, K5⟩
        case measure => simp [intOf]; omega
    · obtain rfl : t = z.length := by omega
      obtain ⟨d0, d1, d2, f0, f1, f2⟩ := HRES.out
      have hlt4 : w.heap.size + 1 < b4.heap.size := Nat.lt_of_lt_of_le hlt2 HK4.out.size
      have eB := hK.out.block (w.heap.size + 1) hlt4 (.inl (by have := HX2.out; omega))
      have q0 := ((World.cell?_of_block (w := b4) (a := ⟨w.heap.size + 1, 0, none⟩) eB).trans (HK4.out.cell (p := ⟨w.heap.size + 1, 0, none⟩) hlt2)).trans d0
      have q1 := ((World.cell?_of_block (w := b4) (a := ⟨w.heap.size + 1, 1, none⟩) eB).trans (HK4.out.cell (p := ⟨w.heap.size + 1, 1, none⟩) hlt2)).trans d1
      have q2 := ((World.cell?_of_block (w := b4) (a := ⟨w.heap.size + 1, 2, none⟩) eB).trans (HK4.out.cell (p := ⟨w.heap.size + 1, 2, none⟩) hlt2)).trans d2
      have g0 := ((World.frozen?_of_block (w := b4) (a := ⟨w.heap.size + 1, 0, none⟩) eB).trans (HK4.out.frozen (p := ⟨w.heap.size + 1, 0, none⟩) hlt2)).trans f0
      have g1 := ((World.frozen?_of_block (w := b4) (a := ⟨w.heap.size + 1, 1, none⟩) eB).trans (HK4.out.frozen (p := ⟨w.heap.size + 1, 1, none⟩) hlt2)).trans f1
      have g2 := ((World.frozen?_of_block (w := b4) (a := ⟨w.heap.size + 1, 2, none⟩) eB).trans (HK4.out.frozen (p := ⟨w.heap.size + 1, 2, none⟩) hlt2)).trans f2
      have v0 := hV.out.c0
      have v1 := hV.out.c1
      have v2 := hV.out.c2
      have HBF := Lib.hid (HB4.out.trans (hK.out.toBelow (by have := HX2.out; omega) HB4.out.size))
      have HX3 := Lib.hid HX2.out
      clear eB d0 d1 d2 f0 f1 f2 HRES
      go_wp2_with fail
      refine bodyPost_ret (v := .tuple #[.agg #[.int .i64 x, .int .i64 y, .slice (some ⟨g, 0, none⟩) n cg], .bool true]) (by simp [results, Try.results18, go_sem, q0, q1, q2]) rfl ?_
      have a1 := ((hRow.out.store3 (Y := w.heap.size + 1) (by have := HX3.out; omega) (.int .i64 x) (.int .i64 y) (.slice (some ⟨g, 0, none⟩) n cg)).upper (hi' := (((wr.setCell ⟨w.heap.size + 1, 0, none⟩ (.int .i64 x)).setCell ⟨w.heap.size + 1, 1, none⟩ (.int .i64 y)).setCell ⟨w.heap.size + 1, 2, none⟩ (.slice (some ⟨g, 0, none⟩) n cg)).heap.size) (by have := hRow.out.le; simpa [World.setCell] using this) (Nat.le_refl _)).lower (lo' := w.heap.size) (by have := HX3.out; omega)
      have a2 := store3 HBF.out (Nat.le_succ _) (.int .i64 x) (.int .i64 y) (.slice (some ⟨g, 0, none⟩) n cg)
      first | exact ⟨some ⟨g, 0, none⟩, cg, rfl, a1, a2⟩ | exact ⟨some ⟨g, 0, none⟩, ⟨cg, rfl⟩, a1, a2⟩

set_option maxHeartbeats 2000000 in
theorem implFlNo1 (x y : Int) (A : Option Addr) (n c : Nat) (p : Nat → Bool) (Z : Option Addr) (d : Nat) (z : List Int) (w : World) (hr : RowV w w.heap.size A n (bo p)) (hq : RowV w w.heap.size Z z.length (iv (atI z))) (hn : n ≤ 1048576) (hz : z.length ≤ 1048576) (hv : fvB x y n = false) :
    Calls Try.prog 18 #[.agg #[.int .i64 x, .int .i64 y, .slice A n c], .slice Z z.length d] w fun e w' => ∃ A' c', e = .returned (.tuple #[.agg #[.int .i64 0, .int .i64 0, .slice A' 0 c'], .bool false]) ∧ Hid (RowW w' w.heap.size w'.heap.size A' 0 (bo (fun _ => false))) ∧ Hid (Below w.heap.size w w') := by
  have HVA := Lib.hid (fun W => implValid x y A n c W hn)
  rw [hv] at HVA
  have B1 := below_var w x y A n c 27
  have V0 := varT_new w x y A n c 27
  have hsz : (w.alloc (.cells #[.int .i64 x, .int .i64 y, .slice A n c] 27)).heap.size = w.heap.size + 1 := by simp
  have B2 := below_var (w.alloc (.cells #[.int .i64 x, .int .i64 y, .slice A n c] 27)) 0 0 none 0 0 27
  have V1 := V0.below B2
  obtain ⟨d0, d1, d2, f0, f1, f2⟩ := fresh3 (w.alloc (.cells #[.int .i64 x, .int .i64 y, .slice A n c] 27)) (.int .i64 0) (.int .i64 0) (.slice none 0 0) 27
  rw [hsz] at d0 d1 d2 f0 f1 f2
  have hlt2 : w.heap.size + 1 < ((w.alloc (.cells #[.int .i64 x, .int .i64 y, .slice A n c] 27)).alloc (.cells #[.int .i64 0, .int .i64 0, .slice none 0 0] 27)).heap.size := by simp
  have HB := Lib.hid (B1.trans (B2.mono B1.size))
  have HV1 := Lib.hid V1
  have HRES := Lib.hid (And.intro d0 (And.intro d1 (And.intro d2 (And.intro f0 (And.intro f1 f2)))))
  clear hr hq hv V0 V1 B1 B2 d0 d1 d2 f0 f1 f2 hsz
  go_enter Try.func18, Try.ntmps18
  go_wp2_with fail
  generalize ((w.alloc (.cells #[.int .i64 x, .int .i64 y, .slice A n c] 27)).alloc (.cells #[.int .i64 0, .int .i64 0, .slice none 0 0] 27)) = b at *
  refine (HVA.out b).mono ?_
  rintro e w1 ⟨rfl, hb1⟩
  obtain ⟨d0, d1, d2, f0, f1, f2⟩ := HRES.out
  have q0 := (hb1.out.cell (p := ⟨w.heap.size + 1, 0, none⟩) hlt2).trans d0
  have q1 := (hb1.out.cell (p := ⟨w.heap.size + 1, 1, none⟩) hlt2).trans d1
  have q2 := (hb1.out.cell (p := ⟨w.heap.size + 1, 2, none⟩) hlt2).trans d2
  have g0 := (hb1.out.frozen (p := ⟨w.heap.size + 1, 0, none⟩) hlt2).trans f0
  have g1 := (hb1.out.frozen (p := ⟨w.heap.size + 1, 1, none⟩) hlt2).trans f1
  have g2 := (hb1.out.frozen (p := ⟨w.heap.size + 1, 2, none⟩) hlt2).trans f2
  clear d0 d1 d2 f0 f1 f2 HRES
  have HB1 := Lib.hid (HB.out.trans (hb1.out.mono HB.out.size))
  clear hb1 HVA
  go_wp2_with fail
  refine bodyPost_ret (v := .tuple #[.agg #[.int .i64 0, .int .i64 0, .slice none 0 0], .bool false]) (by simp [results, Try.results18, go_sem, q0, q1, q2]) rfl ?_
  have a2 := store3 HB1.out (Nat.le_succ _) (.int .i64 0) (.int .i64 0) (.slice none 0 0)
  first | exact ⟨none, 0, rfl, RowW.empty (Nat.le_refl _), a2⟩ | exact ⟨none, ⟨0, rfl⟩, RowW.empty (Nat.le_refl _), a2⟩

set_option maxHeartbeats 2000000 in
theorem implFlNo2 (x y : Int) (A : Option Addr) (n c : Nat) (p : Nat → Bool) (Z : Option Addr) (d : Nat) (z : List Int) (w : World) (hr : RowV w w.heap.size A n (bo p)) (hq : RowV w w.heap.size Z z.length (iv (atI z))) (hn : n ≤ 1048576) (hz : z.length ≤ 1048576) (hv : fvB x y n = true) (hs : setB z n = false) :
    Calls Try.prog 18 #[.agg #[.int .i64 x, .int .i64 y, .slice A n c], .slice Z z.length d] w fun e w' => ∃ A' c', e = .returned (.tuple #[.agg #[.int .i64 0, .int .i64 0, .slice A' 0 c'], .bool false]) ∧ Hid (RowW w' w.heap.size w'.heap.size A' 0 (bo (fun _ => false))) ∧ Hid (Below w.heap.size w w') := by
  have HVA := Lib.hid (fun W => implValid x y A n c W hn)
  have HAR := Lib.hid (fun W h => implAre x y A n c Z d z W h hn hz)
  rw [hv] at HVA
  rw [hs] at HAR
  have HQ := Lib.hid hq
  have B1 := below_var w x y A n c 27
  have V0 := varT_new w x y A n c 27
  have hsz : (w.alloc (.cells #[.int .i64 x, .int .i64 y, .slice A n c] 27)).heap.size = w.heap.size + 1 := by simp
  have B2 := below_var (w.alloc (.cells #[.int .i64 x, .int .i64 y, .slice A n c] 27)) 0 0 none 0 0 27
  have V1 := V0.below B2
  obtain ⟨d0, d1, d2, f0, f1, f2⟩ := fresh3 (w.alloc (.cells #[.int .i64 x, .int .i64 y, .slice A n c] 27)) (.int .i64 0) (.int .i64 0) (.slice none 0 0) 27
  rw [hsz] at d0 d1 d2 f0 f1 f2
  have hlt2 : w.heap.size + 1 < ((w.alloc (.cells #[.int .i64 x, .int .i64 y, .slice A n c] 27)).alloc (.cells #[.int .i64 0, .int .i64 0, .slice none 0 0] 27)).heap.size := by simp
  have HB := Lib.hid (B1.trans (B2.mono B1.size))
  have HV1 := Lib.hid V1
  have HRES := Lib.hid (And.intro d0 (And.intro d1 (And.intro d2 (And.intro f0 (And.intro f1 f2)))))
  clear hr hq hv hs V0 V1 B1 B2 d0 d1 d2 f0 f1 f2 hsz
  go_enter Try.func18, Try.ntmps18
  go_wp2_with fail
  generalize ((w.alloc (.cells #[.int .i64 x, .int .i64 y, .slice A n c] 27)).alloc (.cells #[.int .i64 0, .int .i64 0, .slice none 0 0] 27)) = b at *
  refine (HVA.out b).mono ?_
  rintro e w1 ⟨rfl, hb1⟩
  have HB1 := Lib.hid (HB.out.trans (hb1.out.mono HB.out.size))
  have HK1 := Lib.hid hb1.out
  have V1 := HV1.out.below hb1.out
  have c0 := V1.c0
  have c1 := V1.c1
  have c2 := V1.c2
  clear hb1 HVA V1
  go_wp2_with fail
  refine (HAR.out w1 ((HQ.out.below HB1.out).mono HB1.out.size)).mono ?_
  rintro e w2 ⟨rfl, hb2⟩
  have HB2 := Lib.hid (HB1.out.trans (hb2.out.mono HB1.out.size))
  have HK2 := Lib.hid (HK1.out.trans (hb2.out.mono HK1.out.size))
  obtain ⟨d0, d1, d2, f0, f1, f2⟩ := HRES.out
  have q0 := (HK2.out.cell (p := ⟨w.heap.size + 1, 0, none⟩) hlt2).trans d0
  have q1 := (HK2.out.cell (p := ⟨w.heap.size + 1, 1, none⟩) hlt2).trans d1
  have q2 := (HK2.out.cell (p := ⟨w.heap.size + 1, 2, none⟩) hlt2).trans d2
  have g0 := (HK2.out.frozen (p := ⟨w.heap.size + 1, 0, none⟩) hlt2).trans f0
  have g1 := (HK2.out.frozen (p := ⟨w.heap.size + 1, 1, none⟩) hlt2).trans f1
  have g2 := (HK2.out.frozen (p := ⟨w.heap.size + 1, 2, none⟩) hlt2).trans f2
  clear d0 d1 d2 f0 f1 f2 HRES
  clear hb2 HAR c0 c1 c2
  go_wp2_with fail
  refine bodyPost_ret (v := .tuple #[.agg #[.int .i64 0, .int .i64 0, .slice none 0 0], .bool false]) (by simp [results, Try.results18, go_sem, q0, q1, q2]) rfl ?_
  have a2 := store3 HB2.out (Nat.le_succ _) (.int .i64 0) (.int .i64 0) (.slice none 0 0)
  first | exact ⟨none, 0, rfl, RowW.empty (Nat.le_refl _), a2⟩ | exact ⟨none, ⟨0, rfl⟩, RowW.empty (Nat.le_refl _), a2⟩

set_option maxHeartbeats 2000000 in
theorem specFlNo1 (x y : Int) (A : Option Addr) (n c : Nat) (p : Nat → Bool) (Z : Option Addr) (d : Nat) (z : List Int) (w : World) (hr : RowV w w.heap.size A n (bo p)) (hq : RowV w w.heap.size Z z.length (iv (atI z))) (hn : n ≤ 1048576) (hz : z.length ≤ 1048576) (hv : fvB x y n = false) :
    Calls Try.prog 15 #[.agg #[.int .i64 x, .int .i64 y, .slice A n c], .slice Z z.length d] w fun e w' => ∃ A' c', e = .returned (.tuple #[.agg #[.int .i64 0, .int .i64 0, .slice A' 0 c'], .bool false]) ∧ Hid (RowW w' w.heap.size w'.heap.size A' 0 (bo (fun _ => false))) ∧ Hid (Below w.heap.size w w') := by
  have B1 := below_var w x y A n c 27
  have V0 := varT_new w x y A n c 27
  have hsz : (w.alloc (.cells #[.int .i64 x, .int .i64 y, .slice A n c] 27)).heap.size = w.heap.size + 1 := by simp
  have B2 := below_var (w.alloc (.cells #[.int .i64 x, .int .i64 y, .slice A n c] 27)) 0 0 none 0 0 27
  have V1 := V0.below B2
  obtain ⟨d0, d1, d2, f0, f1, f2⟩ := fresh3 (w.alloc (.cells #[.int .i64 x, .int .i64 y, .slice A n c] 27)) (.int .i64 0) (.int .i64 0) (.slice none 0 0) 27
  rw [hsz] at d0 d1 d2 f0 f1 f2
  have hlt2 : w.heap.size + 1 < ((w.alloc (.cells #[.int .i64 x, .int .i64 y, .slice A n c] 27)).alloc (.cells #[.int .i64 0, .int .i64 0, .slice none 0 0] 27)).heap.size := by simp
  have HB := Lib.hid (B1.trans (B2.mono B1.size))
  have HV1 := Lib.hid V1
  have HRES := Lib.hid (And.intro d0 (And.intro d1 (And.intro d2 (And.intro f0 (And.intro f1 f2)))))
  have HC := Lib.hid (specIs w.heap.size x y A n c _ V1 hn)
  rw [hv] at HC
  clear hr hq hv V0 V1 B1 B2 d0 d1 d2 f0 f1 f2 hsz
  go_enter Try.func15, Try.ntmps15
  go_wp2_with fail
  generalize ((w.alloc (.cells #[.int .i64 x, .int .i64 y, .slice A n c] 27)).alloc (.cells #[.int .i64 0, .int .i64 0, .slice none 0 0] 27)) = b at *
  refine HC.out.mono ?_
  rintro e w1 ⟨rfl, m, rfl⟩
  have hbk : Below b.heap.size b (b.drewN m) := belowN (Below.refl _ _)
  obtain ⟨d0, d1, d2, f0, f1, f2⟩ := HRES.out
  have q0 := (hbk.cell (p := ⟨w.heap.size + 1, 0, none⟩) hlt2).trans d0
  have q1 := (hbk.cell (p := ⟨w.heap.size + 1, 1, none⟩) hlt2).trans d1
  have q2 := (hbk.cell (p := ⟨w.heap.size + 1, 2, none⟩) hlt2).trans d2
  have g0 := (hbk.frozen (p := ⟨w.heap.size + 1, 0, none⟩) hlt2).trans f0
  have g1 := (hbk.frozen (p := ⟨w.heap.size + 1, 1, none⟩) hlt2).trans f1
  have g2 := (hbk.frozen (p := ⟨w.heap.size + 1, 2, none⟩) hlt2).trans f2
  clear d0 d1 d2 f0 f1 f2 HRES
  have HB1 := Lib.hid (HB.out.trans (hbk.mono HB.out.size))
  clear HC hbk
  go_wp2_with fail
  refine bodyPost_ret (v := .tuple #[.agg #[.int .i64 0, .int .i64 0, .slice none 0 0], .bool false]) (by simp [results, Try.results15, go_sem, q0, q1, q2]) rfl ?_
  have a2 := store3 HB1.out (Nat.le_succ _) (.int .i64 0) (.int .i64 0) (.slice none 0 0)
  first | exact ⟨none, 0, rfl, RowW.empty (Nat.le_refl _), a2⟩ | exact ⟨none, ⟨0, rfl⟩, RowW.empty (Nat.le_refl _), a2⟩

end Go.Proofs.Ytjojhklbikgfoaa
