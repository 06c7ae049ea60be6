/-
  What is proved here: ThresholdOf of the reference, as a walk. Conditions: weights of a field.
-/
import Derived.Test.YtnhcmloaanamnaaTh6
import Derived.Test.YtnhcmloaanamnaaGrb
import Derived.Deep.RegionHeld3
namespace Go.Proofs.Ytnhcmloaanamnaa
open Flt Go.RowKit
set_option linter.unusedVariables false
set_option linter.unusedSimpArgs false

def lstB (p : Nat → Bool) : Nat → List Bool
  | 0 => []
  | k + 1 => lstB p k ++ [p k]
theorem lstB_len (p : Nat → Bool) (k : Nat) : (lstB p k).length = k := by
  induction k with
  | zero => rfl
  | succ k ih => show (lstB p k ++ [p k]).length = _; rw [List.length_append, ih]; rfl
theorem lstB_at (p : Nat → Bool) (k j : Nat) (h : j < k) : atB (lstB p k) j = p j := by
  induction k with
  | zero => exact absurd h (Nat.not_lt_zero _)
  | succ k ih =>
    show atB (lstB p k ++ [p k]) j = _
    unfold atB
    rw [List.getD_eq_getElem?_getD]
    by_cases e : j < k
    · rw [List.getElem?_append_left (by rw [lstB_len]; exact e)]
      have := ih e
      unfold atB at this
      rwa [List.getD_eq_getElem?_getD] at this
    · have : j = k := by omega
      subst this
      rw [List.getElem?_append_right (by rw [lstB_len]; omega), lstB_len]; simp

theorem fresh3 (w : World) (a0 a1 a2 : Value) (t : TypeId) : (w.alloc (.cells #[a0, a1, a2] t)).cell? ⟨w.heap.size, 0, none⟩ = some a0 ∧ (w.alloc (.cells #[a0, a1, a2] t)).cell? ⟨w.heap.size, 1, none⟩ = some a1 ∧ (w.alloc (.cells #[a0, a1, a2] t)).cell? ⟨w.heap.size, 2, none⟩ = some a2 ∧ (w.alloc (.cells #[a0, a1, a2] t)).frozen? ⟨w.heap.size, 0, none⟩ = false ∧ (w.alloc (.cells #[a0, a1, a2] t)).frozen? ⟨w.heap.size, 1, none⟩ = false ∧ (w.alloc (.cells #[a0, a1, a2] t)).frozen? ⟨w.heap.size, 2, none⟩ = false := by
  refine ⟨?_, ?_, ?_, ?_, ?_, ?_⟩ <;> simp [World.cell?, World.frozen?, World.alloc, -World.alloc_eq]

/-- a variable of a field that may be written -/
structure VarX (w : World) (v : Nat) (x y : Int) (A : Option Addr) (n c : Nat) : Prop where
  lt : v < w.heap.size
  c0 : w.cell? ⟨v, 0, none⟩ = some (.int .i64 x)
  c1 : w.cell? ⟨v, 1, none⟩ = some (.int .i64 y)
  c2 : w.cell? ⟨v, 2, none⟩ = some (.slice A n c)
  f2 : w.frozen? ⟨v, 2, none⟩ = false
theorem VarX.below {w w' : World} {v : Nat} {x y : Int} {A : Option Addr} {n c : Nat} (h : VarX w v x y A n c) (hb : Below (v + 1) w w') : VarX w' v x y A n c :=
  ⟨Nat.lt_of_lt_of_le h.lt hb.size, by rw [hb.cell (p := ⟨v, 0, none⟩) (Nat.lt_succ_self _)]; exact h.c0, by rw [hb.cell (p := ⟨v, 1, none⟩) (Nat.lt_succ_self _)]; exact h.c1, by rw [hb.cell (p := ⟨v, 2, none⟩) (Nat.lt_succ_self _)]; exact h.c2, by rw [hb.frozen (p := ⟨v, 2, none⟩) (Nat.lt_succ_self _)]; exact h.f2⟩
theorem VarX.set {w : World} {v : Nat} {x y : Int} {A B : Option Addr} {n m c d : Nat} (h : VarX w v x y A n c) : VarX (w.setCell ⟨v, 2, none⟩ (.slice B m d)) v x y B m d := by
  refine ⟨by have := h.lt; simpa [World.setCell] using this, ?_, ?_, ?_, ?_⟩
  · rw [World.cell?_setCell_other w _ _ _ (by intro e; injection e with _ e _; cases e)]; exact h.c0
  · rw [World.cell?_setCell_other w _ _ _ (by intro e; injection e with _ e _; cases e)]; exact h.c1
  · exact World.cell?_setCell_same w _ _ h.c2
  · rw [World.frozen?_setCell]; exact h.f2
theorem VarX.dr {w : World} {v : Nat} {x y : Int} {A : Option Addr} {n c : Nat} (h : VarX w v x y A n c) : VarX w.drew v x y A n c := ⟨h.lt, h.c0, h.c1, h.c2, h.f2⟩
theorem VarX.t {w : World} {v : Nat} {x y : Int} {A : Option Addr} {n c : Nat} (h : VarX w v x y A n c) : VarT w v x y A n c := ⟨h.lt, h.c0, h.c1, h.c2⟩
theorem varX_new (w : World) (x y : Int) (t : TypeId) : VarX (w.alloc (.cells #[.int .i64 x, .int .i64 y, .slice none 0 0] t)) w.heap.size x y none 0 0 := by
  obtain ⟨d0, d1, d2, f0, f1, f2⟩ := fresh3 w (.int .i64 x) (.int .i64 y) (.slice none 0 0) t
  exact ⟨by simp, d0, d1, d2, f2⟩
theorem below_eqh2 {G : Nat} {a b : World} (h : Below G a b) : Below G a b.drew := ⟨h.os, h.tape, h.output, h.size, h.block⟩
theorem keep1 {W wa wb : World} {v o : Nat} {u : Value} (hb : Below wa.heap.size wa wb) (h0 : wa.cell? ⟨v, o, none⟩ = some u) (hB : Hid (Below W.heap.size W wa)) (hx : v < W.heap.size) : wb.cell? ⟨v, o, none⟩ = some u := by
  rw [hb.cell (p := ⟨v, o, none⟩) (Nat.lt_of_lt_of_le hx hB.out.size)]; exact h0
set_option maxHeartbeats 16000000 in
set_option maxRecDepth 1000000 in
theorem specThr (x y : Int) (A : Option Addr) (c : Nat) (zs : List Nat) (w : World) (hr : RowF w w.heap.size A zs) (hw : wtB x y zs = true) :
    Calls Try.prog 23 #[.slice A zs.length c, .int .i64 x, .int .i64 y] w (ThPost (at0 zs (thM x y zs)) true w) := by
  have hw2 : fvB x y zs.length = true ∧ finAll zs = true := by unfold wtB at hw; rwa [Bool.and_eq_true] at hw
  obtain ⟨hv, hf⟩ := hw2
  obtain ⟨⟨⟨hx1, hx2⟩, ⟨hy1, hy2⟩⟩, hnn, hn1, hn2⟩ := fvB_yes hv
  have HW := Lib.hid (specWei x y A c w.heap.size zs w hr (by omega))
  rw [hw] at HW
  have HR := Lib.hid hr
  have HV := Lib.hid hv
  have HLE : Hid (∀ i j, i < zs.length → j < zs.length → FloatKind.f32.format.order (at0 zs i) (at0 zs j) = some (compare (gK zs i) (gK zs j))) := fun i j hi hj => ord_fin (finAll_at hf hi) (finAll_at hf hj)
  have HEX : Hid (∃ m : Nat, m < zs.length ∧ bst (fun k => thC x y zs (gK zs k)) (gK zs) zs.length = (m : Int)) := by
    rcases bst_inv (fun k => thC x y zs (gK zs k)) (gK zs) zs.length with ⟨_, h2⟩ | ⟨m, h1, h2, _⟩
    · obtain ⟨H, hH⟩ := sEnd_ex (gK zs) zs.length
      have := thC_last hx1 hy1 hnn hH (by omega)
      have h3 := h2 _ (hH.bd (zs.length - 1) (by omega))
      exact absurd (this.symm.trans h3) (by decide)
    · exact ⟨m, h1, h2⟩
  have HSP := Lib.hid (fun (v : Nat) (F : Option Addr) (f : Nat) (t : Int) (W : World) (V : VarT W v x y F zs.length f) (h : RowV W W.heap.size F zs.length (bo (thP zs t))) => specSp0 v x y F zs.length f (thP zs t) W hv V h)
  have HTC : Hid (∀ t, thC x y zs t = decide (0 < (spL x zs.length (gsF (thP zs t) true x y zs.length zs.length) (gsF (thP zs t) true x y zs.length zs.length).length).length)) := fun t => rfl
  have HINV := Lib.hid (bst_inv (fun k => thC x y zs (gK zs k)) (gK zs))
  clear hr hw hv hf hx1 hx2 hy1 hy2 hnn
  go_enter Try.func23, Try.ntmps23
  go_wp2_with (go_at_call 51; refine HW.out.mono ?_; rintro e w' ⟨rfl, k0, rfl⟩)
  go_loopw [8, 19] (fun b i wr => ∃ k : Nat, b = .int .i64 (bst (fun k => thC x y zs (gK zs k)) (gK zs) k) ∧ i = .int .i64 ((k : Nat) : Int) ∧ k ≤ zs.length ∧ Hid (Below w.heap.size w wr)) (fun _ i _ => zs.length - (intOf i).toNat)
  case atStart => exact ⟨0, rfl, rfl, Nat.zero_le _, belowN (Below.refl _ _)⟩
  case round =>
    clear HW
    obtain ⟨k, rfl, rfl, hk, hB⟩ := hrel
    by_cases hlt : k < zs.length
    · have hsz := hB.out.size
      have V0 := Lib.hid (varX_new wr x y 66)
      have D0 : Hid (Below wr.heap.size wr (wr.alloc (.cells #[.int .i64 x, .int .i64 y, .slice none 0 0] 66))) := (Below.refl _ _).alloc (Nat.le_refl _) _
      obtain ⟨bq, hbq⟩ : ∃ bq, bq = bst (fun k => thC x y zs (gK zs k)) (gK zs) k := ⟨_, rfl⟩
      rw [← hbq]
      have HBQ := Lib.hid hbq
      clear hbq
      go_upto_region 8 with fail
      generalize wr.alloc (.cells #[.int .i64 x, .int .i64 y, .slice none 0 0] 66) = wa at *
      generalize wr = wo at *
      go_wp2_with fail
      go_loopw [27] (fun i wr => ∃ (m c' : Nat) (A' : Option Addr), i = .int .i64 ((m : Nat) : Int) ∧ m ≤ zs.length ∧ Hid (VarX wr wo.heap.size x y A' m c') ∧ Hid (GroB wr (wo.heap.size + 1) (lstB (thP zs (gK zs k)) m) A' c') ∧ Hid (Below wo.heap.size wo wr)) (fun i _ => zs.length - (intOf i).toNat)
      case atStart => exact ⟨0, 0, none, rfl, Nat.zero_le _, V0, GroB.nil _ _, D0⟩
      case round =>
        clear V0 D0
        obtain ⟨m, c', A', rfl, hm, hV, hO, hD⟩ := hrel
        have hlen := lstB_len (thP zs (gK zs k)) m
        have hsz2 : Hid (wo.heap.size + 1 ≤ wr.heap.size) := hV.out.lt
        have d0 := hV.out.c0
        have d1 := hV.out.c1
        have d2 := hV.out.c2
        by_cases hmt : m < zs.length
        · obtain ⟨b5, off5, hA5, hb5, hcell5⟩ := HR.out.below (hB.out.trans (hD.out.mono hsz)) (by omega)
          subst hA5
          have e1 := hcell5 m hmt
          have e2 := hcell5 k hlt
          have hm3 : (m : Int) < (zs.length : Int) := by omega
          have hk3 : (k : Int) < (zs.length : Int) := by omega
          have hm4 : (0 : Int) ≤ (m : Int) := by omega
          have hk4 : (0 : Int) ≤ (k : Int) := by omega
          have ho := HLE.out m k hmt hlt
          have hY : Hid ((compare (gK zs m) (gK zs k) == Ordering.lt || compare (gK zs m) (gK zs k) == Ordering.eq) = thP zs (gK zs k) m) := le_cmp _ _
          have d3 : (wr.alloc (.cells #[.bool (compare (gK zs m) (gK zs k) == Ordering.lt || compare (gK zs m) (gK zs k) == Ordering.eq)] 4)).cell? ⟨wo.heap.size, 2, none⟩ = some (.slice A' m c') := (((Below.refl wr.heap.size wr).alloc (Nat.le_refl _) _).cell (p := ⟨wo.heap.size, 2, none⟩) hV.out.lt).trans d2
          clear hcell5 hb5
          go_wp2_with fail
          go_region_law (refine stepGroB rfl _ _ rfl (y := thP zs (gK zs k) m) hO.out.dr (by rw [← hY.out]; rfl) (by rw [hlen]; rfl) rfl (by omega) hsz2.out ?_; rw [hlen]; intro g4 c4 w4 O4 B4; have V4 := Lib.hid (hV.out.dr.below B4); have HO4 := Lib.hid O4; have HD4 : Hid (Below wo.heap.size wo w4) := (below_eqh2 hD.out).trans (B4.mono (Nat.le_succ _)); have q2 := V4.out.c2; have q3 := V4.out.f2; clear O4 B4)
          all_goals
            have V5 := Lib.hid (V4.out.set (B := some ⟨g4, 0, none⟩) (m := m + 1) (d := c4))
            have O5 : Hid (GroB (w4.setCell ⟨wo.heap.size, 2, none⟩ (.slice (some ⟨g4, 0, none⟩) (m + 1) c4)) (wo.heap.size + 1) (lstB (thP zs (gK zs k)) (m + 1)) (some ⟨g4, 0, none⟩) c4) :=
              GroB.but HO4.out ((ButIn.refl wo.heap.size (wo.heap.size + 1) w4).set (q := ⟨wo.heap.size, 2, none⟩) (Nat.le_refl _) (Nat.lt_succ_self _) _) fun a ha => .inr (HO4.out.lt a ha).1
            have D5 := Lib.hid (HD4.out.setCell (p := ⟨wo.heap.size, 2, none⟩) (Nat.le_refl _) (.slice (some ⟨g4, 0, none⟩) (m + 1) c4))
            go_wp2_with fail
            go_roundw
            case rel => exact ⟨m + 1, _, _, by go_num, by omega, V5, O5, D5⟩
            case measure => simp [intOf]; omega
        · obtain rfl : m = zs.length := by omega
          have RV : Hid (RowV wr wr.heap.size A' zs.length (bo (thP zs (gK zs k)))) := by
            have r := hO.out.rowW
            rw [hlen] at r
            exact (r.ext (U := bo (thP zs (gK zs k))) fun j hj => by unfold bo; rw [lstB_at _ _ _ hj]).toRow
          have HS5 := Lib.hid (fun (q : Nat) => HSP.out wo.heap.size A' c' (gK zs k) (wr.drewN q) (hV.out.t.drewN) (RV.out))
          have BW : Hid (Below w.heap.size w wr) := hB.out.trans (hD.out.mono hsz)
          have HTK := Lib.hid (HTC.out (gK zs k))
          obtain ⟨b5, off5, hA5, hb5, hcell5⟩ := HR.out.below BW.out hn1
          subst hA5
          have e2 := hcell5 k hlt
          have hk3 : (k : Int) < (zs.length : Int) := by omega
          have hk4 : (0 : Int) ≤ (k : Int) := by omega
          obtain ⟨cl, hcl⟩ : ∃ cl, cl = (spL x zs.length (gsF (thP zs (gK zs k)) true x y zs.length zs.length) (gsF (thP zs (gK zs k)) true x y zs.length zs.length).length).length := ⟨_, rfl⟩
          have HS6 : Hid (∀ q, Calls Try.prog 52 #[.pointer (some ⟨wo.heap.size, 0, none⟩)] (wr.drewN q) fun e w' => ∃ B d, e = .returned (.slice B cl d) ∧ Hid (Below (wr.drewN q).heap.size (wr.drewN q) w')) := fun q => (HS5.out q).mono fun e w' ⟨B, d, h1, _, h3⟩ => ⟨B, d, by rw [hcl]; exact h1, h3⟩
          have HS7 : Hid (∀ W, Below wr.heap.size wr W → Calls Try.prog 52 #[.pointer (some ⟨wo.heap.size, 0, none⟩)] W fun e w' => ∃ B d, e = .returned (.slice B cl d) ∧ Hid (Below W.heap.size W w')) := fun W hW => (HSP.out wo.heap.size A' c' (gK zs k) W (hV.out.t.below hW) (RV.out.carry hW)).mono fun e w' ⟨B, d, h1, _, h3⟩ => ⟨B, d, by rw [hcl]; exact h1, h3⟩
          have K0 : Hid (Below wr.heap.size wr wr.drew) := below_eqh2 (Below.refl _ _)
          have HBW := Lib.hid BW.out
          have HT1 : Hid (thC x y zs (gK zs k) = decide (0 < cl)) := by rw [hcl]; exact HTK.out
          have hb5w : b5 < wr.heap.size := Nat.lt_of_lt_of_le hb5 BW.out.size
          have HCE : Hid (∀ q w5, Below (wr.drewN q).heap.size (wr.drewN q) w5 → Below w.heap.size w w5 ∧ ∀ j, j < zs.length → w5.cell? ⟨b5, off5 + j, none⟩ = some (.float .f32 (at0 zs j))) := fun q w5 h => ⟨(belowN BW.out).trans (h.mono BW.out.size), fun j hj => (h.cell (p := ⟨b5, off5 + j, none⟩) hb5w).trans (hcell5 j hj)⟩
          have SB := Lib.hid (bst_yes (c := fun k => thC x y zs (gK zs k)) (K := gK zs) (k := k))
          have SN := Lib.hid (bst_no (c := fun k => thC x y zs (gK zs k)) (K := gK zs) (k := k))
          rw [← HBQ.out] at SB SN
          have HI := Lib.hid (HINV.out k)
          rw [← HBQ.out] at HI
          have HL2 : Hid (∀ m, m < k → FloatKind.f32.format.order (at0 zs k) (at0 zs m) = some (compare (gK zs k) (gK zs m))) := fun m hm => HLE.out k m hlt (by omega)
          clear hV hO hD hB d0 d1 d2 hsz2 hlen RV HSP HTC HINV HLE HBQ HS5 HTK hcl hb5 hcell5 e2 BW
          go_wp2_with fail
          by_cases h0 : 0 < cl
          · have hd0 : decide (0 < cl) = true := decide_eq_true h0
            by_cases hq : bq < 0
            · have hdq : decide (bq < 0) = true := decide_eq_true hq
              have S1 := Lib.hid (SB.out (by show (thC x y zs (gK zs k) && _) = true; rw [HT1.out, hd0, hdq]; rfl))
              clear SB SN HI HT1
              refine wp_region_held_drew (S := fun w' => Hid (Below wr.heap.size wr w')) (by kernel_rfl) K0 (fun hHeld => ?_)
              refine wpAnyH_ready (rs := [0]) (by kernel_rfl) (by simp) ?_
              refine AllReadyH.cons (o := { dst := some 45, op := Op.call { callee := Callee.value (Operand.func 52), args := #[Operand.tmp 10], argTypes := #[68] }, type := 23, pos := "l07_growth.go:361", after := #[], guard := none }) rfl (fun K hK => ?_) AllReadyH.nil
              rw [if_pos (by rfl)]
              go_simp
              go_at_call 52
              refine (HS7.out _ hHeld.out).mono ?_
              rintro e wj ⟨B5, d5, rfl, hbj⟩
              have KJ := Lib.hid (hHeld.out.trans (hbj.out.mono hHeld.out.size))
              go_wp2_with fail
              refine hK.out _ _ KJ (fun hHeld => ?_)
              clear hK K
              try simp only [Act.put, List.setIfInBounds_toArray, List.set_cons_zero, List.set_cons_succ]
              refine wpAnyH_take (i := 1) (oi := { dst := some 46, op := Op.call { callee := Callee.builtin Builtin.len, args := #[Operand.tmp 45], argTypes := #[23] }, type := 3, pos := "l07_growth.go:361", after := #[{ on := 0, ground := Ground.data }], guard := none }) (v := ?v1) rfl (by kernel_rfl) (by kernel_rfl) (by kernel_rfl) (fun _ _ _ h => h) (Or.inl ⟨by rfl, ?hy1⟩) (by assumption) ?_
              case hy1 => (intro w hSw; (try dsimp only at hSw); go_simp; (try with_reducible rfl))
              try simp only [Act.put, List.setIfInBounds_toArray, List.set_cons_zero, List.set_cons_succ]
              refine wpAnyH_take (i := 2) (oi := { dst := some 47, op := Op.binOp BinOp.gtr 3 (Operand.tmp 46) (Operand.const (Value.int IntKind.i64 0)) 3, type := 4, pos := "l07_growth.go:361", after := #[{ on := 1, ground := Ground.data }], guard := none }) (v := ?v2) rfl (by kernel_rfl) (by kernel_rfl) (by kernel_rfl) (fun _ _ _ h => h) (Or.inl ⟨by rfl, ?hy2⟩) (by assumption) ?_
              case hy2 => (intro w hSw; (try dsimp only at hSw); go_simp; (try with_reducible rfl))
              try simp only [Act.put, List.setIfInBounds_toArray, List.set_cons_zero, List.set_cons_succ]
              refine wpAnyH_take (i := 3) (oi := { dst := some 48, op := Op.move (Operand.tmp 47), type := 4, pos := "l07_growth.go:361", after := #[{ on := 2, ground := Ground.data }, { on := 0, ground := Ground.chain }], guard := none }) (v := ?v3) rfl (by kernel_rfl) (by kernel_rfl) (by kernel_rfl) (fun _ _ _ h => h) (Or.inl ⟨by rfl, ?hy3⟩) (by assumption) ?_
              case hy3 => (intro w hSw; (try dsimp only at hSw); go_simp; (try with_reducible rfl))
              try simp only [Act.put, List.setIfInBounds_toArray, List.set_cons_zero, List.set_cons_succ]
              refine wpAnyH_take (i := 4) (oi := { dst := some 49, op := Op.move (Operand.tmp 8), type := 3, pos := "l07_growth.go:361", after := #[{ on := 3, ground := Ground.guard }], guard := some (3, true) }) (v := ?v4) rfl (by kernel_rfl) (by kernel_rfl) (by kernel_rfl) (fun _ _ _ h => h) (Or.inl ⟨by rfl, ?hy4⟩) (by assumption) ?_
              case hy4 => (intro w hSw; (try dsimp only at hSw); go_simp; (try with_reducible rfl))
              try simp only [Act.put, List.setIfInBounds_toArray, List.set_cons_zero, List.set_cons_succ]
              refine wpAnyH_take (i := 5) (oi := { dst := some 50, op := Op.binOp BinOp.lss 3 (Operand.tmp 49) (Operand.const (Value.int IntKind.i64 0)) 3, type := 4, pos := "l07_growth.go:361", after := #[{ on := 4, ground := Ground.data }, { on := 3, ground := Ground.guard }], guard := some (3, true) }) (v := ?v5) rfl (by kernel_rfl) (by kernel_rfl) (by kernel_rfl) (fun _ _ _ h => h) (Or.inl ⟨by rfl, ?hy5⟩) (by assumption) ?_
              case hy5 => (intro w hSw; (try dsimp only at hSw); go_simp; (try with_reducible rfl))
              try simp only [Act.put, List.setIfInBounds_toArray, List.set_cons_zero, List.set_cons_succ]
              refine wpAnyH_take (i := 6) (oi := { dst := some 51, op := Op.move (Operand.tmp 50), type := 4, pos := "l07_growth.go:361", after := #[{ on := 5, ground := Ground.data }, { on := 3, ground := Ground.chain }, { on := 3, ground := Ground.guard }], guard := some (3, true) }) (v := ?v6) rfl (by kernel_rfl) (by kernel_rfl) (by kernel_rfl) (fun _ _ _ h => h) (Or.inl ⟨by rfl, ?hy6⟩) (by assumption) ?_
              case hy6 => (intro w hSw; (try dsimp only at hSw); go_simp; (try with_reducible rfl))
              try simp only [Act.put, List.setIfInBounds_toArray, List.set_cons_zero, List.set_cons_succ]
              refine wpAnyH_take (i := 7) (oi := { dst := some 52, op := Op.move (Operand.tmp 0), type := 22, pos := "l07_growth.go:361", after := #[{ on := 6, ground := Ground.guard }], guard := some (6, false) }) (v := _) rfl (by kernel_rfl) (by kernel_rfl) (by kernel_rfl) (fun _ _ _ h => h) (Or.inr ⟨by rfl, rfl⟩) (by assumption) ?_
              try simp only [Act.put, List.setIfInBounds_toArray, List.set_cons_zero, List.set_cons_succ]
              refine wpAnyH_take (i := 8) (oi := { dst := some 53, op := Op.move (Operand.tmp 9), type := 3, pos := "l07_growth.go:361", after := #[{ on := 6, ground := Ground.guard }], guard := some (6, false) }) (v := _) rfl (by kernel_rfl) (by kernel_rfl) (by kernel_rfl) (fun _ _ _ h => h) (Or.inr ⟨by rfl, rfl⟩) (by assumption) ?_
              try simp only [Act.put, List.setIfInBounds_toArray, List.set_cons_zero, List.set_cons_succ]
              refine wpAnyH_take (i := 9) (oi := { dst := some 54, op := Op.indexAddr 22 (Operand.tmp 52) (Operand.tmp 53), type := 0, pos := "l07_growth.go:361", after := #[{ on := 7, ground := Ground.data }, { on := 8, ground := Ground.data }, { on := 6, ground := Ground.guard }], guard := some (6, false) }) (v := _) rfl (by kernel_rfl) (by kernel_rfl) (by kernel_rfl) (fun _ _ _ h => h) (Or.inr ⟨by rfl, rfl⟩) (by assumption) ?_
              try simp only [Act.put, List.setIfInBounds_toArray, List.set_cons_zero, List.set_cons_succ]
              refine wpAnyH_take (i := 10) (oi := { dst := some 55, op := Op.load 34 (Operand.tmp 54), type := 34, pos := "l07_growth.go:361", after := #[{ on := 9, ground := Ground.data }, { on := 6, ground := Ground.guard }], guard := some (6, false) }) (v := _) rfl (by kernel_rfl) (by kernel_rfl) (by kernel_rfl) (fun _ _ _ h => h) (Or.inr ⟨by rfl, rfl⟩) (by assumption) ?_
              try simp only [Act.put, List.setIfInBounds_toArray, List.set_cons_zero, List.set_cons_succ]
              refine wpAnyH_take (i := 11) (oi := { dst := some 56, op := Op.move (Operand.tmp 0), type := 22, pos := "l07_growth.go:361", after := #[{ on := 6, ground := Ground.guard }], guard := some (6, false) }) (v := _) rfl (by kernel_rfl) (by kernel_rfl) (by kernel_rfl) (fun _ _ _ h => h) (Or.inr ⟨by rfl, rfl⟩) (by assumption) ?_
              try simp only [Act.put, List.setIfInBounds_toArray, List.set_cons_zero, List.set_cons_succ]
              refine wpAnyH_take (i := 12) (oi := { dst := some 57, op := Op.move (Operand.tmp 8), type := 3, pos := "l07_growth.go:361", after := #[{ on := 6, ground := Ground.guard }], guard := some (6, false) }) (v := _) rfl (by kernel_rfl) (by kernel_rfl) (by kernel_rfl) (fun _ _ _ h => h) (Or.inr ⟨by rfl, rfl⟩) (by assumption) ?_
              try simp only [Act.put, List.setIfInBounds_toArray, List.set_cons_zero, List.set_cons_succ]
              refine wpAnyH_take (i := 13) (oi := { dst := some 58, op := Op.indexAddr 22 (Operand.tmp 56) (Operand.tmp 57), type := 0, pos := "l07_growth.go:361", after := #[{ on := 11, ground := Ground.data }, { on := 12, ground := Ground.data }, { on := 6, ground := Ground.guard }], guard := some (6, false) }) (v := _) rfl (by kernel_rfl) (by kernel_rfl) (by kernel_rfl) (fun _ _ _ h => h) (Or.inr ⟨by rfl, rfl⟩) (by assumption) ?_
              try simp only [Act.put, List.setIfInBounds_toArray, List.set_cons_zero, List.set_cons_succ]
              refine wpAnyH_take (i := 14) (oi := { dst := some 59, op := Op.load 34 (Operand.tmp 58), type := 34, pos := "l07_growth.go:361", after := #[{ on := 13, ground := Ground.data }, { on := 6, ground := Ground.guard }], guard := some (6, false) }) (v := _) rfl (by kernel_rfl) (by kernel_rfl) (by kernel_rfl) (fun _ _ _ h => h) (Or.inr ⟨by rfl, rfl⟩) (by assumption) ?_
              try simp only [Act.put, List.setIfInBounds_toArray, List.set_cons_zero, List.set_cons_succ]
              refine wpAnyH_take (i := 15) (oi := { dst := some 60, op := Op.binOp BinOp.lss 34 (Operand.tmp 55) (Operand.tmp 59) 34, type := 4, pos := "l07_growth.go:361", after := #[{ on := 10, ground := Ground.data }, { on := 14, ground := Ground.data }, { on := 6, ground := Ground.guard }], guard := some (6, false) }) (v := _) rfl (by kernel_rfl) (by kernel_rfl) (by kernel_rfl) (fun _ _ _ h => h) (Or.inr ⟨by rfl, rfl⟩) (by assumption) ?_
              try simp only [Act.put, List.setIfInBounds_toArray, List.set_cons_zero, List.set_cons_succ]
              refine wpAnyH_take (i := 16) (oi := { dst := some 61, op := Op.pick (Operand.tmp 51) (Operand.const (Value.bool true)) (Operand.tmp 60), type := 4, pos := "l07_growth.go:361", after := #[{ on := 6, ground := Ground.data }, { on := 15, ground := Ground.data }, { on := 3, ground := Ground.guard }], guard := some (3, true) }) (v := ?v7) rfl (by kernel_rfl) (by kernel_rfl) (by kernel_rfl) (fun _ _ _ h => h) (Or.inl ⟨by rfl, ?hy7⟩) (by assumption) ?_
              case hy7 => (intro w hSw; (try dsimp only at hSw); go_simp; (try with_reducible rfl))
              try simp only [Act.put, List.setIfInBounds_toArray, List.set_cons_zero, List.set_cons_succ]
              refine wpAnyH_take (i := 17) (oi := { dst := some 62, op := Op.pick (Operand.tmp 48) (Operand.tmp 61) (Operand.const (Value.bool false)), type := 4, pos := "l07_growth.go:361", after := #[{ on := 3, ground := Ground.data }, { on := 16, ground := Ground.data }], guard := none }) (v := ?v8) rfl (by kernel_rfl) (by kernel_rfl) (by kernel_rfl) (fun _ _ _ h => h) (Or.inl ⟨by rfl, ?hy8⟩) (by assumption) ?_
              case hy8 => (intro w hSw; (try dsimp only at hSw); go_simp; (try with_reducible rfl))
              try simp only [Act.put, List.setIfInBounds_toArray, List.set_cons_zero, List.set_cons_succ]
              refine wpAnyH_done (by kernel_rfl) ?_ _
              all_goals
                have HB5 : Hid (Below w.heap.size w wj) := HBW.out.trans (KJ.out.mono HBW.out.size)
                go_wp2_with fail
                go_roundw
                case rel => first | exact ⟨k + 1, by rw [S1.out], by go_num, by omega, HB5⟩ | ((repeat apply Exists.intro); exact ⟨⟨k + 1, by rw [S1.out], by go_num, by omega, HB5⟩, rfl⟩)
                case measure => simp [intOf]; omega
            · obtain ⟨mm, hmm, hbm⟩ : ∃ mm : Nat, mm < k ∧ bq = (mm : Int) := by
                rcases HI.out with ⟨h1, _⟩ | ⟨m, h1, h2, _⟩
                · omega
                · exact ⟨m, h1, h2⟩
              subst hbm
              have hdq : decide (((mm : Nat) : Int) < 0) = false := decide_eq_false hq
              have ho := HL2.out mm hmm
              have hm3 : (mm : Int) < (zs.length : Int) := by omega
              have hm4 : (0 : Int) ≤ (mm : Int) := by omega
              have hmz : mm < zs.length := by omega
              by_cases hlt2 : gK zs k < gK zs mm
              · have ho2 : (compare (gK zs k) (gK zs mm) == Ordering.lt) = true := by rw [cmp_lt.2 hlt2]; rfl
                have S1 := Lib.hid (SB.out (by show (thC x y zs (gK zs k) && _) = true; rw [HT1.out, hd0, Int.toNat_natCast, decide_eq_true hlt2]; simp))
                clear SB SN HI HT1 hlt2
                have e6 := (HCE.out 0 wr (Below.refl _ _)).2 k hlt
                have e7 := (HCE.out 0 wr (Below.refl _ _)).2 mm hmz
                refine wp_region_held_drew (S := fun w' => w'.cell? ⟨b5, off5 + k, none⟩ = some (.float .f32 (at0 zs k)) ∧ w'.cell? ⟨b5, off5 + mm, none⟩ = some (.float .f32 (at0 zs mm)) ∧ Hid (Below wr.heap.size wr w')) (by kernel_rfl) ⟨e6, e7, K0⟩ (fun hHeld => ?_)
                clear e6 e7
                refine wpAnyH_ready (rs := [0]) (by kernel_rfl) (by simp) ?_
                refine AllReadyH.cons (o := { dst := some 45, op := Op.call { callee := Callee.value (Operand.func 52), args := #[Operand.tmp 10], argTypes := #[68] }, type := 23, pos := "l07_growth.go:361", after := #[], guard := none }) rfl (fun K hK => ?_) AllReadyH.nil
                rw [if_pos (by rfl)]
                go_simp
                go_at_call 52
                refine (HS7.out _ hHeld.2.2.out).mono ?_
                rintro e wj ⟨B5, d5, rfl, hbj⟩
                have KJ := Lib.hid (hHeld.2.2.out.trans (hbj.out.mono hHeld.2.2.out.size))
                have e0 := keep1 (v := b5) (o := off5 + k) hbj.out hHeld.1 hHeld.2.2 hb5w
                have e1 := keep1 (v := b5) (o := off5 + mm) hbj.out hHeld.2.1 hHeld.2.2 hb5w
                go_wp2_with fail
                refine hK.out _ _ ⟨e0, e1, KJ⟩ (fun hHeld => ?_)
                clear hK K
                try simp only [Act.put, List.setIfInBounds_toArray, List.set_cons_zero, List.set_cons_succ]
                refine wpAnyH_take (i := 1) (oi := { dst := some 46, op := Op.call { callee := Callee.builtin Builtin.len, args := #[Operand.tmp 45], argTypes := #[23] }, type := 3, pos := "l07_growth.go:361", after := #[{ on := 0, ground := Ground.data }], guard := none }) (v := ?v9) rfl (by kernel_rfl) (by kernel_rfl) (by kernel_rfl) (fun _ _ _ h => h) (Or.inl ⟨by rfl, ?hy9⟩) (by assumption) ?_
                case hy9 => (intro w hSw; (try dsimp only at hSw); go_simp; (try with_reducible rfl))
                try simp only [Act.put, List.setIfInBounds_toArray, List.set_cons_zero, List.set_cons_succ]
                refine wpAnyH_take (i := 2) (oi := { dst := some 47, op := Op.binOp BinOp.gtr 3 (Operand.tmp 46) (Operand.const (Value.int IntKind.i64 0)) 3, type := 4, pos := "l07_growth.go:361", after := #[{ on := 1, ground := Ground.data }], guard := none }) (v := ?v10) rfl (by kernel_rfl) (by kernel_rfl) (by kernel_rfl) (fun _ _ _ h => h) (Or.inl ⟨by rfl, ?hy10⟩) (by assumption) ?_
                case hy10 => (intro w hSw; (try dsimp only at hSw); go_simp; (try with_reducible rfl))
                try simp only [Act.put, List.setIfInBounds_toArray, List.set_cons_zero, List.set_cons_succ]
                refine wpAnyH_take (i := 3) (oi := { dst := some 48, op := Op.move (Operand.tmp 47), type := 4, pos := "l07_growth.go:361", after := #[{ on := 2, ground := Ground.data }, { on := 0, ground := Ground.chain }], guard := none }) (v := ?v11) rfl (by kernel_rfl) (by kernel_rfl) (by kernel_rfl) (fun _ _ _ h => h) (Or.inl ⟨by rfl, ?hy11⟩) (by assumption) ?_
                case hy11 => (intro w hSw; (try dsimp only at hSw); go_simp; (try with_reducible rfl))
                try simp only [Act.put, List.setIfInBounds_toArray, List.set_cons_zero, List.set_cons_succ]
                refine wpAnyH_take (i := 4) (oi := { dst := some 49, op := Op.move (Operand.tmp 8), type := 3, pos := "l07_growth.go:361", after := #[{ on := 3, ground := Ground.guard }], guard := some (3, true) }) (v := ?v12) rfl (by kernel_rfl) (by kernel_rfl) (by kernel_rfl) (fun _ _ _ h => h) (Or.inl ⟨by rfl, ?hy12⟩) (by assumption) ?_
                case hy12 => (intro w hSw; (try dsimp only at hSw); go_simp; (try with_reducible rfl))
                try simp only [Act.put, List.setIfInBounds_toArray, List.set_cons_zero, List.set_cons_succ]
                refine wpAnyH_take (i := 5) (oi := { dst := some 50, op := Op.binOp BinOp.lss 3 (Operand.tmp 49) (Operand.const (Value.int IntKind.i64 0)) 3, type := 4, pos := "l07_growth.go:361", after := #[{ on := 4, ground := Ground.data }, { on := 3, ground := Ground.guard }], guard := some (3, true) }) (v := ?v13) rfl (by kernel_rfl) (by kernel_rfl) (by kernel_rfl) (fun _ _ _ h => h) (Or.inl ⟨by rfl, ?hy13⟩) (by assumption) ?_
                case hy13 => (intro w hSw; (try dsimp only at hSw); go_simp; (try with_reducible rfl))
                try simp only [Act.put, List.setIfInBounds_toArray, List.set_cons_zero, List.set_cons_succ]
                refine wpAnyH_take (i := 6) (oi := { dst := some 51, op := Op.move (Operand.tmp 50), type := 4, pos := "l07_growth.go:361", after := #[{ on := 5, ground := Ground.data }, { on := 3, ground := Ground.chain }, { on := 3, ground := Ground.guard }], guard := some (3, true) }) (v := ?v14) rfl (by kernel_rfl) (by kernel_rfl) (by kernel_rfl) (fun _ _ _ h => h) (Or.inl ⟨by rfl, ?hy14⟩) (by assumption) ?_
                case hy14 => (intro w hSw; (try dsimp only at hSw); go_simp; (try with_reducible rfl))
                try simp only [Act.put, List.setIfInBounds_toArray, List.set_cons_zero, List.set_cons_succ]
                refine wpAnyH_take (i := 7) (oi := { dst := some 52, op := Op.move (Operand.tmp 0), type := 22, pos := "l07_growth.go:361", after := #[{ on := 6, ground := Ground.guard }], guard := some (6, false) }) (v := ?v15) rfl (by kernel_rfl) (by kernel_rfl) (by kernel_rfl) (fun _ _ _ h => h) (Or.inl ⟨by rfl, ?hy15⟩) (by assumption) ?_
                case hy15 => (intro w hSw; (try dsimp only at hSw); go_simp; (try with_reducible rfl))
                try simp only [Act.put, List.setIfInBounds_toArray, List.set_cons_zero, List.set_cons_succ]
                refine wpAnyH_take (i := 8) (oi := { dst := some 53, op := Op.move (Operand.tmp 9), type := 3, pos := "l07_growth.go:361", after := #[{ on := 6, ground := Ground.guard }], guard := some (6, false) }) (v := ?v16) rfl (by kernel_rfl) (by kernel_rfl) (by kernel_rfl) (fun _ _ _ h => h) (Or.inl ⟨by rfl, ?hy16⟩) (by assumption) ?_
                case hy16 => (intro w hSw; (try dsimp only at hSw); go_simp; (try with_reducible rfl))
                try simp only [Act.put, List.setIfInBounds_toArray, List.set_cons_zero, List.set_cons_succ]
                refine wpAnyH_take (i := 9) (oi := { dst := some 54, op := Op.indexAddr 22 (Operand.tmp 52) (Operand.tmp 53), type := 0, pos := "l07_growth.go:361", after := #[{ on := 7, ground := Ground.data }, { on := 8, ground := Ground.data }, { on := 6, ground := Ground.guard }], guard := some (6, false) }) (v := ?v17) rfl (by kernel_rfl) (by kernel_rfl) (by kernel_rfl) (fun _ _ _ h => h) (Or.inl ⟨by rfl, ?hy17⟩) (by assumption) ?_
                case hy17 => (intro w hSw; (try dsimp only at hSw); go_simp; (try with_reducible rfl))
                try simp only [Act.put, List.setIfInBounds_toArray, List.set_cons_zero, List.set_cons_succ]
                refine wpAnyH_take (i := 10) (oi := { dst := some 55, op := Op.load 34 (Operand.tmp 54), type := 34, pos := "l07_growth.go:361", after := #[{ on := 9, ground := Ground.data }, { on := 6, ground := Ground.guard }], guard := some (6, false) }) (v := ?v18) rfl (by kernel_rfl) (by kernel_rfl) (by kernel_rfl) (fun _ _ _ h => h) (Or.inl ⟨by rfl, ?hy18⟩) (by assumption) ?_
                case hy18 => (intro w hSw; (try dsimp only at hSw); go_simp; (try with_reducible rfl))
                try simp only [Act.put, List.setIfInBounds_toArray, List.set_cons_zero, List.set_cons_succ]
                refine wpAnyH_take (i := 11) (oi := { dst := some 56, op := Op.move (Operand.tmp 0), type := 22, pos := "l07_growth.go:361", after := #[{ on := 6, ground := Ground.guard }], guard := some (6, false) }) (v := ?v19) rfl (by kernel_rfl) (by kernel_rfl) (by kernel_rfl) (fun _ _ _ h => h) (Or.inl ⟨by rfl, ?hy19⟩) (by assumption) ?_
                case hy19 => (intro w hSw; (try dsimp only at hSw); go_simp; (try with_reducible rfl))
                try simp only [Act.put, List.setIfInBounds_toArray, List.set_cons_zero, List.set_cons_succ]
                refine wpAnyH_take (i := 12) (oi := { dst := some 57, op := Op.move (Operand.tmp 8), type := 3, pos := "l07_growth.go:361", after := #[{ on := 6, ground := Ground.guard }], guard := some (6, false) }) (v := ?v20) rfl (by kernel_rfl) (by kernel_rfl) (by kernel_rfl) (fun _ _ _ h => h) (Or.inl ⟨by rfl, ?hy20⟩) (by assumption) ?_
                case hy20 => (intro w hSw; (try dsimp only at hSw); go_simp; (try with_reducible rfl))
                try simp only [Act.put, List.setIfInBounds_toArray, List.set_cons_zero, List.set_cons_succ]
                refine wpAnyH_take (i := 13) (oi := { dst := some 58, op := Op.indexAddr 22 (Operand.tmp 56) (Operand.tmp 57), type := 0, pos := "l07_growth.go:361", after := #[{ on := 11, ground := Ground.data }, { on := 12, ground := Ground.data }, { on := 6, ground := Ground.guard }], guard := some (6, false) }) (v := ?v21) rfl (by kernel_rfl) (by kernel_rfl) (by kernel_rfl) (fun _ _ _ h => h) (Or.inl ⟨by rfl, ?hy21⟩) (by assumption) ?_
                case hy21 => (intro w hSw; (try dsimp only at hSw); go_simp; (try with_reducible rfl))
                try simp only [Act.put, List.setIfInBounds_toArray, List.set_cons_zero, List.set_cons_succ]
                refine wpAnyH_take (i := 14) (oi := { dst := some 59, op := Op.load 34 (Operand.tmp 58), type := 34, pos := "l07_growth.go:361", after := #[{ on := 13, ground := Ground.data }, { on := 6, ground := Ground.guard }], guard := some (6, false) }) (v := ?v22) rfl (by kernel_rfl) (by kernel_rfl) (by kernel_rfl) (fun _ _ _ h => h) (Or.inl ⟨by rfl, ?hy22⟩) (by assumption) ?_
                case hy22 => (intro w hSw; (try dsimp only at hSw); go_simp; (try with_reducible rfl))
                try simp only [Act.put, List.setIfInBounds_toArray, List.set_cons_zero, List.set_cons_succ]
                refine wpAnyH_take (i := 15) (oi := { dst := some 60, op := Op.binOp BinOp.lss 34 (Operand.tmp 55) (Operand.tmp 59) 34, type := 4, pos := "l07_growth.go:361", after := #[{ on := 10, ground := Ground.data }, { on := 14, ground := Ground.data }, { on := 6, ground := Ground.guard }], guard := some (6, false) }) (v := ?v23) rfl (by kernel_rfl) (by kernel_rfl) (by kernel_rfl) (fun _ _ _ h => h) (Or.inl ⟨by rfl, ?hy23⟩) (by assumption) ?_
                case hy23 => (intro w hSw; (try dsimp only at hSw); go_simp; (try with_reducible rfl))
                try simp only [Act.put, List.setIfInBounds_toArray, List.set_cons_zero, List.set_cons_succ]
                refine wpAnyH_take (i := 16) (oi := { dst := some 61, op := Op.pick (Operand.tmp 51) (Operand.const (Value.bool true)) (Operand.tmp 60), type := 4, pos := "l07_growth.go:361", after := #[{ on := 6, ground := Ground.data }, { on := 15, ground := Ground.data }, { on := 3, ground := Ground.guard }], guard := some (3, true) }) (v := ?v24) rfl (by kernel_rfl) (by kernel_rfl) (by kernel_rfl) (fun _ _ _ h => h) (Or.inl ⟨by rfl, ?hy24⟩) (by assumption) ?_
                case hy24 => (intro w hSw; (try dsimp only at hSw); go_simp; (try with_reducible rfl))
                try simp only [Act.put, List.setIfInBounds_toArray, List.set_cons_zero, List.set_cons_succ]
                refine wpAnyH_take (i := 17) (oi := { dst := some 62, op := Op.pick (Operand.tmp 48) (Operand.tmp 61) (Operand.const (Value.bool false)), type := 4, pos := "l07_growth.go:361", after := #[{ on := 3, ground := Ground.data }, { on := 16, ground := Ground.data }], guard := none }) (v := ?v25) rfl (by kernel_rfl) (by kernel_rfl) (by kernel_rfl) (fun _ _ _ h => h) (Or.inl ⟨by rfl, ?hy25⟩) (by assumption) ?_
                case hy25 => (intro w hSw; (try dsimp only at hSw); go_simp; (try with_reducible rfl))
                try simp only [Act.put, List.setIfInBounds_toArray, List.set_cons_zero, List.set_cons_succ]
                refine wpAnyH_done (by kernel_rfl) ?_ _
                all_goals
                  have HB5 : Hid (Below w.heap.size w wj) := HBW.out.trans (KJ.out.mono HBW.out.size)
                  go_wp2_with fail
                  go_roundw
                  case rel => first | exact ⟨k + 1, by rw [S1.out], by go_num, by omega, HB5⟩ | ((repeat apply Exists.intro); exact ⟨⟨k + 1, by rw [S1.out], by go_num, by omega, HB5⟩, rfl⟩)
                  case measure => simp [intOf]; omega
              · have ho2 : (compare (gK zs k) (gK zs mm) == Ordering.lt) = false := beq_eq_false_iff_ne.2 fun h => hlt2 (cmp_lt.1 h)
                have S1 := Lib.hid (SN.out (by show (thC x y zs (gK zs k) && _) = false; rw [HT1.out, hd0, Int.toNat_natCast, decide_eq_false hlt2, hdq]; rfl))
                clear SB SN HI HT1 hlt2
                have e6 := (HCE.out 0 wr (Below.refl _ _)).2 k hlt
                have e7 := (HCE.out 0 wr (Below.refl _ _)).2 mm hmz
                refine wp_region_held_drew (S := fun w' => w'.cell? ⟨b5, off5 + k, none⟩ = some (.float .f32 (at0 zs k)) ∧ w'.cell? ⟨b5, off5 + mm, none⟩ = some (.float .f32 (at0 zs mm)) ∧ Hid (Below wr.heap.size wr w')) (by kernel_rfl) ⟨e6, e7, K0⟩ (fun hHeld => ?_)
                clear e6 e7
                refine wpAnyH_ready (rs := [0]) (by kernel_rfl) (by simp) ?_
                refine AllReadyH.cons (o := { dst := some 45, op := Op.call { callee := Callee.value (Operand.func 52), args := #[Operand.tmp 10], argTypes := #[68] }, type := 23, pos := "l07_growth.go:361", after := #[], guard := none }) rfl (fun K hK => ?_) AllReadyH.nil
                rw [if_pos (by rfl)]
                go_simp
                go_at_call 52
                refine (HS7.out _ hHeld.2.2.out).mono ?_
                rintro e wj ⟨B5, d5, rfl, hbj⟩
                have KJ := Lib.hid (hHeld.2.2.out.trans (hbj.out.mono hHeld.2.2.out.size))
                have e0 := keep1 (v := b5) (o := off5 + k) hbj.out hHeld.1 hHeld.2.2 hb5w
                have e1 := keep1 (v := b5) (o := off5 + mm) hbj.out hHeld.2.1 hHeld.2.2 hb5w
                go_wp2_with fail
                refine hK.out _ _ ⟨e0, e1, KJ⟩ (fun hHeld => ?_)
                clear hK K
                try simp only [Act.put, List.setIfInBounds_toArray, List.set_cons_zero, List.set_cons_succ]
                refine wpAnyH_take (i := 1) (oi := { dst := some 46, op := Op.call { callee := Callee.builtin Builtin.len, args := #[Operand.tmp 45], argTypes := #[23] }, type := 3, pos := "l07_growth.go:361", after := #[{ on := 0, ground := Ground.data }], guard := none }) (v := ?v26) rfl (by kernel_rfl) (by kernel_rfl) (by kernel_rfl) (fun _ _ _ h => h) (Or.inl ⟨by rfl, ?hy26⟩) (by assumption) ?_
                case hy26 => (intro w hSw; (try dsimp only at hSw); go_simp; (try with_reducible rfl))
                try simp only [Act.put, List.setIfInBounds_toArray, List.set_cons_zero, List.set_cons_succ]
                refine wpAnyH_take (i := 2) (oi := { dst := some 47, op := Op.binOp BinOp.gtr 3 (Operand.tmp 46) (Operand.const (Value.int IntKind.i64 0)) 3, type := 4, pos := "l07_growth.go:361", after := #[{ on := 1, ground := Ground.data }], guard := none }) (v := ?v27) rfl (by kernel_rfl) (by kernel_rfl) (by kernel_rfl) (fun _ _ _ h => h) (Or.inl ⟨by rfl, ?hy27⟩) (by assumption) ?_
                case hy27 => (intro w hSw; (try dsimp only at hSw); go_simp; (try with_reducible rfl))
                try simp only [Act.put, List.setIfInBounds_toArray, List.set_cons_zero, List.set_cons_succ]
                refine wpAnyH_take (i := 3) (oi := { dst := some 48, op := Op.move (Operand.tmp 47), type := 4, pos := "l07_growth.go:361", after := #[{ on := 2, ground := Ground.data }, { on := 0, ground := Ground.chain }], guard := none }) (v := ?v28) rfl (by kernel_rfl) (by kernel_rfl) (by kernel_rfl) (fun _ _ _ h => h) (Or.inl ⟨by rfl, ?hy28⟩) (by assumption) ?_
                case hy28 => (intro w hSw; (try dsimp only at hSw); go_simp; (try with_reducible rfl))
                try simp only [Act.put, List.setIfInBounds_toArray, List.set_cons_zero, List.set_cons_succ]
                refine wpAnyH_take (i := 4) (oi := { dst := some 49, op := Op.move (Operand.tmp 8), type := 3, pos := "l07_growth.go:361", after := #[{ on := 3, ground := Ground.guard }], guard := some (3, true) }) (v := ?v29) rfl (by kernel_rfl) (by kernel_rfl) (by kernel_rfl) (fun _ _ _ h => h) (Or.inl ⟨by rfl, ?hy29⟩) (by assumption) ?_
                case hy29 => (intro w hSw; (try dsimp only at hSw); go_simp; (try with_reducible rfl))
                try simp only [Act.put, List.setIfInBounds_toArray, List.set_cons_zero, List.set_cons_succ]
                refine wpAnyH_take (i := 5) (oi := { dst := some 50, op := Op.binOp BinOp.lss 3 (Operand.tmp 49) (Operand.const (Value.int IntKind.i64 0)) 3, type := 4, pos := "l07_growth.go:361", after := #[{ on := 4, ground := Ground.data }, { on := 3, ground := Ground.guard }], guard := some (3, true) }) (v := ?v30) rfl (by kernel_rfl) (by kernel_rfl) (by kernel_rfl) (fun _ _ _ h => h) (Or.inl ⟨by rfl, ?hy30⟩) (by assumption) ?_
                case hy30 => (intro w hSw; (try dsimp only at hSw); go_simp; (try with_reducible rfl))
                try simp only [Act.put, List.setIfInBounds_toArray, List.set_cons_zero, List.set_cons_succ]
                refine wpAnyH_take (i := 6) (oi := { dst := some 51, op := Op.move (Operand.tmp 50), type := 4, pos := "l07_growth.go:361", after := #[{ on := 5, ground := Ground.data }, { on := 3, ground := Ground.chain }, { on := 3, ground := Ground.guard }], guard := some (3, true) }) (v := ?v31) rfl (by kernel_rfl) (by kernel_rfl) (by kernel_rfl) (fun _ _ _ h => h) (Or.inl ⟨by rfl, ?hy31⟩) (by assumption) ?_
                case hy31 => (intro w hSw; (try dsimp only at hSw); go_simp; (try with_reducible rfl))
                try simp only [Act.put, List.setIfInBounds_toArray, List.set_cons_zero, List.set_cons_succ]
                refine wpAnyH_take (i := 7) (oi := { dst := some 52, op := Op.move (Operand.tmp 0), type := 22, pos := "l07_growth.go:361", after := #[{ on := 6, ground := Ground.guard }], guard := some (6, false) }) (v := ?v32) rfl (by kernel_rfl) (by kernel_rfl) (by kernel_rfl) (fun _ _ _ h => h) (Or.inl ⟨by rfl, ?hy32⟩) (by assumption) ?_
                case hy32 => (intro w hSw; (try dsimp only at hSw); go_simp; (try with_reducible rfl))
                try simp only [Act.put, List.setIfInBounds_toArray, List.set_cons_zero, List.set_cons_succ]
                refine wpAnyH_take (i := 8) (oi := { dst := some 53, op := Op.move (Operand.tmp 9), type := 3, pos := "l07_growth.go:361", after := #[{ on := 6, ground := Ground.guard }], guard := some (6, false) }) (v := ?v33) rfl (by kernel_rfl) (by kernel_rfl) (by kernel_rfl) (fun _ _ _ h => h) (Or.inl ⟨by rfl, ?hy33⟩) (by assumption) ?_
                case hy33 => (intro w hSw; (try dsimp only at hSw); go_simp; (try with_reducible rfl))
                try simp only [Act.put, List.setIfInBounds_toArray, List.set_cons_zero, List.set_cons_succ]
                refine wpAnyH_take (i := 9) (oi := { dst := some 54, op := Op.indexAddr 22 (Operand.tmp 52) (Operand.tmp 53), type := 0, pos := "l07_growth.go:361", after := #[{ on := 7, ground := Ground.data }, { on := 8, ground := Ground.data }, { on := 6, ground := Ground.guard }], guard := some (6, false) }) (v := ?v34) rfl (by kernel_rfl) (by kernel_rfl) (by kernel_rfl) (fun _ _ _ h => h) (Or.inl ⟨by rfl, ?hy34⟩) (by assumption) ?_
                case hy34 => (intro w hSw; (try dsimp only at hSw); go_simp; (try with_reducible rfl))
                try simp only [Act.put, List.setIfInBounds_toArray, List.set_cons_zero, List.set_cons_succ]
                refine wpAnyH_take (i := 10) (oi := { dst := some 55, op := Op.load 34 (Operand.tmp 54), type := 34, pos := "l07_growth.go:361", after := #[{ on := 9, ground := Ground.data }, { on := 6, ground := Ground.guard }], guard := some (6, false) }) (v := ?v35) rfl (by kernel_rfl) (by kernel_rfl) (by kernel_rfl) (fun _ _ _ h => h) (Or.inl ⟨by rfl, ?hy35⟩) (by assumption) ?_
                case hy35 => (intro w hSw; (try dsimp only at hSw); go_simp; (try with_reducible rfl))
                try simp only [Act.put, List.setIfInBounds_toArray, List.set_cons_zero, List.set_cons_succ]
                refine wpAnyH_take (i := 11) (oi := { dst := some 56, op := Op.move (Operand.tmp 0), type := 22, pos := "l07_growth.go:361", after := #[{ on := 6, ground := Ground.guard }], guard := some (6, false) }) (v := ?v36) rfl (by kernel_rfl) (by kernel_rfl) (by kernel_rfl) (fun _ _ _ h => h) (Or.inl ⟨by rfl, ?hy36⟩) (by assumption) ?_
                case hy36 => (intro w hSw; (try dsimp only at hSw); go_simp; (try with_reducible rfl))
                try simp only [Act.put, List.setIfInBounds_toArray, List.set_cons_zero, List.set_cons_succ]
                refine wpAnyH_take (i := 12) (oi := { dst := some 57, op := Op.move (Operand.tmp 8), type := 3, pos := "l07_growth.go:361", after := #[{ on := 6, ground := Ground.guard }], guard := some (6, false) }) (v := ?v37) rfl (by kernel_rfl) (by kernel_rfl) (by kernel_rfl) (fun _ _ _ h => h) (Or.inl ⟨by rfl, ?hy37⟩) (by assumption) ?_
                case hy37 => (intro w hSw; (try dsimp only at hSw); go_simp; (try with_reducible rfl))
                try simp only [Act.put, List.setIfInBounds_toArray, List.set_cons_zero, List.set_cons_succ]
                refine wpAnyH_take (i := 13) (oi := { dst := some 58, op := Op.indexAddr 22 (Operand.tmp 56) (Operand.tmp 57), type := 0, pos := "l07_growth.go:361", after := #[{ on := 11, ground := Ground.data }, { on := 12, ground := Ground.data }, { on := 6, ground := Ground.guard }], guard := some (6, false) }) (v := ?v38) rfl (by kernel_rfl) (by kernel_rfl) (by kernel_rfl) (fun _ _ _ h => h) (Or.inl ⟨by rfl, ?hy38⟩) (by assumption) ?_
                case hy38 => (intro w hSw; (try dsimp only at hSw); go_simp; (try with_reducible rfl))
                try simp only [Act.put, List.setIfInBounds_toArray, List.set_cons_zero, List.set_cons_succ]
                refine wpAnyH_take (i := 14) (oi := { dst := some 59, op := Op.load 34 (Operand.tmp 58), type := 34, pos := "l07_growth.go:361", after := #[{ on := 13, ground := Ground.data }, { on := 6, ground := Ground.guard }], guard := some (6, false) }) (v := ?v39) rfl (by kernel_rfl) (by kernel_rfl) (by kernel_rfl) (fun _ _ _ h => h) (Or.inl ⟨by rfl, ?hy39⟩) (by assumption) ?_
                case hy39 => (intro w hSw; (try dsimp only at hSw); go_simp; (try with_reducible rfl))
                try simp only [Act.put, List.setIfInBounds_toArray, List.set_cons_zero, List.set_cons_succ]
                refine wpAnyH_take (i := 15) (oi := { dst := some 60, op := Op.binOp BinOp.lss 34 (Operand.tmp 55) (Operand.tmp 59) 34, type := 4, pos := "l07_growth.go:361", after := #[{ on := 10, ground := Ground.data }, { on := 14, ground := Ground.data }, { on := 6, ground := Ground.guard }], guard := some (6, false) }) (v := ?v40) rfl (by kernel_rfl) (by kernel_rfl) (by kernel_rfl) (fun _ _ _ h => h) (Or.inl ⟨by rfl, ?hy40⟩) (by assumption) ?_
                case hy40 => (intro w hSw; (try dsimp only at hSw); go_simp; (try with_reducible rfl))
                try simp only [Act.put, List.setIfInBounds_toArray, List.set_cons_zero, List.set_cons_succ]
                refine wpAnyH_take (i := 16) (oi := { dst := some 61, op := Op.pick (Operand.tmp 51) (Operand.const (Value.bool true)) (Operand.tmp 60), type := 4, pos := "l07_growth.go:361", after := #[{ on := 6, ground := Ground.data }, { on := 15, ground := Ground.data }, { on := 3, ground := Ground.guard }], guard := some (3, true) }) (v := ?v41) rfl (by kernel_rfl) (by kernel_rfl) (by kernel_rfl) (fun _ _ _ h => h) (Or.inl ⟨by rfl, ?hy41⟩) (by assumption) ?_
                case hy41 => (intro w hSw; (try dsimp only at hSw); go_simp; (try with_reducible rfl))
                try simp only [Act.put, List.setIfInBounds_toArray, List.set_cons_zero, List.set_cons_succ]
                refine wpAnyH_take (i := 17) (oi := { dst := some 62, op := Op.pick (Operand.tmp 48) (Operand.tmp 61) (Operand.const (Value.bool false)), type := 4, pos := "l07_growth.go:361", after := #[{ on := 3, ground := Ground.data }, { on := 16, ground := Ground.data }], guard := none }) (v := ?v42) rfl (by kernel_rfl) (by kernel_rfl) (by kernel_rfl) (fun _ _ _ h => h) (Or.inl ⟨by rfl, ?hy42⟩) (by assumption) ?_
                case hy42 => (intro w hSw; (try dsimp only at hSw); go_simp; (try with_reducible rfl))
                try simp only [Act.put, List.setIfInBounds_toArray, List.set_cons_zero, List.set_cons_succ]
                refine wpAnyH_done (by kernel_rfl) ?_ _
                all_goals
                  have HB5 : Hid (Below w.heap.size w wj) := HBW.out.trans (KJ.out.mono HBW.out.size)
                  go_wp2_with fail
                  go_roundw
                  case rel => first | exact ⟨k + 1, by rw [S1.out], by go_num, by omega, HB5⟩ | ((repeat apply Exists.intro); exact ⟨⟨k + 1, by rw [S1.out], by go_num, by omega, HB5⟩, rfl⟩)
                  case measure => simp [intOf]; omega
          · have hd0 : decide (0 < cl) = false := decide_eq_false h0
            have S1 := Lib.hid (SN.out (by show (thC x y zs (gK zs k) && _) = false; rw [HT1.out, hd0]; rfl))
            clear SB SN HI HT1
            refine wp_region_held_drew (S := fun w' => Hid (Below wr.heap.size wr w')) (by kernel_rfl) K0 (fun hHeld => ?_)
            refine wpAnyH_ready (rs := [0]) (by kernel_rfl) (by simp) ?_
            refine AllReadyH.cons (o := { dst := some 45, op := Op.call { callee := Callee.value (Operand.func 52), args := #[Operand.tmp 10], argTypes := #[68] }, type := 23, pos := "l07_growth.go:361", after := #[], guard := none }) rfl (fun K hK => ?_) AllReadyH.nil
            rw [if_pos (by rfl)]
            go_simp
            go_at_call 52
            refine (HS7.out _ hHeld.out).mono ?_
            rintro e wj ⟨B5, d5, rfl, hbj⟩
            have KJ := Lib.hid (hHeld.out.trans (hbj.out.mono hHeld.out.size))
            go_wp2_with fail
            refine hK.out _ _ KJ (fun hHeld => ?_)
            clear hK K
            try simp only [Act.put, List.setIfInBounds_toArray, List.set_cons_zero, List.set_cons_succ]
            refine wpAnyH_take (i := 1) (oi := { dst := some 46, op := Op.call { callee := Callee.builtin Builtin.len, args := #[Operand.tmp 45], argTypes := #[23] }, type := 3, pos := "l07_growth.go:361", after := #[{ on := 0, ground := Ground.data }], guard := none }) (v := ?v43) rfl (by kernel_rfl) (by kernel_rfl) (by kernel_rfl) (fun _ _ _ h => h) (Or.inl ⟨by rfl, ?hy43⟩) (by assumption) ?_
            case hy43 => (intro w hSw; (try dsimp only at hSw); go_simp; (try with_reducible rfl))
            try simp only [Act.put, List.setIfInBounds_toArray, List.set_cons_zero, List.set_cons_succ]
            refine wpAnyH_take (i := 2) (oi := { dst := some 47, op := Op.binOp BinOp.gtr 3 (Operand.tmp 46) (Operand.const (Value.int IntKind.i64 0)) 3, type := 4, pos := "l07_growth.go:361", after := #[{ on := 1, ground := Ground.data }], guard := none }) (v := ?v44) rfl (by kernel_rfl) (by kernel_rfl) (by kernel_rfl) (fun _ _ _ h => h) (Or.inl ⟨by rfl, ?hy44⟩) (by assumption) ?_
            case hy44 => (intro w hSw; (try dsimp only at hSw); go_simp; (try with_reducible rfl))
            try simp only [Act.put, List.setIfInBounds_toArray, List.set_cons_zero, List.set_cons_succ]
            refine wpAnyH_take (i := 3) (oi := { dst := some 48, op := Op.move (Operand.tmp 47), type := 4, pos := "l07_growth.go:361", after := #[{ on := 2, ground := Ground.data }, { on := 0, ground := Ground.chain }], guard := none }) (v := ?v45) rfl (by kernel_rfl) (by kernel_rfl) (by kernel_rfl) (fun _ _ _ h => h) (Or.inl ⟨by rfl, ?hy45⟩) (by assumption) ?_
            case hy45 => (intro w hSw; (try dsimp only at hSw); go_simp; (try with_reducible rfl))
            try simp only [Act.put, List.setIfInBounds_toArray, List.set_cons_zero, List.set_cons_succ]
            refine wpAnyH_take (i := 4) (oi := { dst := some 49, op := Op.move (Operand.tmp 8), type := 3, pos := "l07_growth.go:361", after := #[{ on := 3, ground := Ground.guard }], guard := some (3, true) }) (v := _) rfl (by kernel_rfl) (by kernel_rfl) (by kernel_rfl) (fun _ _ _ h => h) (Or.inr ⟨by rfl, rfl⟩) (by assumption) ?_
            try simp only [Act.put, List.setIfInBounds_toArray, List.set_cons_zero, List.set_cons_succ]
            refine wpAnyH_take (i := 5) (oi := { dst := some 50, op := Op.binOp BinOp.lss 3 (Operand.tmp 49) (Operand.const (Value.int IntKind.i64 0)) 3, type := 4, pos := "l07_growth.go:361", after := #[{ on := 4, ground := Ground.data }, { on := 3, ground := Ground.guard }], guard := some (3, true) }) (v := _) rfl (by kernel_rfl) (by kernel_rfl) (by kernel_rfl) (fun _ _ _ h => h) (Or.inr ⟨by rfl, rfl⟩) (by assumption) ?_
            try simp only [Act.put, List.setIfInBounds_toArray, List.set_cons_zero, List.set_cons_succ]
            refine wpAnyH_take (i := 6) (oi := { dst := some 51, op := Op.move (Operand.tmp 50), type := 4, pos := "l07_growth.go:361", after := #[{ on := 5, ground := Ground.data }, { on := 3, ground := Ground.chain }, { on := 3, ground := Ground.guard }], guard := some (3, true) }) (v := _) rfl (by kernel_rfl) (by kernel_rfl) (by kernel_rfl) (fun _ _ _ h => h) (Or.inr ⟨by rfl, rfl⟩) (by assumption) ?_
            try simp only [Act.put, List.setIfInBounds_toArray, List.set_cons_zero, List.set_cons_succ]
            refine wpAnyH_take (i := 7) (oi := { dst := some 52, op := Op.move (Operand.tmp 0), type := 22, pos := "l07_growth.go:361", after := #[{ on := 6, ground := Ground.guard }], guard := some (6, false) }) (v := _) rfl (by kernel_rfl) (by kernel_rfl) (by kernel_rfl) (fun _ _ _ h => h) (Or.inr ⟨by rfl, rfl⟩) (by assumption) ?_
            try simp only [Act.put, List.setIfInBounds_toArray, List.set_cons_zero, List.set_cons_succ]
            refine wpAnyH_take (i := 8) (oi := { dst := some 53, op := Op.move (Operand.tmp 9), type := 3, pos := "l07_growth.go:361", after := #[{ on := 6, ground := Ground.guard }], guard := some (6, false) }) (v := _) rfl (by kernel_rfl) (by kernel_rfl) (by kernel_rfl) (fun _ _ _ h => h) (Or.inr ⟨by rfl, rfl⟩) (by assumption) ?_
            try simp only [Act.put, List.setIfInBounds_toArray, List.set_cons_zero, List.set_cons_succ]
            refine wpAnyH_take (i := 9) (oi := { dst := some 54, op := Op.indexAddr 22 (Operand.tmp 52) (Operand.tmp 53), type := 0, pos := "l07_growth.go:361", after := #[{ on := 7, ground := Ground.data }, { on := 8, ground := Ground.data }, { on := 6, ground := Ground.guard }], guard := some (6, false) }) (v := _) rfl (by kernel_rfl) (by kernel_rfl) (by kernel_rfl) (fun _ _ _ h => h) (Or.inr ⟨by rfl, rfl⟩) (by assumption) ?_
            try simp only [Act.put, List.setIfInBounds_toArray, List.set_cons_zero, List.set_cons_succ]
            refine wpAnyH_take (i := 10) (oi := { dst := some 55, op := Op.load 34 (Operand.tmp 54), type := 34, pos := "l07_growth.go:361", after := #[{ on := 9, ground := Ground.data }, { on := 6, ground := Ground.guard }], guard := some (6, false) }) (v := _) rfl (by kernel_rfl) (by kernel_rfl) (by kernel_rfl) (fun _ _ _ h => h) (Or.inr ⟨by rfl, rfl⟩) (by assumption) ?_
            try simp only [Act.put, List.setIfInBounds_toArray, List.set_cons_zero, List.set_cons_succ]
            refine wpAnyH_take (i := 11) (oi := { dst := some 56, op := Op.move (Operand.tmp 0), type := 22, pos := "l07_growth.go:361", after := #[{ on := 6, ground := Ground.guard }], guard := some (6, false) }) (v := _) rfl (by kernel_rfl) (by kernel_rfl) (by kernel_rfl) (fun _ _ _ h => h) (Or.inr ⟨by rfl, rfl⟩) (by assumption) ?_
            try simp only [Act.put, List.setIfInBounds_toArray, List.set_cons_zero, List.set_cons_succ]
            refine wpAnyH_take (i := 12) (oi := { dst := some 57, op := Op.move (Operand.tmp 8), type := 3, pos := "l07_growth.go:361", after := #[{ on := 6, ground := Ground.guard }], guard := some (6, false) }) (v := _) rfl (by kernel_rfl) (by kernel_rfl) (by kernel_rfl) (fun _ _ _ h => h) (Or.inr ⟨by rfl, rfl⟩) (by assumption) ?_
            try simp only [Act.put, List.setIfInBounds_toArray, List.set_cons_zero, List.set_cons_succ]
            refine wpAnyH_take (i := 13) (oi := { dst := some 58, op := Op.indexAddr 22 (Operand.tmp 56) (Operand.tmp 57), type := 0, pos := "l07_growth.go:361", after := #[{ on := 11, ground := Ground.data }, { on := 12, ground := Ground.data }, { on := 6, ground := Ground.guard }], guard := some (6, false) }) (v := _) rfl (by kernel_rfl) (by kernel_rfl) (by kernel_rfl) (fun _ _ _ h => h) (Or.inr ⟨by rfl, rfl⟩) (by assumption) ?_
            try simp only [Act.put, List.setIfInBounds_toArray, List.set_cons_zero, List.set_cons_succ]
            refine wpAnyH_take (i := 14) (oi := { dst := some 59, op := Op.load 34 (Operand.tmp 58), type := 34, pos := "l07_growth.go:361", after := #[{ on := 13, ground := Ground.data }, { on := 6, ground := Ground.guard }], guard := some (6, false) }) (v := _) rfl (by kernel_rfl) (by kernel_rfl) (by kernel_rfl) (fun _ _ _ h => h) (Or.inr ⟨by rfl, rfl⟩) (by assumption) ?_
            try simp only [Act.put, List.setIfInBounds_toArray, List.set_cons_zero, List.set_cons_succ]
            refine wpAnyH_take (i := 15) (oi := { dst := some 60, op := Op.binOp BinOp.lss 34 (Operand.tmp 55) (Operand.tmp 59) 34, type := 4, pos := "l07_growth.go:361", after := #[{ on := 10, ground := Ground.data }, { on := 14, ground := Ground.data }, { on := 6, ground := Ground.guard }], guard := some (6, false) }) (v := _) rfl (by kernel_rfl) (by kernel_rfl) (by kernel_rfl) (fun _ _ _ h => h) (Or.inr ⟨by rfl, rfl⟩) (by assumption) ?_
            try simp only [Act.put, List.setIfInBounds_toArray, List.set_cons_zero, List.set_cons_succ]
            refine wpAnyH_take (i := 16) (oi := { dst := some 61, op := Op.pick (Operand.tmp 51) (Operand.const (Value.bool true)) (Operand.tmp 60), type := 4, pos := "l07_growth.go:361", after := #[{ on := 6, ground := Ground.data }, { on := 15, ground := Ground.data }, { on := 3, ground := Ground.guard }], guard := some (3, true) }) (v := _) rfl (by kernel_rfl) (by kernel_rfl) (by kernel_rfl) (fun _ _ _ h => h) (Or.inr ⟨by rfl, rfl⟩) (by assumption) ?_
            try simp only [Act.put, List.setIfInBounds_toArray, List.set_cons_zero, List.set_cons_succ]
            refine wpAnyH_take (i := 17) (oi := { dst := some 62, op := Op.pick (Operand.tmp 48) (Operand.tmp 61) (Operand.const (Value.bool false)), type := 4, pos := "l07_growth.go:361", after := #[{ on := 3, ground := Ground.data }, { on := 16, ground := Ground.data }], guard := none }) (v := ?v46) rfl (by kernel_rfl) (by kernel_rfl) (by kernel_rfl) (fun _ _ _ h => h) (Or.inl ⟨by rfl, ?hy46⟩) (by assumption) ?_
            case hy46 => (intro w hSw; (try dsimp only at hSw); go_simp; (try with_reducible rfl))
            try simp only [Act.put, List.setIfInBounds_toArray, List.set_cons_zero, List.set_cons_succ]
            refine wpAnyH_done (by kernel_rfl) ?_ _
            all_goals
              have HB5 : Hid (Below w.heap.size w wj) := HBW.out.trans (KJ.out.mono HBW.out.size)
              go_wp2_with fail
              go_roundw
              case rel => first | exact ⟨k + 1, by rw [S1.out], by go_num, by omega, HB5⟩ | ((repeat apply Exists.intro); exact ⟨⟨k + 1, by rw [S1.out], by go_num, by omega, HB5⟩, rfl⟩)
              case measure => simp [intOf]; omega
    · obtain rfl : k = zs.length := by omega
      obtain ⟨mm, hmm, hbm⟩ := HEX.out
      have HM : Hid (thM x y zs = mm) := by show (_ : Int).toNat = _; rw [hbm]; exact Int.toNat_natCast _
      obtain ⟨b5, off5, hA5, hb5, hcell5⟩ := HR.out.below hB.out hn1
      subst hA5
      have e2 := hcell5 mm hmm
      have hm3 : (mm : Int) < (zs.length : Int) := by omega
      rw [hbm]
      clear hbm hcell5 hb5 HEX HINV HTC HSP HLE
      go_wp2_with fail
      go_ret2
      exact ⟨by rw [HM.out]; rfl, hB⟩
theorem specThn (x y : Int) (A : Option Addr) (c : Nat) (zs : List Nat) (w : World) (hr : RowF w w.heap.size A zs) (hn : zs.length ≤ 1048576) (hw : wtB x y zs = false) :
    Calls Try.prog 23 #[.slice A zs.length c, .int .i64 x, .int .i64 y] w (ThPost 0 false w) := by
  have HW := Lib.hid (specWei x y A c w.heap.size zs w hr hn)
  rw [hw] at HW
  clear hr hw
  go_enter Try.func23, Try.ntmps23
  go_wp2_with (go_at_call 51; refine HW.out.mono ?_; rintro e w' ⟨rfl, k0, rfl⟩)
  go_ret2
  exact ⟨rfl, belowN (Below.refl _ _)⟩
set_option maxRecDepth 100000 in
theorem implThn (x y : Int) (A : Option Addr) (c : Nat) (zs : List Nat) (w : World) (hr : RowF w w.heap.size A zs) (hn : zs.length ≤ 1048576) (hw : wtB x y zs = false) :
    Calls Try.prog 24 #[.slice A zs.length c, .int .i64 x, .int .i64 y] w (ThPost 0 false w) := by
  obtain ⟨w1, hw1, hs1, q1, q2, q3, hb1⟩ := th_box w A zs.length c x y
  have HWE : Hid (Calls Try.prog 53 #[.slice A zs.length c, .int .i64 x, .int .i64 y] w1 fun e w' => e = .returned (.bool false) ∧ ∃ k, w' = w1.drewN k) := by
    have := implWei x y A c w.heap.size zs w1 (hr.below hb1) hn
    rw [hw] at this
    exact this
  have HB1 := Lib.hid hb1
  have HQ1 := Lib.hid q1
  have HQ2 := Lib.hid q2
  have HQ3 := Lib.hid q3
  clear hr hw hs1 hb1 q1 q2 q3
  go_enter Try.func24, Try.ntmps24
  go_upto_region 1 with fail
  rw [← hw1]
  clear hw1
  have q1 := HQ1.out
  have q2 := HQ2.out
  have q3 := HQ3.out
  go_wp2_with (go_at_call 53; refine HWE.out.mono ?_; rintro e w' ⟨rfl, k, rfl⟩)
  go_ret2
  exact ⟨rfl, belowN HB1.out⟩
theorem thrBoth (zs : List Nat) (x y : Int) (hn : zs.length ≤ 1048576) : ∃ (v : Nat) (b : Bool),
    (∀ (W : World) (A : Option Addr) (c : Nat), RowV W W.heap.size A zs.length (fv (at0 zs)) → Calls Try.prog 23 #[.slice A zs.length c, .int .i64 x, .int .i64 y] W fun e w' => ∃ g, e = .returned (.tuple #[.float .f32 g, .bool b]) ∧ Hid (can .f32 g = can .f32 v) ∧ Hid (Below W.heap.size W w')) ∧
    (∀ (W : World) (A : Option Addr) (c : Nat), RowV W W.heap.size A zs.length (fv (at0 zs)) → Calls Try.prog 24 #[.slice A zs.length c, .int .i64 x, .int .i64 y] W fun e w' => ∃ g, e = .returned (.tuple #[.float .f32 g, .bool b]) ∧ Hid (can .f32 g = can .f32 v) ∧ Hid (Below W.heap.size W w')) := by
  have go : ∀ v b W e w', ThPost v b W e w' → ∃ g, e = .returned (.tuple #[.float .f32 g, .bool b]) ∧ Hid (can .f32 g = can .f32 v) ∧ Hid (Below W.heap.size W w') := fun v b W e w' ⟨h1, h2⟩ => ⟨v, h1, rfl, h2⟩
  cases hw : wtB x y zs with
  | false => exact ⟨0, false, fun W A c h => (specThn x y A c zs W h hn hw).mono fun e w' p => go _ _ W _ _ p, fun W A c h => (implThn x y A c zs W h hn hw).mono fun e w' p => go _ _ W _ _ p⟩
  | true => exact ⟨_, true, fun W A c h => (specThr x y A c zs W h hw).mono fun e w' p => go _ _ W _ _ p, fun W A c h => (implThr x y A c zs W h hw).mono fun e w' p => go _ _ W _ _ p⟩
end Go.Proofs.Ytnhcmloaanamnaa
