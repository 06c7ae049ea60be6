/-
  What is proved here: HolesOf, of both packages, as walks; both contracts. Conditions: at most 1048576 cells.
-/
import Derived.Test.YtgiblioilpedfaaHld
import Derived.Test.YtgiblioilpedfaaGps
import Derived.Laws.MakeOwn
namespace Go.Proofs.Ytgiblioilpedfaa
open Go.RowKit
set_option linter.unusedVariables false

def holN (x y : Int) (n : Nat) (p : Nat → Bool) : Nat := if fvB x y n = true then hlN x y (gsF p false x y n n) (gsF p false x y n n).length else 0
theorem holN_no {x y : Int} {n : Nat} {p : Nat → Bool} (h : fvB x y n = false) : holN x y n p = 0 := by unfold holN; rw [h, if_neg (by decide)]
theorem holN_yes {x y : Int} {n : Nat} {p : Nat → Bool} (h : fvB x y n = true) : holN x y n p = hlN x y (gsF p false x y n n) (gsF p false x y n n).length := by unfold holN; rw [if_pos h]
theorem edg_no {x y : Int} {Gs : List (List Int)} {i k : Nat} (h : brB x y i = false ∨ numG Gs (i : Int) < 0) : anyN (edgQ x y Gs k) (i + 1) = anyN (edgQ x y Gs k) i := by
  show (anyN (edgQ x y Gs k) i || edgQ x y Gs k i) = _
  have e : edgQ x y Gs k i = false := by
    unfold edgQ
    rcases h with h | h
    · rw [h]; rfl
    · have : (numG Gs (i : Int) == (k : Int)) = false := beq_eq_false_iff_ne.2 (by omega)
      rw [this, Bool.and_false]
  rw [e, Bool.or_false]
theorem edg_yes {x y : Int} {Gs : List (List Int)} {i k s : Nat} (h : brB x y i = true) (hs : numG Gs (i : Int) = (s : Int)) : anyN (edgQ x y Gs k) (i + 1) = if k = s then true else anyN (edgQ x y Gs k) i := by
  show (anyN (edgQ x y Gs k) i || edgQ x y Gs k i) = _
  unfold edgQ
  rw [h, hs, Bool.true_and]
  by_cases e : k = s
  · subst e; rw [if_pos rfl]; simp
  · rw [if_neg e]
    have : ((s : Int) == (k : Int)) = false := beq_eq_false_iff_ne.2 (by omega)
    rw [this, Bool.or_false]

theorem implHolNo (x y : Int) (F : Option Addr) (n f : Nat) (w : World) (hn : n ≤ 1048576) (h : fvB x y n = false) :
    Calls Try.prog 32 #[.agg #[.int .i64 x, .int .i64 y, .slice F n f]] w fun e w' => e = .returned (.tuple #[.int .i64 (0 : Nat), .bool false]) ∧ Hid (Below w.heap.size w w') := by
  have B0 := below_var w x y F n f 40
  have V0 := varT_new w x y F n f 40
  have HI := Lib.hid (implValid x y F n f (w.alloc (.cells #[.int .i64 x, .int .i64 y, .slice F n f] 40)) hn)
  have HB := Lib.hid B0
  have v0 := V0.c0
  have v1 := V0.c1
  have v2 := V0.c2
  rw [h] at HI
  clear B0 V0 h
  go_enter Try.func32, Try.ntmps32
  go_wp2_with fail
  refine HI.out.mono ?_
  rintro e w1 ⟨rfl, hb⟩
  have HE : Hid (Below w.heap.size w w1) := HB.out.trans (hb.out.mono HB.out.size)
  clear HI hb
  go_wp2_with fail
  go_ret2
  exact ⟨rfl, HE⟩
theorem specHolNo (x y : Int) (F : Option Addr) (n f : Nat) (w : World) (hn : n ≤ 1048576) (h : fvB x y n = false) :
    Calls Try.prog 31 #[.agg #[.int .i64 x, .int .i64 y, .slice F n f]] w fun e w' => e = .returned (.tuple #[.int .i64 (0 : Nat), .bool false]) ∧ Hid (Below w.heap.size w w') := by
  have B0 := below_var w x y F n f 40
  have HI := Lib.hid (specIs w.heap.size x y F n f _ (varT_new w x y F n f 40) hn)
  have HB := Lib.hid B0
  rw [h] at HI
  clear B0 h
  go_enter Try.func31, Try.ntmps31
  go_wp2_with fail
  refine HI.out.mono ?_
  rintro e w1 ⟨rfl, k, rfl⟩
  go_wp2_with fail
  go_ret2
  exact ⟨rfl, belowN HB.out⟩

set_option maxHeartbeats 4000000 in
theorem implHol (x y : Int) (F : Option Addr) (n f : Nat) (p : Nat → Bool) (w : World) (hn : n ≤ 1048576) (hr : RowV w w.heap.size F n (bo p)) (h : fvB x y n = true) :
    Calls Try.prog 32 #[.agg #[.int .i64 x, .int .i64 y, .slice F n f]] w fun e w' => e = .returned (.tuple #[.int .i64 (hlN x y (gsF p false x y n n) (gsF p false x y n n).length : Nat), .bool true]) ∧ Hid (Below w.heap.size w w') := by
  have B0 := below_var w x y F n f 40
  have V0 := varT_new w x y F n f 40
  have HI := Lib.hid (implValid x y F n f (w.alloc (.cells #[.int .i64 x, .int .i64 y, .slice F n f] 40)) hn)
  have HB := Lib.hid B0
  have HV := Lib.hid V0
  obtain ⟨⟨⟨hx1, hx2⟩, hy⟩, hnn, hn1, hn2⟩ := fvB_yes h
  have HOK := Lib.hid (nb_ok hx1 hnn)
  have HFV := Lib.hid h
  have HCE := Lib.hid (fun W (hW : Below (w.alloc (.cells #[.int .i64 x, .int .i64 y, .slice F n f] 40)).heap.size (w.alloc (.cells #[.int .i64 x, .int .i64 y, .slice F n f] 40)) W) => implCel x y F n f p false W h ((hr.carry B0).carry hW))
  have hgl : (gsF p false x y n n).length ≤ n := grs_len _ _ _ _
  have HGM : Hid (∀ k, k < (gsF p false x y n n).length → ((gsF p false x y n n).getD k []).length ≤ n) := fun k hk => grs_glen HOK.out (Nat.le_refl _) hk
  have HGI : Hid (∀ k, k < (gsF p false x y n n).length → ∀ b ∈ (gsF p false x y n n).getD k [], 0 ≤ b ∧ b < n) := fun k hk => grs_in HOK.out (Nat.le_refl _) hk
  have hnl := hlN_le x y (gsF p false x y n n) (gsF p false x y n n).length
  have v0 := V0.c0
  have v1 := V0.c1
  have v2 := V0.c2
  rw [h] at HI
  clear hr B0 V0 h hy hnn HOK
  generalize gsF p false x y n n = Gs at *
  go_enter Try.func32, Try.ntmps32
  go_wp2_with fail
  generalize w.alloc (.cells #[.int .i64 x, .int .i64 y, .slice F n f] 40) = a0 at *
  refine HI.out.mono ?_
  rintro e w1 ⟨rfl, hb⟩
  have B1 : Hid (Below w.heap.size w w1) := HB.out.trans (hb.out.mono HB.out.size)
  have HCE1 := Lib.hid (HCE.out w1 hb.out)
  have V1 := Lib.hid (HV.out.below hb.out)
  have u0 := V1.out.c0
  have u1 := V1.out.c1
  have u2 := V1.out.c2
  have ul := V1.out.lt
  clear HCE hb HI HB HV v0 v1 v2
  go_wp2_with fail
  refine HCE1.out.mono ?_
  rintro e w2 ⟨B, d, Ls, rfl, hS, hG, hb⟩
  have B2 : Hid (Below w.heap.size w w2) := B1.out.trans (hb.out.mono B1.out.size)
  have V2 := Lib.hid (V1.out.below hb.out)
  have HLL : Hid (Ls.length = Gs.length) := hG.out.len
  have hls : Ls.length ≤ 256 := by have := HLL.out; omega
  have hwl : w.heap.size < w1.heap.size := ul
  clear HCE1 hb V1 u0 u1 u2 ul
  rcases hS.out.cases with ⟨rfl, rfl, rfl⟩ | ⟨g, rfl⟩
  · have hz : Hid (hlN x y Gs Gs.length = 0) := by show _ = _; rw [← HLL.out]; rfl
    clear hS hG
    go_wp2_with (go_at_call 84; refine (delSNil _ _ _).mono ?_; rintro e w3 ⟨rfl, rfl⟩)
    go_ret2
    exact ⟨by rw [hz.out]; rfl, B2⟩
  · have hg := hS.out.lt _ rfl
    have HD := Lib.hid (delS g d w.heap.size _ _ x y F n f Gs Ls w2 V2.out (by have h1 : w1.heap.size ≤ g := hg.1; omega) HFV.out hS.out hG.out HGI.out HGM.out hls)
    have hgw : w.heap.size ≤ g := by have h1 : w1.heap.size ≤ g := hg.1; omega
    clear hS hG hg
    go_wp2_with (go_at_call 84; refine HD.out.mono ?_; rintro e w3 ⟨c3, rfl, hB3⟩)
    have HE := Lib.hid (ButA.below B2.out hB3.out B2.out.size (fun a ha => by injection ha with ha; subst ha; exact hgw))
    clear HD hB3
    go_wp2_with fail
    go_ret2
    exact ⟨rfl, HE⟩

set_option maxHeartbeats 8000000 in
theorem specHol (x y : Int) (F : Option Addr) (n f : Nat) (p : Nat → Bool) (w : World) (hn : n ≤ 1048576) (hr : RowV w w.heap.size F n (bo p)) (h : fvB x y n = true) :
    Calls Try.prog 31 #[.agg #[.int .i64 x, .int .i64 y, .slice F n f]] w fun e w' => e = .returned (.tuple #[.int .i64 (hlN x y (gsF p false x y n n) (gsF p false x y n n).length : Nat), .bool true]) ∧ Hid (Below w.heap.size w w') := by
  have B0 := below_var w x y F n f 40
  have V0 := varT_new w x y F n f 40
  have HI := Lib.hid (specIs w.heap.size x y F n f _ V0 hn)
  have HB := Lib.hid B0
  have HV := Lib.hid V0
  obtain ⟨⟨⟨hx1, hx2⟩, ⟨hy1, hy2⟩⟩, hnn, hn1, hn2⟩ := fvB_yes h
  have hok := nb_ok hx1 hnn
  have HED := Lib.hid (fun k (hk : k < (gsF p false x y n n).length) => edg_is (p := pqF p false) (k := k) hok hx1 hnn hk)
  change Hid (∀ k, k < (gsF p false x y n n).length → anyN (edgQ x y (gsF p false x y n n) k) n = hlB x y ((gsF p false x y n n).getD k [])) at HED
  have HSP := Lib.hid (fun (k : Nat) => specGrpF w.heap.size x y F n f p _ h (V0.drewN (m := k)) ((hr.carry B0).drewN (m := k)))
  have hgl : (gsF p false x y n n).length ≤ n := grs_len _ _ _ _
  have HDV : Hid (∀ i : Nat, i < n → 0 ≤ (i : Int) % x ∧ (i : Int) % x < x ∧ 0 ≤ (i : Int) / x ∧ (i : Int) / x ≤ i) := fun i hi => ⟨Int.emod_nonneg _ (by omega), Int.emod_lt_of_pos _ (by omega), Int.ediv_nonneg (by omega) (by omega), Int.ediv_le_self _ (by omega)⟩
  have hz : x ≠ 0 := by omega
  have hw1 : IntKind.i64.wrap (x - 1) = x - 1 := IntWalk.i64_in _ (by omega)
  have hw2 : IntKind.i64.wrap (y - 1) = y - 1 := IntWalk.i64_in _ (by omega)
  rw [h] at HI
  clear hr B0 V0 h hnn hok
  generalize gsF p false x y n n = Gs at *
  go_enter Try.func31, Try.ntmps31
  go_wp2_with fail
  refine HI.out.mono ?_
  rintro e w1 ⟨rfl, m1, rfl⟩
  go_wp2_with fail
  refine (HSP.out m1).mono ?_
  rintro e w2 ⟨A, c, Z, d, M, rfl, _, hR, _, hb⟩
  have B2 : Hid (Below w.heap.size w w2) := (belowN (n := m1) HB.out).trans (hb.out.mono HB.out.size)
  have V2 := Lib.hid ((HV.out.drewN (m := m1)).below hb.out)
  have R2 := Lib.hid hR.out.toRow
  have hszl := szL_len Gs
  rw [hszl]
  have hmk := run_mkB Gs.length (by omega)
  have M3 := Lib.hid (rowM_new w2 Gs.length (.bool false) 4)
  have B3 := Lib.hid (World.below_one2 w2 (.cells (madeCells #[.bool false] Gs.length) 4) (Nat.le_refl _))
  clear HSP hb hR HI HB HV hszl
  go_wp2_with fail
  clear hmk
  generalize w2.alloc (.cells (madeCells #[.bool false] Gs.length) 4) = w3 at *
  generalize hge : w2.heap.size = ge at *
  have HGE := Lib.hid hge
  clear hge
  go_loopw [23] (fun q wr => ∃ i : Nat, q = .int .i64 i ∧ i ≤ n ∧ Hid (RowM wr ge Gs.length (bo fun k => anyN (edgQ x y Gs k) i)) ∧ Hid (Below ge w2 wr)) (fun q _ => n - (intOf q).toNat)
  case atStart => exact ⟨0, rfl, Nat.zero_le _, M3, B3⟩
  case round =>
    clear M3 B3
    obtain ⟨i, rfl, hi, hM, hB⟩ := hrel
    by_cases hin : i < n
    · have hBw : Below w2.heap.size w2 wr := by rw [HGE.out]; exact hB.out
      have VR := V2.out.below hBw
      have v0 := VR.c0
      have v1 := VR.c1
      have vl := VR.lt
      obtain ⟨rb, ro, rfl, hrb, hrc⟩ := (R2.out.below (by rw [← HGE.out]; exact hBw)) (by omega)
      have c1 := hrc i hin
      unfold iv at c1
      try dsimp only at c1
      obtain ⟨a0, a1, b0, b1⟩ := HDV.out i hin
      have HBR0 : Hid (brB x y i = (((i : Int) % x == 0) || (((i : Int) / x == 0) || (((i : Int) % x == x - 1) || ((i : Int) / x == y - 1))))) := rfl
      have hnl := numG_lt (i : Int) Gs
      have hw3 : IntKind.i64.wrap ((i : Int) / x) = (i : Int) / x := IntWalk.i64_in _ (by omega)
      have HNO := Lib.hid (fun k h => edg_no (x := x) (y := y) (Gs := Gs) (i := i) (k := k) h)
      have HYE := Lib.hid (fun k s h h2 => edg_yes (x := x) (y := y) (Gs := Gs) (i := i) (k := k) (s := s) h h2)
      generalize numG Gs (i : Int) = num at *
      clear hrc VR hBw
      by_cases hneg : num < 0
      · have hng : ¬ 0 ≤ num := by omega
        have S : Hid (RowM wr ge Gs.length (bo fun k => anyN (edgQ x y Gs k) (i + 1))) := hM.out.ext fun j _ => by unfold bo; dsimp only; rw [HNO.out j (.inr hneg)]
        clear HNO HYE HBR0
        go_wp2_with fail
        go_roundw
        case rel => exact ⟨i + 1, by go_num, by omega, S, hB⟩
        case measure => simp [intOf]; omega
      · have hng : 0 ≤ num := by omega
        obtain ⟨s, hs⟩ := Int.eq_ofNat_of_zero_le hng
        subst hs
        have hsl : s < Gs.length := by omega
        have hd := hM.out.cell s hsl
        have hf := hM.out.free s hsl
        unfold bo at hd
        try dsimp only at hd
        cases ca : ((i : Int) % x == 0) <;> cases cb : ((i : Int) / x == 0) <;> cases cc : ((i : Int) % x == x - 1) <;> cases cd : ((i : Int) / x == y - 1)
        all_goals
          rw [ca, cb, cc, cd] at HBR0
          have HBR := Lib.hid HBR0.out
          simp only [Bool.or_true, Bool.or_false] at HBR
        · have S : Hid (RowM wr ge Gs.length (bo fun k => anyN (edgQ x y Gs k) (i + 1))) := hM.out.ext fun j _ => by unfold bo; dsimp only; rw [HNO.out j (.inl HBR.out)]
          clear HNO HYE HBR HBR0 hd hf
          go_wp2_with fail
          go_roundw
          case rel => exact ⟨i + 1, by go_num, by omega, S, hB⟩
          case measure => simp [intOf]; omega
        all_goals
          have S := Lib.hid ((hM.out.set (u := .bool true) hsl).ext (U := bo fun k => anyN (edgQ x y Gs k) (i + 1)) fun j _ => by
            unfold put bo
            dsimp only
            rw [HYE.out j s HBR.out rfl]
            by_cases e : j = s
            · rw [if_pos e, if_pos e]
            · rw [if_neg e, if_neg e])
          have B5 := Lib.hid (Below.setCell (p := ⟨ge, s, none⟩) hB.out (Nat.le_refl _) (.bool true))
          clear HNO HYE HBR HBR0 hM hB
          go_wp2_with fail
          go_roundw
          case rel => exact ⟨i + 1, by go_num, by omega, S, B5⟩
          case measure => simp [intOf]; omega
    · have ei : i = n := by omega
      subst ei
      have HM2 : Hid (RowM wr ge Gs.length (bo fun k => hlB x y (Gs.getD k []))) := hM.out.ext fun j hj => by unfold bo; dsimp only; rw [HED.out j hj]
      have HE : Hid (Below w.heap.size w wr) := B2.out.trans (hB.out.mono (by rw [← HGE.out]; exact B2.out.size))
      have hwe := HE
      clear hM hB
      go_wp2_with fail
      go_loopw [10, 70] (fun o q wq => ∃ k : Nat, q = .int .i64 k ∧ k ≤ Gs.length ∧ o = .int .i64 (hlN x y Gs k : Nat) ∧ wq = wr) (fun _ q _ => Gs.length - (intOf q).toNat)
      case atStart => exact ⟨0, rfl, Nat.zero_le _, rfl, rfl⟩
      case round =>
        obtain ⟨k, rfl, hk, rfl, rfl⟩ := hrel
        by_cases hkl : k < Gs.length
        · have hc := HM2.out.cell k hkl
          unfold bo at hc
          try dsimp only at hc
          have HN := Lib.hid (hlN_no (x := x) (y := y) (Gs := Gs) (k := k))
          have HY := Lib.hid (hlN_yes (x := x) (y := y) (Gs := Gs) (k := k))
          have hl := hlN_le x y Gs k
          cases hb : hlB x y (Gs.getD k [])
          · rw [hb] at hc
            have N := Lib.hid (HY.out hb)
            clear HN HY hb
            generalize hlN x y Gs k = q at *
            go_wp2
            go_roundw
            case rel => exact ⟨k + 1, by go_num, by omega, by rw [N.out]; go_num, by trivial⟩
            case measure => simp [intOf]; omega
          · rw [hb] at hc
            have N := Lib.hid (HN.out hb)
            clear HN HY hb
            generalize hlN x y Gs k = q at *
            go_wp2
            go_roundw
            case rel => exact ⟨k + 1, by go_num, by omega, by rw [N.out], by trivial⟩
            case measure => simp [intOf]; omega
        · have ek : k = Gs.length := by omega
          subst ek
          go_wp2
          go_ret2
          exact ⟨rfl, hwe⟩

theorem holBoth (x y : Int) (n : Nat) (p : Nat → Bool) (hn : n ≤ 1048576) : ∃ (s : Nat) (b : Bool),
    (∀ (W : World) (A : Option Addr) (c : Nat), RowV W W.heap.size A n (bo p) → Calls Try.prog 31 #[.agg #[.int .i64 x, .int .i64 y, .slice A n c]] W fun e w' => e = .returned (.tuple #[.int .i64 s, .bool b]) ∧ Hid (Below W.heap.size W w')) ∧
    (∀ (W : World) (A : Option Addr) (c : Nat), RowV W W.heap.size A n (bo p) → Calls Try.prog 32 #[.agg #[.int .i64 x, .int .i64 y, .slice A n c]] W fun e w' => e = .returned (.tuple #[.int .i64 s, .bool b]) ∧ Hid (Below W.heap.size W w')) := by
  cases hv : fvB x y n with
  | false => exact ⟨0, false, fun W A c _ => specHolNo x y A n c W hn hv, fun W A c _ => implHolNo x y A n c W hn hv⟩
  | true => exact ⟨_, true, fun W A c hr => specHol x y A n c p W hn hr hv, fun W A c hr => implHol x y A n c p W hn hr hv⟩

end Go.Proofs.Ytgiblioilpedfaa
