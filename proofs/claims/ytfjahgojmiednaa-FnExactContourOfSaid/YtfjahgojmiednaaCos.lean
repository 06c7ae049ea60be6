/-
  What is proved here: the places of the coast of a sheet, as the reference tells them, as a walk. Conditions: a valid sheet, a finite level.
-/
import Derived.Test.YtfjahgojmiednaaCop
import Derived.Test.YtfjahgojmiednaaVas
import Derived.Deep.RegionHeld3
namespace Go.Proofs.Ytfjahgojmiednaa
open Flt Go.RowKit
attribute [local go_sem] run_store_float
set_option linter.unusedVariables false

theorem isAppC {ops : Array Oper} {rest : List Oper} {o : Oper} {a : Act} {Q : Exit → Act → World → Prop} {w : World} (s x : Operand)
    (ho : o.op = .call { callee := .builtin .append, args := #[s, x], argTypes := #[38, 38] }) (h : wpList Try.prog ops Q (o :: rest) a w) : wpList Try.prog ops Q (o :: rest) a w := h
theorem gro_size {w a0 : World} {G : Nat} (h : Below a0.heap.size a0 w) (hG : G = a0.heap.size) : G ≤ w.heap.size := by rw [hG]; exact h.size

set_option maxHeartbeats 8000000 in
set_option maxRecDepth 1000000 in
theorem specCon (v : Nat) (x y : Int) (lv : Nat) (A : Option Addr) (c : Nat) (zs : List Nat) (w : World) (V : VarT w v x y A zs.length c) (hr : RowF w w.heap.size A zs) (h1 : shB x y zs = true) (hlv : finB .f32 lv = true) :
    Calls Try.prog 48 #[.pointer (some ⟨v, 0, none⟩), .float .f32 lv] w fun e w' => ∃ A' c' L, e = .returned (.slice A' L.length c') ∧ Hid (ToldC x.toNat zs lv (coM x y zs lv) L) ∧ Hid (GroC w' w.heap.size L A' c') ∧ Hid (Below w.heap.size w w') := by
  obtain ⟨⟨hx1, hx2⟩, ⟨hy1, hy2⟩, hn, hm, hf⟩ := pr_sh h1
  have hn0 : 0 < zs.length := by
    have := Int.mul_pos (show 0 < x by omega) (show 0 < y by omega)
    omega
  obtain ⟨b, off, rfl, hb, hcell⟩ := hr hn0
  have HF := Lib.hid hf
  have HLV := Lib.hid hlv
  have HA0 := Lib.hid (fun k => co_hno (k := k) zs lv hx1)
  have HA1 := Lib.hid (fun k => co_hyes (k := k) zs lv hx1)
  have HV0 := Lib.hid (fun k => co_vno (k := k) zs lv hx1 hy1)
  have HV1 := Lib.hid (fun k => co_vyes (k := k) zs lv hx1 hy1)
  have HI := Lib.hid (fun k (hk : k < zs.length) => pr_hin (k := k) (lg := 1) hx1 (by omega) hk hn)
  have HJ := Lib.hid (fun k (hk : k < zs.length) => pr_vin (k := k) (lg := 1) hx1 (by omega) hk hn)
  have HZ0 := Lib.hid (coV_zero x.toNat y.toNat zs lv)
  have HLA : Hid (∀ k, k ≤ zs.length → (coA x.toNat zs lv k).length ≤ 1048576) := fun k hk => Nat.le_trans (coA_le _ _ _ _) (by omega)
  have HLB : Hid (∀ k, k ≤ zs.length → (coV x.toNat y.toNat zs lv k).length ≤ 1048576) := fun k hk => Nat.le_trans (coV_le _ _ _ _ _) (by omega)
  have HM : Hid (∀ k : Nat, ((k % x.toNat : Nat) : Int) = (k : Int) % x ∧ ((k / x.toNat : Nat) : Int) = (k : Int) / x) := fun k => by
    obtain ⟨W, rfl⟩ := Int.eq_ofNat_of_zero_le (show 0 ≤ x by omega)
    rw [Int.toNat_natCast]
    exact ⟨Int.natCast_emod _ _, Int.natCast_ediv _ _⟩
  have B0 : Below w.heap.size w (w.alloc (.cells #[] 73)) := (Below.refl _ _).alloc (Nat.le_refl _) _
  have G0 : Hid (GroC (w.alloc (.cells #[] 73)) w.heap.size [] (some ⟨w.heap.size, 0, none⟩) 0) := GroC.lit w (Nat.le_refl _)
  have HC : Hid (∀ wr, Below w.heap.size w wr → ∀ j, j < zs.length → wr.cell? ⟨b, off + j, none⟩ = some (.float .f32 (at0 zs j))) := fun wr h j hj => by rw [h.cell (p := ⟨b, off + j, none⟩) hb]; exact hcell j hj
  obtain ⟨hv, c0, c1, c2⟩ := V
  have HVV : Hid (∀ wr, Below w.heap.size w wr → wr.cell? ⟨v, 0, none⟩ = some (.int .i64 x) ∧ wr.cell? ⟨v, 1, none⟩ = some (.int .i64 y) ∧ wr.cell? ⟨v, 2, none⟩ = some (.slice (some ⟨b, off, none⟩) zs.length c)) := fun wr h => by
    rw [h.cell (p := ⟨v, 0, none⟩) hv, h.cell (p := ⟨v, 1, none⟩) hv, h.cell (p := ⟨v, 2, none⟩) hv]; exact ⟨c0, c1, c2⟩
  have hwm : IntKind.i64.wrap (x * y) = (zs.length : Int) := by rw [IntWalk.i64_in _ (by omega)]; exact hn.symm
  have hz : x ≠ 0 := by omega
  have hn289 : zs.length ≤ 289 := by omega
  have HB0 := Lib.hid B0
  have EM : Hid (coV x.toNat y.toNat zs lv zs.length = coM x y zs lv) := rfl
  clear hcell hf h1 hlv hr hn hm hb hv c0 c1 c2 B0
  go_enter Try.func48, Try.ntmps48
  go_wp2_with fail
  generalize hGw : w.heap.size = G at *
  have HG := Lib.hid hGw
  clear hGw
  go_loopw [5, 6] (fun o i wr => ∃ (k : Nat) (A' : Option Addr) (c' : Nat) (L : List (Nat × Nat)), k ≤ 2 ∧ i = .int .i64 k ∧ o = .slice A' L.length c' ∧ Hid (ToldC x.toNat zs lv (match k with | 0 => [] | 1 => coA x.toNat zs lv zs.length | _ => coV x.toNat y.toNat zs lv zs.length) L) ∧ Hid (GroC wr G L A' c') ∧ Hid (Below G w wr)) (fun _ i _ => 2 - (intOf i).toNat)
  case atStart => exact ⟨0, _, _, [], by omega, rfl, rfl, ToldC.nil _ _ _, G0, HB0⟩
  case round =>
    obtain ⟨k, A', c', L, hk, rfl, rfl, hT, hO, hB⟩ := hrel
    by_cases hlt : k < 2
    · match k, hlt with
      | 0, _ =>
        have hT2 : Hid (ToldC x.toNat zs lv (coA x.toNat zs lv 0) L) := by show ToldC _ _ _ _ _; rw [coA_zero]; exact hT.out
        clear hT
        generalize hkv : ((0 : Nat) : Int) = kv
        have HKV := Lib.hid hkv
        obtain ⟨hkv0, hkv9⟩ : 0 ≤ kv ∧ kv ≤ 2 := by omega
        obtain ⟨kq0, kq1, kq2⟩ : (kv == 0) = true ∧ (kv == 1) = false ∧ decide (kv < 2) = true := by subst hkv; exact ⟨rfl, rfl, rfl⟩
        clear hkv
        go_wp2_with fail
        go_loopw [5, 7] (fun o i wr => ∃ (k : Nat) (A' : Option Addr) (c' : Nat) (L : List (Nat × Nat)), k ≤ zs.length ∧ i = .int .i64 k ∧ o = .slice A' L.length c' ∧ Hid (ToldC x.toNat zs lv (coA x.toNat zs lv k) L) ∧ Hid (GroC wr G L A' c') ∧ Hid (Below G w wr)) (fun _ i _ => zs.length - (intOf i).toNat)
        case atStart => exact ⟨0, _, _, L, Nat.zero_le _, rfl, rfl, hT2, hO, hB⟩
        case round =>
          clear hT2 hO hB
          obtain ⟨k, A', c', L, hk, rfl, rfl, hT, hO, hB⟩ := hrel
          obtain ⟨v0, v1, v2⟩ := HVV.out wr hB.out
          by_cases hlt : k < zs.length
          · have r0 := Int.emod_nonneg (k : Int) hz
            have r1 := Int.emod_lt_of_pos (k : Int) (show 0 < x by omega)
            have d0 : 0 ≤ (k : Int) / x := Int.ediv_nonneg (by omega) (by omega)
            have d1 : (k : Int) / x ≤ k := Int.ediv_le_self _ (by omega)
            have hw2 : IntKind.i64.wrap ((k : Int) % x + 1) = (k : Int) % x + 1 := IntWalk.i64_in _ (by omega)
            have hw3 : IntKind.i64.wrap ((k : Int) / x) = (k : Int) / x := IntWalk.i64_in _ (by omega)
            have hw4 : IntKind.i64.wrap ((k : Int) / x + 1) = (k : Int) / x + 1 := IntWalk.i64_in _ (by omega)
            by_cases hh : (k : Int) % x + 1 < x
            · have hin : k + 1 < zs.length := HI.out k hlt hh
              have HS := Lib.hid (HA1.out k hh)
              have e1 := HC.out wr hB.out k hlt
              have hje : ((k + 1 : Nat) : Int) = (k : Int) + 1 := by omega
              generalize k + 1 = j at hin HS hje
              have hw1 : IntKind.i64.wrap ((k : Int) + 1) = (j : Int) := by rw [← hje]; exact IntWalk.i64_in _ (by omega)
              have HJE := Lib.hid hje
              have e2 := HC.out wr hB.out j hin
              have ha := finAll_at HF.out hlt
              have hbj := finAll_at HF.out hin
              obtain ⟨da, hda, _⟩ := dif_gt HLV.out ha
              obtain ⟨db, hdb, _⟩ := dif_gt hbj ha
              have hpa := run_f32 hda
              have hpb := run_f32 hdb
              have HQ : Hid (shrO zs lv (k, j, false) = fop .quo .f32 (can .f32 da) (can .f32 db)) := by show _ = _; unfold shrO; rw [fop_can, fop_can, hda, hdb, can_num (floatBits_num hda), can_num (floatBits_num hdb)]
              have EP : Hid (ptO x.toNat zs lv (k, j, false) = (fop .add .f32 (can .f32 (floatOfInt .f32 ((k : Int) % x))) (fop .quo .f32 (can .f32 da) (can .f32 db)), can .f32 (floatOfInt .f32 ((k : Int) / x)))) := by
                show _ = _
                unfold ptO
                obtain ⟨m1, m2⟩ := HM.out k
                rw [HQ.out]
                show (fop .add .f32 (can .f32 (fI (k % x.toNat))) (fop .quo .f32 (can .f32 da) (can .f32 db)), can .f32 (fI (k / x.toNat))) = _
                unfold fI
                rw [m1, m2]
              have hT1 := hT
              have hLn := hT.out.len
              have hLb := HLA.out k hk
              rw [← hLn] at hLb
              have hGs : G ≤ wr.heap.size := by rw [← HG.out]; exact hB.out.size
              clear hda hdb ha hbj hLn hje
              cases ga : (FloatKind.f32.format.order (at0 zs k) lv == some .gt) <;> cases gb : (FloatKind.f32.format.order (at0 zs j) lv == some .gt)
              · have S : Hid (coA x.toNat zs lv (j) = coA x.toNat zs lv k) := by show _ = _; rw [HS.out]; unfold hiB; rw [ga, gb]; rfl
                clear HS HQ EP
                go_wp2_with fail
                go_quiet (fail)
                go_wp2_with fail
                go_roundw
                case rel => exact ⟨j, _, _, L, by omega, by first | rfl | go_num, rfl, by rw [S.out]; exact hT, hO.out.dn, belowN hB.out⟩
                case measure => have := HJE.out; simp [intOf] <;> omega
              · have S : Hid (coA x.toNat zs lv (j) = coA x.toNat zs lv k ++ [(k, j, false)]) := by show _ = _; rw [HS.out]; unfold hiB; rw [ga, gb]; rfl
                clear HS
                go_wp2_with fail
                go_quiet (fail)
                go_wp2_with (first | (at_builtin; refine isAppC _ _ rfl ?_; refine wpGroC rfl _ _ rfl (y := (_, floatOfInt .f32 ((k : Int) / x))) (by exact hO.out.dn) rfl rfl (by first | rfl | simp [Act.eval]) hLb (by exact hGs) ?_; intro g5 c5 w5 O5 B5; have HO5 := Lib.hid O5; have HB5 := Lib.hid B5; clear O5 B5) | ((with_reducible refine upon_bin rfl ?_); intro _ _ _ _))
                rename_i r1 m1 w1 er1 r2 m2 w2 er2
                go_roundw
                case rel => exact ⟨j, _, _, L ++ [(r2, floatOfInt .f32 ((k : Int) / x))], by omega, by first | rfl | go_num, by rw [List.length_append]; rfl, by rw [S.out]; exact hT.out.snoc (by rw [EP.out]; show (can .f32 r2, can .f32 (floatOfInt .f32 ((k : Int) / x))) = _; rw [er2.out, er1.out]), HO5, (belowN hB.out).trans HB5.out⟩
                case measure => have := HJE.out; simp [intOf] <;> omega
              · have S : Hid (coA x.toNat zs lv (j) = coA x.toNat zs lv k ++ [(k, j, false)]) := by show _ = _; rw [HS.out]; unfold hiB; rw [ga, gb]; rfl
                clear HS
                go_wp2_with fail
                go_quiet (fail)
                go_wp2_with (first | (at_builtin; refine isAppC _ _ rfl ?_; refine wpGroC rfl _ _ rfl (y := (_, floatOfInt .f32 ((k : Int) / x))) (by exact hO.out.dn) rfl rfl (by first | rfl | simp [Act.eval]) hLb (by exact hGs) ?_; intro g5 c5 w5 O5 B5; have HO5 := Lib.hid O5; have HB5 := Lib.hid B5; clear O5 B5) | ((with_reducible refine upon_bin rfl ?_); intro _ _ _ _))
                rename_i r1 m1 w1 er1 r2 m2 w2 er2
                go_roundw
                case rel => exact ⟨j, _, _, L ++ [(r2, floatOfInt .f32 ((k : Int) / x))], by omega, by first | rfl | go_num, by rw [List.length_append]; rfl, by rw [S.out]; exact hT.out.snoc (by rw [EP.out]; show (can .f32 r2, can .f32 (floatOfInt .f32 ((k : Int) / x))) = _; rw [er2.out, er1.out]), HO5, (belowN hB.out).trans HB5.out⟩
                case measure => have := HJE.out; simp [intOf] <;> omega
              · have S : Hid (coA x.toNat zs lv (j) = coA x.toNat zs lv k) := by show _ = _; rw [HS.out]; unfold hiB; rw [ga, gb]; rfl
                clear HS HQ EP
                go_wp2_with fail
                go_quiet (fail)
                go_wp2_with fail
                go_roundw
                case rel => exact ⟨j, _, _, L, by omega, by first | rfl | go_num, rfl, by rw [S.out]; exact hT, hO.out.dn, belowN hB.out⟩
                case measure => have := HJE.out; simp [intOf] <;> omega
            · have S : Hid (coA x.toNat zs lv (k + 1) = coA x.toNat zs lv k) := HA0.out k (by omega)
              have hw1 : IntKind.i64.wrap ((k : Int) + 1) = (k : Int) + 1 := IntWalk.i64_in _ (by omega)
              have hw5 : IntKind.i64.wrap ((k : Int) + x) = (k : Int) + x := IntWalk.i64_in _ (by omega)
              go_wp2_with fail
              go_quiet (fail)
              go_wp2_with fail
              go_roundw
              case rel => exact ⟨k + 1, _, _, L, by omega, by go_num, rfl, by rw [S.out]; exact hT, hO.out.dn, belowN hB.out⟩
              case measure => simp [intOf]; omega
          · have ek : k = zs.length := by omega
            subst ek
            clear hlt hk
            go_wp2_with fail
            go_quiet (fail)
            go_wp2_with fail
            go_roundw
            case rel => exact ⟨1, _, _, L, by omega, by rw [← HKV.out]; rfl, rfl, hT, hO.out.dn, belowN hB.out⟩
            case measure => rw [← HKV.out]; simp [intOf]
      | 1, _ =>
        have hT2 : Hid (ToldC x.toNat zs lv (coV x.toNat y.toNat zs lv 0) L) := by show ToldC _ _ _ _ _; rw [HZ0.out]; exact hT.out
        clear hT
        generalize hkv : ((1 : Nat) : Int) = kv
        have HKV := Lib.hid hkv
        obtain ⟨hkv0, hkv9⟩ : 0 ≤ kv ∧ kv ≤ 2 := by omega
        obtain ⟨kq0, kq1, kq2⟩ : (kv == 0) = false ∧ (kv == 1) = true ∧ decide (kv < 2) = true := by subst hkv; exact ⟨rfl, rfl, rfl⟩
        clear hkv
        go_wp2_with fail
        go_loopw [5, 7] (fun o i wr => ∃ (k : Nat) (A' : Option Addr) (c' : Nat) (L : List (Nat × Nat)), k ≤ zs.length ∧ i = .int .i64 k ∧ o = .slice A' L.length c' ∧ Hid (ToldC x.toNat zs lv (coV x.toNat y.toNat zs lv k) L) ∧ Hid (GroC wr G L A' c') ∧ Hid (Below G w wr)) (fun _ i _ => zs.length - (intOf i).toNat)
        case atStart => exact ⟨0, _, _, L, Nat.zero_le _, rfl, rfl, hT2, hO, hB⟩
        case round =>
          clear hT2 hO hB
          obtain ⟨k, A', c', L, hk, rfl, rfl, hT, hO, hB⟩ := hrel
          obtain ⟨v0, v1, v2⟩ := HVV.out wr hB.out
          by_cases hlt : k < zs.length
          · have r0 := Int.emod_nonneg (k : Int) hz
            have r1 := Int.emod_lt_of_pos (k : Int) (show 0 < x by omega)
            have d0 : 0 ≤ (k : Int) / x := Int.ediv_nonneg (by omega) (by omega)
            have d1 : (k : Int) / x ≤ k := Int.ediv_le_self _ (by omega)
            have hw2 : IntKind.i64.wrap ((k : Int) % x + 1) = (k : Int) % x + 1 := IntWalk.i64_in _ (by omega)
            have hw3 : IntKind.i64.wrap ((k : Int) / x) = (k : Int) / x := IntWalk.i64_in _ (by omega)
            have hw4 : IntKind.i64.wrap ((k : Int) / x + 1) = (k : Int) / x + 1 := IntWalk.i64_in _ (by omega)
            by_cases hh : (k : Int) / x + 1 < y
            · obtain ⟨hin0, hjn0⟩ := HJ.out k hlt hh
              have hjn : ((k + x.toNat : Nat) : Int) = (k : Int) + x := by omega
              have hin : k + x.toNat < zs.length := by have e : (1 : Int).toNat * x.toNat = x.toNat := Nat.one_mul _; rw [e] at hin0; exact hin0
              clear hin0 hjn0
              have HS := Lib.hid (HV1.out k hh)
              have e1 := HC.out wr hB.out k hlt
              have hje : ((k + x.toNat : Nat) : Int) = (k : Int) + x := by omega
              generalize k + x.toNat = j at hin HS hje
              have hw1 : IntKind.i64.wrap ((k : Int) + 1) = (k : Int) + 1 := IntWalk.i64_in _ (by omega)
              have hw5 : IntKind.i64.wrap ((k : Int) + x) = (j : Int) := by rw [← hje]; exact IntWalk.i64_in _ (by omega)
              have HJE := Lib.hid hje
              have e2 := HC.out wr hB.out j hin
              have ha := finAll_at HF.out hlt
              have hbj := finAll_at HF.out hin
              obtain ⟨da, hda, _⟩ := dif_gt HLV.out ha
              obtain ⟨db, hdb, _⟩ := dif_gt hbj ha
              have hpa := run_f32 hda
              have hpb := run_f32 hdb
              have HQ : Hid (shrO zs lv (k, j, true) = fop .quo .f32 (can .f32 da) (can .f32 db)) := by show _ = _; unfold shrO; rw [fop_can, fop_can, hda, hdb, can_num (floatBits_num hda), can_num (floatBits_num hdb)]
              have EP : Hid (ptO x.toNat zs lv (k, j, true) = (can .f32 (floatOfInt .f32 ((k : Int) % x)), fop .add .f32 (can .f32 (floatOfInt .f32 ((k : Int) / x))) (fop .quo .f32 (can .f32 da) (can .f32 db)))) := by
                show _ = _
                unfold ptO
                obtain ⟨m1, m2⟩ := HM.out k
                rw [HQ.out]
                show (can .f32 (fI (k % x.toNat)), fop .add .f32 (can .f32 (fI (k / x.toNat))) (fop .quo .f32 (can .f32 da) (can .f32 db))) = _
                unfold fI
                rw [m1, m2]
              have hT1 := hT
              have hLn := hT.out.len
              have hLb := HLB.out k hk
              rw [← hLn] at hLb
              have hGs : G ≤ wr.heap.size := by rw [← HG.out]; exact hB.out.size
              clear hda hdb ha hbj hLn hje
              cases ga : (FloatKind.f32.format.order (at0 zs k) lv == some .gt) <;> cases gb : (FloatKind.f32.format.order (at0 zs j) lv == some .gt)
              · have S : Hid (coV x.toNat y.toNat zs lv (k + 1) = coV x.toNat y.toNat zs lv k) := by show _ = _; rw [HS.out]; unfold hiB; rw [ga, gb]; rfl
                clear HS HQ EP
                go_wp2_with fail
                go_quiet (fail)
                go_wp2_with fail
                go_roundw
                case rel => exact ⟨k + 1, _, _, L, by omega, by first | rfl | go_num, rfl, by rw [S.out]; exact hT, hO.out.dn, belowN hB.out⟩
                case measure => have := HJE.out; simp [intOf] <;> omega
              · have S : Hid (coV x.toNat y.toNat zs lv (k + 1) = coV x.toNat y.toNat zs lv k ++ [(k, j, true)]) := by show _ = _; rw [HS.out]; unfold hiB; rw [ga, gb]; rfl
                clear HS
                go_wp2_with fail
                go_quiet (fail)
                go_wp2_with (first | (at_builtin; refine isAppC _ _ rfl ?_; refine wpGroC rfl _ _ rfl (y := (floatOfInt .f32 ((k : Int) % x), _)) (by exact hO.out.dn) rfl rfl (by first | rfl | simp [Act.eval]) hLb (by exact hGs) ?_; intro g5 c5 w5 O5 B5; have HO5 := Lib.hid O5; have HB5 := Lib.hid B5; clear O5 B5) | ((with_reducible refine upon_bin rfl ?_); intro _ _ _ _))
                rename_i r1 m1 w1 er1 r2 m2 w2 er2
                go_roundw
                case rel => exact ⟨k + 1, _, _, L ++ [(floatOfInt .f32 ((k : Int) % x), r2)], by omega, by first | rfl | go_num, by rw [List.length_append]; rfl, by rw [S.out]; exact hT.out.snoc (by rw [EP.out]; show (can .f32 (floatOfInt .f32 ((k : Int) % x)), can .f32 r2) = _; rw [er2.out, er1.out]), HO5, (belowN hB.out).trans HB5.out⟩
                case measure => have := HJE.out; simp [intOf] <;> omega
              · have S : Hid (coV x.toNat y.toNat zs lv (k + 1) = coV x.toNat y.toNat zs lv k ++ [(k, j, true)]) := by show _ = _; rw [HS.out]; unfold hiB; rw [ga, gb]; rfl
                clear HS
                go_wp2_with fail
                go_quiet (fail)
                go_wp2_with (first | (at_builtin; refine isAppC _ _ rfl ?_; refine wpGroC rfl _ _ rfl (y := (floatOfInt .f32 ((k : Int) % x), _)) (by exact hO.out.dn) rfl rfl (by first | rfl | simp [Act.eval]) hLb (by exact hGs) ?_; intro g5 c5 w5 O5 B5; have HO5 := Lib.hid O5; have HB5 := Lib.hid B5; clear O5 B5) | ((with_reducible refine upon_bin rfl ?_); intro _ _ _ _))
                rename_i r1 m1 w1 er1 r2 m2 w2 er2
                go_roundw
                case rel => exact ⟨k + 1, _, _, L ++ [(floatOfInt .f32 ((k : Int) % x), r2)], by omega, by first | rfl | go_num, by rw [List.length_append]; rfl, by rw [S.out]; exact hT.out.snoc (by rw [EP.out]; show (can .f32 (floatOfInt .f32 ((k : Int) % x)), can .f32 r2) = _; rw [er2.out, er1.out]), HO5, (belowN hB.out).trans HB5.out⟩
                case measure => have := HJE.out; simp [intOf] <;> omega
              · have S : Hid (coV x.toNat y.toNat zs lv (k + 1) = coV x.toNat y.toNat zs lv k) := by show _ = _; rw [HS.out]; unfold hiB; rw [ga, gb]; rfl
                clear HS HQ EP
                go_wp2_with fail
                go_quiet (fail)
                go_wp2_with fail
                go_roundw
                case rel => exact ⟨k + 1, _, _, L, by omega, by first | rfl | go_num, rfl, by rw [S.out]; exact hT, hO.out.dn, belowN hB.out⟩
                case measure => have := HJE.out; simp [intOf] <;> omega
            · have S : Hid (coV x.toNat y.toNat zs lv (k + 1) = coV x.toNat y.toNat zs lv k) := HV0.out k (by omega)
              have hw1 : IntKind.i64.wrap ((k : Int) + 1) = (k : Int) + 1 := IntWalk.i64_in _ (by omega)
              have hw5 : IntKind.i64.wrap ((k : Int) + x) = (k : Int) + x := IntWalk.i64_in _ (by omega)
              go_wp2_with fail
              go_quiet (fail)
              go_wp2_with fail
              go_roundw
              case rel => exact ⟨k + 1, _, _, L, by omega, by go_num, rfl, by rw [S.out]; exact hT, hO.out.dn, belowN hB.out⟩
              case measure => simp [intOf]; omega
          · have ek : k = zs.length := by omega
            subst ek
            clear hlt hk
            go_wp2_with fail
            go_quiet (fail)
            go_wp2_with fail
            go_roundw
            case rel => exact ⟨2, _, _, L, by omega, by rw [← HKV.out]; rfl, rfl, hT, hO.out.dn, belowN hB.out⟩
            case measure => rw [← HKV.out]; simp [intOf]
    · have ek : k = 2 := by omega
      subst ek
      go_wp2_with fail
      go_ret
      exact ⟨_, _, L, rfl, by rw [← EM.out]; exact hT, by rw [HG.out]; exact hO, by rw [HG.out]; exact hB⟩

end Go.Proofs.Ytfjahgojmiednaa
