/-
  What is proved here: slices.DeleteFunc over a row of pairs, with the program's test of the coast, as a walk. Conditions: at most 1048576 pairs, from one on.
-/
import Derived.Test.YtfjahgojmiednaaCoc
namespace Go.Proofs.Ytfjahgojmiednaa
open Flt Go.RowKit
attribute [local go_sem] run_store_float
set_option linter.unusedVariables false

theorem below_cells {lo b : Nat} (h1 : lo ≤ b) : ∀ (vs : List Value) (o : Nat) (a w : World), Below lo a w → Below lo a (w.setCells b o vs)
  | [], _, _, _, h => h
  | v :: r, o, a, w, h => below_cells h1 r (o + 1) a _ (Below.setCell (p := ⟨b, o, none⟩) h h1 v)
theorem PRow.put {w : World} {lo g n W i : Nat} {zs : List Nat} {f f' : Nat → Nat × Nat × Bool} {p : Nat × Nat × Bool} (h : PRow w lo g n W zs f) (hi : i < n) (hf : ∀ m, f' m = if m = i then p else f m) : PRow (w.setCells g (i * 5) (pcA W zs p).toList) lo g n W zs f' := by
  have hl : (pcA W zs p).toList.length = 5 := rfl
  refine ⟨h.lo, by have := (below_cells (Nat.le_refl g) (pcA W zs p).toList (i * 5) w w (Below.refl _ _)).size; exact Nat.lt_of_lt_of_le h.lt this, fun m r hm hr => ?_, fun m r hm hr => by rw [World.frozen?_setCells]; exact h.free m r hm hr⟩
  rw [hf m]
  by_cases e : m = i
  · subst e
    rw [if_pos rfl]
    rw [World.cell?_setCells_in g _ _ _ (fun j hj => by rw [h.cell m j hm (by omega)]; rw [hl] at hj; rcases j with _ | _ | _ | _ | _ | j <;> first | rfl | omega) r (by rw [hl]; exact hr)]
    rw [← Array.getElem?_toList, List.getElem?_eq_getElem]
  · rw [if_neg e, World.cell?_setCells_out g _ _ _ _ (fun _ _ => by rw [hl]; show m * 5 + r < i * 5 ∨ i * 5 + 5 ≤ m * 5 + r; omega)]
    exact h.cell m r hm hr
theorem zc_len (n : Nat) : (Builtin.zeroCells (Value.agg #[.int .i64 0, .int .i64 0, .bool false, .float .f32 0, .float .f32 0]).cells n).toList.length = n * 5 := by
  simp [Builtin.zeroCells, Value.cells]
theorem zc_one (n : Nat) : ∀ v ∈ (Builtin.zeroCells (Value.agg #[.int .i64 0, .int .i64 0, .bool false, .float .f32 0, .float .f32 0]).cells n).toList, v.oneCell' = true := by
  intro v hv
  simp only [Builtin.zeroCells, Value.cells, Array.toList_map, List.mem_map] at hv
  obtain ⟨i, _, rfl⟩ := hv
  have h5 : i % 5 < 5 := Nat.mod_lt _ (by decide)
  show (#[Value.int .i64 0, .int .i64 0, .bool false, .float .f32 0, .float .f32 0][i % 5]!).oneCell' = true
  generalize i % 5 = m at h5
  rcases m with _ | _ | _ | _ | _ | m <;> first | rfl | omega
theorem run_clear_pairs (w : World) (b o n c : Nat) (hn : 0 < n)
    (hc : ∀ j, j < n * 5 → (w.cell? ⟨b, o + j, none⟩).isSome = true) (hf : ∀ j, j < n * 5 → w.frozen? ⟨b, o + j, none⟩ = false) :
    ∃ vs : List Value, ∀ ty, (Builtin.clear_ #[57] ty #[.slice (some ⟨b, o, none⟩) n c]).run Try.prog w = .ok (.tuple #[]) (w.setCells b o vs) := by
  have hst := run_storeCells_cells (P := Try.prog) b o (Builtin.zeroCells (Value.agg #[.int .i64 0, .int .i64 0, .bool false, .float .f32 0, .float .f32 0]).cells n).toList 0 w (by rw [zc_len]; simpa using hc) (by rw [zc_len]; simpa using hf) (zc_one n)
  rw [Nat.add_zero] at hst
  generalize hv : (Builtin.zeroCells (Value.agg #[.int .i64 0, .int .i64 0, .bool false, .float .f32 0, .float .f32 0]).cells n).toList = vs at hst
  refine ⟨vs, fun ty => ?_⟩
  obtain ⟨m, rfl⟩ : ∃ m, n = m + 1 := ⟨n - 1, by omega⟩
  simp [Builtin.clear_, run_underlying (Try.underlying57), hv, hst]

theorem var5 {w w' : World} {v0 v1 v2 v3 v4 : Value} {t : TypeId} (hb : Below (w.alloc (.cells #[v0, v1, v2, v3, v4] t)).heap.size (w.alloc (.cells #[v0, v1, v2, v3, v4] t)) w') :
    w'.cell? ⟨w.heap.size, 0, none⟩ = some v0 ∧ w'.cell? ⟨w.heap.size, 1, none⟩ = some v1 ∧ w'.cell? ⟨w.heap.size, 2, none⟩ = some v2 ∧ w'.cell? ⟨w.heap.size, 3, none⟩ = some v3 ∧ w'.cell? ⟨w.heap.size, 4, none⟩ = some v4 := by
  have hlt : w.heap.size < (w.alloc (.cells #[v0, v1, v2, v3, v4] t)).heap.size := by simp
  rw [hb.cell (p := ⟨w.heap.size, 0, none⟩) hlt, hb.cell (p := ⟨w.heap.size, 1, none⟩) hlt, hb.cell (p := ⟨w.heap.size, 2, none⟩) hlt, hb.cell (p := ⟨w.heap.size, 3, none⟩) hlt, hb.cell (p := ⟨w.heap.size, 4, none⟩) hlt]
  refine ⟨?_, ?_, ?_, ?_, ?_⟩ <;> simp [World.cell?, World.alloc, -World.alloc_eq]

set_option maxHeartbeats 8000000 in
set_option maxRecDepth 100000 in
theorem delP (Z lv lo g c W : Nat) (zs : List Nat) (L : List (Nat × Nat × Bool)) (w : World) (h : LevV w Z lv) (hZ : Z < lo) (hlo : lo ≤ w.heap.size) (hr : PRow w lo g L.length W zs (atP L)) (hn : L.length ≤ 1048576) (hcx : L.length ≤ c) :
    Calls Try.prog 82 #[.slice (some ⟨g, 0, none⟩) L.length c, .func (.func 83) #[] #[.pointer (some ⟨Z, 0, none⟩)]] w fun e w' => ∃ c', e = .returned (.slice (some ⟨g, 0, none⟩) (L.filter (cpB zs lv)).length c') ∧ Hid (PRow w' lo g (L.filter (cpB zs lv)).length W zs (atP (L.filter (cpB zs lv)))) ∧ Hid (Below lo w w') := by
  obtain ⟨R, hR, hall, hend⟩ := first_not (fun t => cpB zs lv (atP L t)) L.length
  have HX := Lib.hid (idxP Z lv lo g c W R zs L w h hr hn hR hall hend)
  have HR := Lib.hid hr
  have HH := Lib.hid h
  have KE := Lib.hid (kpP_end (cpB zs lv) L)
  by_cases hlt : R < L.length
  · rw [if_pos hlt] at HX
    have k1 := kpP_no hlt (hend hlt)
    have k2 := kpP_all (q := cpB zs lv) (Nat.le_of_lt hlt) hall
    have K0 : Hid ((kpP (cpB zs lv) L (R + 1)).length = R) := by show _ = _; rw [k1, k2, List.length_take]; omega
    have S0 : Hid (PRow w lo g L.length W zs (movP (cpB zs lv) L (R + 1))) := hr.ext fun m _ => by rw [movP_no hlt (hend hlt)]; exact movP_start (Nat.le_of_lt hlt) hall
    have hR1 : ((R : Int) == -1) = false := beq_eq_false_iff_ne.2 (by omega)
    clear hall hend k1 k2 hr h
    go_enter Try.func82, Try.ntmps82
    go_wp2_with (go_at_call 100; refine HX.out.mono ?_; rintro e wq ⟨rfl, hbq⟩)
    have SQ := Lib.hid (S0.out.below hbq.out)
    have BQ : Hid (Below lo w wq) := hbq.out.mono hlo
    clear S0 hbq HX
    go_loopw [5, 6] (fun a b wr => ∃ (i j : Nat), a = .int .i64 i ∧ b = .int .i64 j ∧ j ≤ L.length ∧ i < j ∧ Hid ((kpP (cpB zs lv) L j).length = i) ∧ Hid (PRow wr lo g L.length W zs (movP (cpB zs lv) L j)) ∧ Hid (Below lo w wr)) (fun _ b _ => L.length - (intOf b).toNat)
    case atStart => exact ⟨R, R + 1, rfl, by go_num, by omega, by omega, K0, SQ, BQ⟩
    case round =>
      clear SQ BQ K0
      obtain ⟨i, j, rfl, rfl, hj, hij, hK, hS, hB⟩ := hrel
      have hlr : lo ≤ wr.heap.size := Nat.le_trans hlo hB.out.size
      by_cases hjl : j < L.length
      · have hv : movP (cpB zs lv) L j j = atP L j := movP_here (by rw [hK.out]; omega)
        have hcj := hS.out.at hjl
        rw [hv] at hcj
        obtain ⟨d0, d1, d2, d3, d4⟩ := hcj
        have HY := Lib.hid (fun h => movP_put (q := cpB zs lv) (m := 0) hjl h)
        have HN := Lib.hid (fun h m => movP_no (q := cpB zs lv) (m := m) hjl h)
        have HP := Lib.hid (fun h m => movP_put (q := cpB zs lv) (m := m) hjl h)
        have HKY := Lib.hid (fun h => kpP_yes (q := cpB zs lv) hjl h)
        have HKN := Lib.hid (fun h => kpP_no (q := cpB zs lv) hjl h)
        generalize hp : atP L j = p at *
        have EC : Hid (pcA W zs p = #[.int .i64 ((p.1 % W : Nat) : Int), .int .i64 ((p.1 / W : Nat) : Int), .bool p.2.2, .float .f32 (at0 zs p.1), .float .f32 (at0 zs p.2.1)]) := rfl
        generalize ((p.1 % W : Nat) : Int) = q0 at *
        generalize ((p.1 / W : Nat) : Int) = q1 at *
        generalize p.2.2 = t at *
        have hbA := World.below_one wr (.cells #[.int .i64 q0, .int .i64 q1, .bool t, .float .f32 (at0 zs p.1), .float .f32 (at0 zs p.2.1)] 62)
        have HC := Lib.hid (cloCo Z lv q0 q1 t zs p (wr.alloc (.cells #[.int .i64 q0, .int .i64 q1, .bool t, .float .f32 (at0 zs p.1), .float .f32 (at0 zs p.2.1)] 62)) ((HH.out.low hB.out hZ).below hbA))
        have HBA := Lib.hid (hB.out.trans (hbA.mono hlr))
        have SA := Lib.hid (hS.out.below hbA)
        clear hbA
        cases hc : cpB zs lv p
        · rw [hc] at HC
          have N1 := Lib.hid (HKN.out hc)
          have N2 := Lib.hid (fun m => HN.out hc m)
          clear HY HN HP HKY HKN hc hv hp
          go_wp2_with (go_at_call 83; refine HC.out.mono ?_; rintro e w2 ⟨rfl, hb2⟩; have S2 := Lib.hid (SA.out.below hb2.out); have B2 := Lib.hid (HBA.out.trans (hb2.out.mono (Nat.le_trans hlr (World.below_one wr (.cells #[.int .i64 q0, .int .i64 q1, .bool t, .float .f32 (at0 zs p.1), .float .f32 (at0 zs p.2.1)] 62)).size))); clear hb2)
          go_roundw
          case rel => exact ⟨i, j + 1, rfl, by go_num, by omega, by omega, by show _ = _; rw [N1.out]; exact hK.out, S2.out.ext fun m _ => N2.out m, B2⟩
          case measure => simp [intOf]; omega
        · rw [hc] at HC
          have N1 := Lib.hid (HKY.out hc)
          have N2 := Lib.hid (fun m => HP.out hc m)
          clear HY HN HP HKY HKN hc hv hp
          go_wp2_with (go_at_call 83; refine HC.out.mono ?_; rintro e w2 ⟨rfl, hb2⟩; have S2 := Lib.hid (SA.out.below hb2.out); have B2 := Lib.hid (HBA.out.trans (hb2.out.mono (Nat.le_trans hlr (World.below_one wr (.cells #[.int .i64 q0, .int .i64 q1, .bool t, .float .f32 (at0 zs p.1), .float .f32 (at0 zs p.2.1)] 62)).size))); obtain ⟨z0, z1, z2, z3, z4⟩ := var5 hb2.out; obtain ⟨g0, g1, g2, g3, g4⟩ := S2.out.at (show i < L.length by omega); obtain ⟨f0, f1, f2, f3, f4⟩ := S2.out.free5 (show i < L.length by omega); clear hb2)
          go_roundw
          case rel =>
            have SP := S2.out.put (i := i) (p := p) (show i < L.length by omega) (f' := movP (cpB zs lv) L (j + 1)) (fun m => by rw [N2.out m, hK.out])
            have SB := below_cells S2.out.lo (pcA W zs p).toList (i * 5) w w2 B2.out
            rw [EC.out] at SP SB
            exact ⟨i + 1, j + 1, by go_num, by go_num, by omega, by omega, by show _ = _; rw [N1.out, List.length_append, hK.out]; rfl, SP, SB⟩
          case measure => simp [intOf]; omega
      · have ej : j = L.length := by omega
        subst ej
        have hsz : c - i ≠ 0 := by omega
        obtain ⟨vs, hcl0⟩ := run_clear_pairs wr g (i * 5) (L.length - i) (c - i) (by omega) (fun t ht => by
          have e := hS.out.cell ((i * 5 + t) / 5) ((i * 5 + t) % 5) (by omega) (by omega)
          rw [show (i * 5 + t) / 5 * 5 + (i * 5 + t) % 5 = i * 5 + t by omega] at e
          rw [e]
          have h5 : (i * 5 + t) % 5 < 5 := Nat.mod_lt _ (by decide)
          generalize (i * 5 + t) % 5 = m at h5
          rcases m with _ | _ | _ | _ | _ | m <;> first | rfl | omega) (fun t ht => by
          have e := hS.out.free ((i * 5 + t) / 5) ((i * 5 + t) % 5) (by omega) (by omega)
          rwa [show (i * 5 + t) / 5 * 5 + (i * 5 + t) % 5 = i * 5 + t by omega] at e)
        have HF : Hid (PRow (wr.setCells g (i * 5) vs) lo g (L.filter (cpB zs lv)).length W zs (atP (L.filter (cpB zs lv)))) := by
          have hl : (L.filter (cpB zs lv)).length = i := by rw [← KE.out]; exact hK.out
          refine ⟨hS.out.lo, by have := (below_cells (Nat.le_refl g) vs (i * 5) wr wr (Below.refl _ _)).size; exact Nat.lt_of_lt_of_le hS.out.lt this, fun m r hm hr => ?_, fun m r hm hr => by rw [World.frozen?_setCells]; exact hS.out.free m r (by omega) hr⟩
          rw [World.cell?_setCells_out g _ _ _ _ (fun _ _ => .inl (by show m * 5 + r < i * 5; omega)), hS.out.cell m r (by omega) hr]
          unfold movP
          rw [KE.out, if_pos hm]
        have HBF := Lib.hid (below_cells hS.out.lo vs (i * 5) w wr hB.out)
        have HL : Hid ((L.filter (cpB zs lv)).length = i) := by show _ = _; rw [← KE.out]; exact hK.out
        have hcl := hcl0
        clear hcl0 hS hB hK
        go_wp2_with (simp only [hcl])
        go_ret
        exact ⟨_, by rw [HL.out]; rfl, HF, HBF⟩
  · have eR : R = L.length := by omega
    have HL : Hid (L.filter (cpB zs lv) = L) := by show _ = _; rw [← KE.out, kpP_all (Nat.le_refl _) (by rw [← eR]; exact hall), List.take_length]
    rw [if_neg hlt] at HX
    clear hall hend hr h
    go_enter Try.func82, Try.ntmps82
    go_wp2_with (go_at_call 100; refine HX.out.mono ?_; rintro e wq ⟨rfl, hbq⟩)
    go_ret
    rw [HL.out]
    exact ⟨_, rfl, HR.out.below hbq.out, hbq.out.mono hlo⟩

end Go.Proofs.Ytfjahgojmiednaa
