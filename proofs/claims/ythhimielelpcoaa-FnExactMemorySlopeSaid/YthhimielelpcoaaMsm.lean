/-
  What is proved here: a row of slices of numbers that grows; the ranges over the spreads of all pieces of a list, and their mean, in the program, as walks. Conditions: at most 256 numbers.
-/
import Derived.Test.YthhimielelpcoaaMsa
import Derived.Deep.AppendLies
namespace Go.Proofs.Ythhimielelpcoaa
open Flt Go.RowKit
attribute [local go_sem] run_store_float
set_option linter.unusedVariables false
set_option linter.unusedSimpArgs false

theorem info_sV : (Try.prog.info? 33).map (fun i => (i.zero, i.size, i.bytes)) = some (some (.slice none 0 0), 1, 24) := by kernel_rfl
/-- a slice, as a cell -/
def slV (q : Option Addr × Nat × Nat) : Value := .slice q.1 q.2.1 q.2.2
/-- a row of slices that the call owns, and that grows -/
def GroV (w : World) (G : Nat) (L : List (Option Addr × Nat × Nat)) (A : Option Addr) (c : Nat) : Prop := w.ownsRow G 33 1 (.slice A L.length c) L.length (L.map slV)
theorem GroV.cases {w : World} {G c : Nat} {L : List (Option Addr × Nat × Nat)} {A : Option Addr} (h : GroV w G L A c) : (A = none ∧ c = 0 ∧ L = []) ∨ ∃ g, A = some ⟨g, 0, none⟩ := by
  rcases h.2 with ⟨h1, _⟩ | ⟨g, cap, cur, h0, _⟩
  · injection h1 with e1 e2 e3
    exact .inl ⟨e1, e3, List.eq_nil_of_length_eq_zero e2⟩
  · injection h0 with e1 e2 e3
    exact .inr ⟨g, e1⟩
theorem GroV.nil (w : World) (G : Nat) : GroV w G [] none 0 := World.ownsRow_nil _ _ _ _
theorem GroV.lt {w : World} {G c : Nat} {L : List (Option Addr × Nat × Nat)} {A : Option Addr} (h : GroV w G L A c) : ∀ a, A = some a → G ≤ a.block ∧ a.block < w.heap.size := by
  rcases h.cases with ⟨rfl, _, _⟩ | ⟨g, rfl⟩
  · intro a ha; cases ha
  · intro a ha
    injection ha with ha
    subst ha
    exact World.ownsRow.lt h g rfl
theorem GroV.at {w : World} {G c j : Nat} {L : List (Option Addr × Nat × Nat)} {A : Option Addr} (h : GroV w G L A c) (hj : j < L.length) : ∃ g, A = some ⟨g, 0, none⟩ ∧ g < w.heap.size ∧ w.cell? ⟨g, j, none⟩ = some (slV (L.getD j (none, 0, 0))) := by
  rcases h.cases with ⟨_, _, rfl⟩ | ⟨g, rfl⟩
  · exact absurd hj (by simp)
  · refine ⟨g, rfl, (h.lt _ rfl).2, ?_⟩
    rw [World.ownsRow.cellAt h j (by omega), List.getElem?_map]
    simp [List.getD, hj]
theorem wpGroV {ops : Array Oper} {rest : List Oper} {o : Oper} {a : Act} {Q : Exit → Act → World → Prop} (hgd : o.guard = none) (s x : Operand)
    (ho : o.op = .call { callee := .builtin .append, args := #[s, x], argTypes := #[149, 149] })
    {w w0 : World} {G c : Nat} {y : Option Addr × Nat × Nat} {L : List (Option Addr × Nat × Nat)} {A : Option Addr} (hO : GroV w0 G L A c) (hw : w = w0.alloc (.cells #[.slice y.1 y.2.1 y.2.2] 33)) (hs : a.eval s = .slice A L.length c) (hx : a.eval x = .slice (some ⟨w0.heap.size, 0, none⟩) 1 1) (hL : L.length ≤ 1048576) (hG : G ≤ w0.heap.size)
    (h : ∀ g' c' w', GroV w' G (L ++ [y]) (some ⟨g', 0, none⟩) c' → Below G w0 w' → wpList Try.prog ops Q rest (a.put o.dst (.slice (some ⟨g', 0, none⟩) (L.length + 1) c')) w') :
    wpList Try.prog ops Q (o :: rest) a w := by
  subst hw
  obtain ⟨i0, hi, hz0, hz1, hz2⟩ := info_parts info_sV
  have hal : GroV (w0.alloc (.cells #[.slice y.1 y.2.1 y.2.2] 33)) G L A c := World.ownsRow.alloc hO _
  refine wpList_append_lies _ hgd s x 149 ho G 33 i0 (.slice none 0 0) 1 24 Try.underlying149 hi hz0 hz1 hz2 rfl (by decide) _ L.length (L.map (slV)) hs hal ⟨w0.heap.size, 0, none⟩ 1 1 [.slice y.1 y.2.1 y.2.2] hx rfl (World.ownsRow.cells (World.ownsRow_lit (base := G) (e := 33) (size := 1) w0 #[.slice y.1 y.2.1 y.2.2] 1 hG (by decide) rfl) rfl) (by intro u hu; rw [List.mem_singleton.1 hu]; rfl) (by decide) (by unfold maxLen; omega) (by omega) (by simp; omega) _ rfl ?_
  intro g' cap w' h1 h2 h3 h4
  have hba : Below w0.heap.size w0 (w0.alloc (.cells #[.slice y.1 y.2.1 y.2.2] 33)) := (Below.refl _ _).alloc (Nat.le_refl _) _
  refine h g' cap w' ?_ ⟨h2.os.trans hba.os, h2.tape.trans hba.tape, h2.output.trans hba.output, Nat.le_trans hba.size h2.size, fun k hk => ?_⟩
  · unfold GroV
    rw [List.length_append, List.map_append]
    exact h1
  · rw [h2.block k (Nat.lt_of_lt_of_le (Nat.lt_of_lt_of_le hk hG) hba.size) (by
      intro e
      rcases hO.cases with ⟨rfl, _, _⟩ | ⟨g, rfl⟩
      · cases e
      · injection e with e
        have := (hO.lt _ rfl).1
        have h9 : G ≤ g := this
        have : g = k := e.symm
        omega)]
    exact hba.block k (by omega)

/-- the pieces, as they lie -/
def pcV (b off c z j : Nat) : Option Addr × Nat × Nat := (some ⟨b, off + j * z, none⟩, z, c - j * z)
def pcL (b off c z n : Nat) : List (Option Addr × Nat × Nat) := (List.range n).map (pcV b off c z)
theorem pcL_len (b off c z n : Nat) : (pcL b off c z n).length = n := by simp [pcL]
theorem pcL_snoc (b off c z n : Nat) : pcL b off c z (n + 1) = pcL b off c z n ++ [pcV b off c z n] := by unfold pcL; rw [List.range_succ, List.map_append]; rfl
theorem pcL_at {b off c z n j : Nat} (h : j < n) : (pcL b off c z n).getD j (none, 0, 0) = pcV b off c z j := by simp [pcL, List.getD, h]
/-- a list in memory -/
def ListAt (w : World) (b off : Nat) (zs : List Nat) : Prop := b < w.heap.size ∧ ∀ i, i < zs.length → w.cell? ⟨b, off + i, none⟩ = some (.float .f32 (at0 zs i))
theorem ListAt.below {w w' : World} {b off : Nat} {zs : List Nat} (h : ListAt w b off zs) (hb : Below w.heap.size w w') : ListAt w' b off zs := ⟨Nat.lt_of_lt_of_le h.1 hb.size, fun i hi => by rw [hb.cell h.1]; exact h.2 i hi⟩
theorem ListAt.dn {w : World} {b off n : Nat} {zs : List Nat} (h : ListAt w b off zs) : ListAt (w.drewN n) b off zs := h

set_option maxHeartbeats 8000000 in
theorem implEachP (A : Option Addr) (c' : Nat) (b off c z : Nat) (zs : List Nat) (G : Nat) (w : World) (hl : ListAt w b off zs) (hb : lisB zs = true) (h2 : 2 ≤ z) (hG : GroV w G (pcL b off c z (zs.length / z)) A c') :
    Calls Try.prog 119 #[.slice A (zs.length / z) c', .func (.func 120) #[] #[]] w (LP (pC zs z) (cntB (mOk zs z) (zs.length / z)) (mOk zs z) w) := by
  have HLI := Lib.hid hl
  have HG := Lib.hid hG
  obtain ⟨h256, _⟩ := lisB_yes hb
  have hfit : Hid (∀ j, j < zs.length / z → (j + 1) * z ≤ zs.length) := fun j hj => pcz_fit hj
  have hNO : Hid (∀ k, k < zs.length / z → pOk zs z k = false → mOk zs z = false) := fun k hk h => mOk_no hk h
  have hYE : Hid ((∀ k, k < zs.length / z → pOk zs z k = true) → mOk zs z = true) := fun h => mOk_yes h
  have hn : zs.length / z ≤ 256 := Nat.le_trans (Nat.div_le_self _ _) h256
  have hmk := run_mk (zs.length / z) (by omega)
  have HROS : Hid (∀ (j : Nat) (W : World) (cc : Nat), j < zs.length / z → ListAt W b off zs → Calls Try.prog 120 #[.slice (some ⟨b, off + j * z, none⟩) z cc] W (MPost (pC zs z j) (pOk zs z j) W)) := fun j W cc hj hW => by
    have h1 := pcz_fit hj
    have h3 := pcz_len h1
    have := implRos (some ⟨b, off + j * z, none⟩) cc (pcz zs z j) W (pcz_row h1 hW.1 hW.2) (by rw [h3]; exact h2) (pcz_lis h1 hb)
    rw [h3] at this
    exact this
  generalize hcn : zs.length / z = n at *
  have hlen : (pcL b off c z n).length = n := pcL_len b off c z n
  have HAT : Hid (∀ j, j < n → ∃ g, A = some ⟨g, 0, none⟩ ∧ g < w.heap.size ∧ w.cell? ⟨g, j, none⟩ = some (.slice (some ⟨b, off + j * z, none⟩) z (c - j * z))) := fun j hj => by
    obtain ⟨g, h1, h3, h4⟩ := hG.at (j := j) (by rw [hlen]; exact hj)
    rw [pcL_at hj] at h4
    exact ⟨g, h1, h3, h4⟩
  have HCN := Lib.hid hcn
  clear hl hb h256 hlen hG hcn HG
  go_enter Try.func119, Try.ntmps119
  go_wp2
  clear hmk
  go_loopw [16] (fun i wr => ∃ (k : Nat) (ws : List Nat), i = .int .i64 k ∧ k ≤ n ∧ Hid (∀ j, j < k → pOk zs z j = true) ∧ Hid (Part (pC zs z) n k ws) ∧ Hid (RowH wr w.heap.size ws) ∧ Hid (Below w.heap.size w wr)) (fun i _ => n - (intOf i).toNat)
  case atStart => exact ⟨0, List.replicate n 0, rfl, Nat.zero_le _, fun j hj => absurd hj (Nat.not_lt_zero _), by have := Part.start (pC zs z) (List.replicate n 0); rwa [List.length_replicate] at this, rowH_new _ n, (Below.refl _ _).alloc (Nat.le_refl _) _⟩
  case round =>
    obtain ⟨k, ws, rfl, hk, hJ, hP, hR, hB⟩ := hrel
    by_cases hlt : k < n
    · obtain ⟨g, rfl, hg, hc⟩ := HAT.out k hlt
      rw [← hB.out.cell (p := ⟨g, k, none⟩) hg] at hc
      have HV := Lib.hid (fun cc => HROS.out k wr cc hlt (HLI.out.below hB.out))
      generalize off + k * z = ok at *
      generalize c - k * z = ck at *
      cases hp : pOk zs z k
      · rw [hp] at HV
        have N := Lib.hid (hNO.out k hlt hp)
        clear hp
        go_wp2_with (go_at_call 120; refine (HV.out _).mono ?_; rintro e w2 ⟨g2, rfl, e2, -, b2⟩)
        go_ret2
        exact lp_no2 (by unfold cntB; rw [N.out]; rfl) N.out (hB.out.trans (b2.out.mono hB.out.size))
      · rw [hp] at HV
        have HJ : Hid (∀ j, j < k + 1 → pOk zs z j = true) := fun j hj => by
          by_cases e : j = k
          · rw [e]; exact hp
          · exact hJ.out j (by omega)
        clear hp hJ
        go_wp2_with (go_at_call 120; refine (HV.out _).mono ?_; rintro e w2 ⟨g2, rfl, e2, -, b2⟩; have R2 := Lib.hid (hR.out.below b2.out); have B2 := Lib.hid (hB.out.trans (b2.out.mono hB.out.size)); have hc3 := R2.out.cell k (by rw [hP.out.len]; exact hlt); have hf3 := R2.out.free k (by rw [hP.out.len]; exact hlt); clear b2)
        have hP2 : Hid (Part (pC zs z) n (k + 1) (ws.set k g2)) := hP.out.step hlt e2.out
        go_roundw
        case rel => exact ⟨k + 1, ws.set k g2, by go_num, by omega, HJ, hP2, R2.out.set (by rw [hP.out.len]; exact hlt), B2.out.setCell (Nat.le_refl _) _⟩
        case measure => simp [intOf]; omega
    · have HK : Hid (k = n) := by show _ = _; omega
      have N : Hid (mOk zs z = true) := hYE.out fun j hj => hJ.out j (by omega)
      have hP2 : Hid (Part (pC zs z) n n ws) := by have := hP.out; rw [HK.out] at this; exact this
      go_wp2_with fail
      go_ret2
      exact lp_yes (by unfold cntB; rw [N.out]; rfl) N.out hP2.out.all (hR.out.rowIn (Nat.le_refl _)) hB.out

set_option maxHeartbeats 8000000 in
theorem implMem (b off c z : Nat) (zs : List Nat) (w : World) (hl : ListAt w b off zs) (hb : lisB zs = true) (h2 : 2 ≤ z) (hz : z ≤ zs.length) (hc : zs.length ≤ c) :
    Calls Try.prog 75 #[.slice (some ⟨b, off, none⟩) zs.length c, .int .i64 (z : Nat)] w (VQ (orNo (mOk zs z) (mC zs z)) (mOk zs z) w) := by
  obtain ⟨h256, _⟩ := lisB_yes hb
  have hw0 := Lib.hid (fun W => within_any (z : Int) 2 (zs.length : Int) W)
  have hin : inB (z : Int) 2 (zs.length : Int) = true := by unfold inB; rw [decide_eq_true (by omega), decide_eq_true (by omega)]; rfl
  rw [hin] at hw0
  have HEP := Lib.hid (fun A c' W G hW hG => implEachP A c' b off c z zs G W hW hb h2 hG)
  have HLI := Lib.hid hl
  have hfit : Hid (∀ j, j < zs.length / z → (j + 1) * z ≤ zs.length) := fun j hj => pcz_fit hj
  have hq : wrap64 ((zs.length : Int) / (z : Int)) = ((zs.length / z : Nat) : Int) := by
    rw [← Int.natCast_ediv]
    have hd := Nat.div_le_self zs.length z
    generalize zs.length / z = d at *
    exact IntWalk.wrap64_in _ (by omega)
  have hq3 : (zs.length : Int) / (z : Int) = ((zs.length / z : Nat) : Int) := (Int.natCast_ediv _ _).symm
  have hq4 : (zs.length : Int).tdiv (z : Int) = ((zs.length / z : Nat) : Int) := by rw [Int.tdiv_eq_ediv_of_nonneg (by omega)]; exact hq3
  have hn : zs.length / z ≤ 256 := Nat.le_trans (Nat.div_le_self _ _) h256
  have hMF : Hid (∀ ys, Tl (pC zs z) (zs.length / z) ys → meanF ys = mC zs z) := fun ys h => mean_tl h
  have hz0 : ¬ ((z : Int) = 0) := by omega
  have hzb : ((z : Int) == 0) = false := beq_eq_false_iff_ne.2 hz0
  generalize hcn : zs.length / z = n at *
  have HCN := Lib.hid hcn
  have HC := Lib.hid hc
  have H256 := Lib.hid h256
  clear hl hb hin hcn hc
  generalize hN : zs.length = N at *
  have HN := Lib.hid hN
  clear hN
  go_enter Try.func75, Try.ntmps75
  go_wp2_with (go_at_call 53; refine (hw0.out _).mono ?_; rintro e w' ⟨rfl, rfl⟩)
  clear hq hq3 hq4
  go_loopw [6, 19] (fun o i wr => ∃ (k : Nat) (A' : Option Addr) (c' : Nat), k ≤ n ∧ o = .slice A' k c' ∧ i = .int .i64 k ∧ Hid (GroV wr w.heap.size (pcL b off c z k) A' c') ∧ Hid (Below w.heap.size w wr)) (fun _ i _ => n - (intOf i).toNat)
  case atStart => exact ⟨0, none, 0, Nat.zero_le _, rfl, rfl, GroV.nil _ _, Below.refl _ _⟩
  case round =>
    obtain ⟨k, A', c', hk, rfl, rfl, hO, hB⟩ := hrel
    by_cases hlt : k < n
    · have hft := hfit.out k hlt
      have hE : Hid (pcL b off c z (k + 1) = pcL b off c z k ++ [(some ⟨b, off + k * z, none⟩, z, c - k * z)]) := pcL_snoc b off c z k
      have hlen := pcL_len b off c z k
      have hsz : w.heap.size ≤ wr.heap.size := hB.out.size
      rw [Nat.succ_mul] at hft
      have m1 : ((k : Int) * (z : Int)) = ((k * z : Nat) : Int) := by rw [Int.natCast_mul]
      have m2 : (((k : Int) + 1) * (z : Int)) = ((k * z + z : Nat) : Int) := by rw [Int.natCast_add, Int.natCast_mul, Int.add_mul, Int.one_mul]
      have hNc := HC.out
      have hN2 := H256.out
      generalize k * z = p at *
      have r1 : IntKind.i64.wrap ((k : Int) * (z : Int)) = (p : Int) := by rw [m1]; exact IntWalk.i64_in _ (by omega)
      have r2 : IntKind.i64.wrap (((k : Int) + 1) * (z : Int)) = ((p + z : Nat) : Int) := by rw [m2]; exact IntWalk.i64_in _ (by omega)
      have M1 := Lib.hid m1
      have M2 := Lib.hid m2
      clear m1 m2
      have hl2 : (pcL b off c z k).length ≤ 1048576 := by omega
      have HLN := Lib.hid hlen
      clear hlen
      go_wp2_with (at_builtin; refine wpGroV rfl _ _ rfl (w0 := wr) (y := (some ⟨b, off + p, none⟩, z, c - p)) hO.out rfl (by rw [HLN.out]; rfl) rfl hl2 hsz ?_; rw [HLN.out]; intro g9 c9 w9 O9 B9; have HO9 : Hid (GroV w9 w.heap.size (pcL b off c z (k + 1)) (some ⟨g9, 0, none⟩) c9) := by { rw [hE.out]; exact O9 }; have HB9 := Lib.hid (hB.out.trans B9); clear O9 B9)
      go_roundw
      case rel => exact ⟨k + 1, _, c9, by omega, rfl, by go_num, HO9, HB9⟩
      case measure => simp [intOf]; omega
    · have ek : k = n := by omega
      subst ek
      have HLIr := Lib.hid (HLI.out.below hB.out)
      have HE1 := Lib.hid (HEP.out A' c' wr w.heap.size HLIr.out hO.out)
      cases hm : mOk zs z
      · rw [hm] at HE1
        have HM0 := Lib.hid hm
        clear hm
        go_wp2_with fail
        refine HE1.out.mono ?_
        rintro e w2 ⟨A2, c2, ys, rfl, t2, r2, b2⟩
        go_wp2_with fail
        go_ret2
        rw [HM0.out]
        exact ⟨0, rfl, (by decide : can .f32 0 = some 0), hB.out.trans (b2.out.mono hB.out.size)⟩
      · rw [hm] at HE1
        have HM0 := Lib.hid hm
        clear hm
        go_wp2_with fail
        refine HE1.out.mono ?_
        rintro e w2 ⟨A2, c2, ys, rfl, t2, r2, b2⟩
        have T2 : Hid (Tl (pC zs z) k ys) := t2.out
        have hyl : ys.length = cntB true k := t2.out.len
        have hyk : ys.length = k := hyl
        have HM := implMean A2 c2 ys w2 _ r2.out.toRow (by omega)
        rw [hyl, hMF.out ys T2.out] at HM
        have HMN := Lib.hid HM
        have B2 := Lib.hid (hB.out.trans (b2.out.mono hB.out.size))
        clear HM hyl hyk t2 r2 b2
        generalize cntB true k = kk at *
        go_wp2_with (go_at_call 121; refine HMN.out.mono ?_; rintro e w3 ⟨g3, n3, rfl, rfl, e3, -⟩)
        go_ret2
        rw [HM0.out]
        exact ⟨g3, rfl, e3, belowN B2.out⟩

set_option maxHeartbeats 4000000 in
theorem implMemNo (A : Option Addr) (c : Nat) (z : Int) (zs : List Nat) (w : World) (hin : inB z 2 (zs.length : Int) = false) :
    Calls Try.prog 75 #[.slice A zs.length c, .int .i64 z] w (VQ (some 0) false w) := by
  have hw0 := Lib.hid (fun W => within_any z 2 (zs.length : Int) W)
  rw [hin] at hw0
  clear hin
  go_enter Try.func75, Try.ntmps75
  go_wp2_with (go_at_call 53; refine (hw0.out _).mono ?_; rintro e w' ⟨rfl, rfl⟩)
  go_ret2
  exact ⟨0, rfl, (by decide : can .f32 0 = some 0), Below.refl _ _⟩

/-- whether a size has a mean, and which -/
def sOk (zs : List Nat) (s : Int) : Bool := inB s 2 (zs.length : Int) && mOk zs s.toNat
def sC (zs : List Nat) (s : Int) : Option Nat := mC zs s.toNat
theorem implMemAny (AA : Option Addr) (c : Nat) (s : Int) (zs : List Nat) (w : World) (hl : RowF w w.heap.size AA zs) (hb : lisB zs = true) (hc : zs.length ≤ c) :
    Calls Try.prog 75 #[.slice AA zs.length c, .int .i64 s] w (VQ (orNo (sOk zs s) (sC zs s)) (sOk zs s) w) := by
  cases h : inB s 2 (zs.length : Int) with
  | false =>
    have e : sOk zs s = false := by unfold sOk; rw [h]; rfl
    rw [e]
    exact implMemNo _ c s zs w h
  | true =>
    obtain ⟨h1, h2⟩ := inB_yes h
    obtain ⟨z, rfl⟩ := Int.eq_ofNat_of_zero_le (show 0 ≤ s by omega)
    have e : sOk zs (z : Int) = mOk zs z := by unfold sOk; rw [h]; rfl
    rw [e]
    obtain ⟨b, off, rfl, hb2, hcell⟩ := hl (by omega)
    exact implMem b off c z zs w ⟨hb2, hcell⟩ hb (by omega) (by omega) hc

def allS (zs : List Nat) (ss : List Int) : Bool := ss.all (sOk zs)
theorem allS_no {zs : List Nat} {ss : List Int} {k : Nat} (hk : k < ss.length) (h : sOk zs (atI ss k) = false) : allS zs ss = false := by
  unfold allS
  rw [List.all_eq_false]
  refine ⟨ss[k], List.getElem_mem _, ?_⟩
  have : atI ss k = ss[k] := by simp [atI, List.getD, hk]
  rw [← this, h]; decide
theorem allS_yes {zs : List Nat} {ss : List Int} (h : ∀ k, k < ss.length → sOk zs (atI ss k) = true) : allS zs ss = true := by
  unfold allS
  refine List.all_eq_true.2 fun x hx => ?_
  obtain ⟨j, hj, rfl⟩ := List.mem_iff_getElem.1 hx
  have e : atI ss j = ss[j] := by simp [atI, List.getD, hj]
  rw [← e]; exact h j hj
def sCs (zs : List Nat) (ss : List Int) (j : Nat) : Option Nat := sC zs (atI ss j)
set_option maxHeartbeats 8000000 in
theorem implEachM (A AA : Option Addr) (d c : Nat) (ss : List Int) (zs : List Nat) (w : World) (hr : RowI w w.heap.size A ss) (hn : ss.length ≤ 256) (hl : RowF w w.heap.size AA zs) (hb : lisB zs = true) (hc : zs.length ≤ c) :
    Calls Try.prog 74 #[.slice A ss.length d, .func (.func 75) #[.slice AA zs.length c] #[]] w (LP (sCs zs ss) (cntB (allS zs ss) ss.length) (allS zs ss) w) := by
  have HR := Lib.hid hr
  have HLI := Lib.hid hl
  have hmk := run_mk ss.length (by omega)
  have HMM := Lib.hid (fun s W hW => implMemAny AA c s zs W hW hb hc)
  have hNO : Hid (∀ k, k < ss.length → sOk zs (atI ss k) = false → allS zs ss = false) := fun k hk h => allS_no hk h
  have hYE : Hid ((∀ k, k < ss.length → sOk zs (atI ss k) = true) → allS zs ss = true) := fun h => allS_yes h
  clear hr hl hb hc
  go_enter Try.func74, Try.ntmps74
  go_wp2
  clear hmk
  go_loopw [16] (fun i wr => ∃ (k : Nat) (ws : List Nat), i = .int .i64 k ∧ k ≤ ss.length ∧ Hid (∀ j, j < k → sOk zs (atI ss j) = true) ∧ Hid (Part (sCs zs ss) ss.length k ws) ∧ Hid (RowH wr w.heap.size ws) ∧ Hid (Below w.heap.size w wr)) (fun i _ => ss.length - (intOf i).toNat)
  case atStart => exact ⟨0, List.replicate ss.length 0, rfl, Nat.zero_le _, fun j hj => absurd hj (Nat.not_lt_zero _), by have := Part.start (sCs zs ss) (List.replicate ss.length 0); rwa [List.length_replicate] at this, rowH_new _ ss.length, (Below.refl _ _).alloc (Nat.le_refl _) _⟩
  case round =>
    obtain ⟨k, ws, rfl, hk, hJ, hP, hH, hB⟩ := hrel
    by_cases hlt : k < ss.length
    · obtain ⟨b2, off2, rfl, hb2, hcell⟩ := (HR.out.below hB.out) (by omega)
      have hc := hcell k hlt
      have HV := Lib.hid (HMM.out (atI ss k) wr (HLI.out.carry hB.out))
      have hE : Hid (sC zs (atI ss k) = sCs zs ss k) := rfl
      clear hcell hb2
      have HNk := Lib.hid (hNO.out k hlt)
      have HJk : Hid (sOk zs (atI ss k) = true → ∀ j, j < k + 1 → sOk zs (atI ss j) = true) := fun hp j hj => by
        by_cases e : j = k
        · rw [e]; exact hp
        · exact hJ.out j (by omega)
      generalize atI ss k = sz at *
      cases hp : sOk zs sz
      · rw [hp] at HV
        have N := Lib.hid (HNk.out hp)
        clear hp
        go_wp2_with (go_at_call 75; refine HV.out.mono ?_; rintro e w2 ⟨g2, rfl, e2, b2⟩)
        go_ret2
        exact lp_no2 (by unfold cntB; rw [N.out]; rfl) N.out (hB.out.trans (b2.out.mono hB.out.size))
      · rw [hp] at HV
        have HJ := Lib.hid (HJk.out hp)
        clear hp hJ
        go_wp2_with (go_at_call 75; refine HV.out.mono ?_; rintro e w2 ⟨g2, rfl, e2, b2⟩; have R2 := Lib.hid (hH.out.below b2.out); have B2 := Lib.hid (hB.out.trans (b2.out.mono hB.out.size)); have hc3 := R2.out.cell k (by rw [hP.out.len]; exact hlt); have hf3 := R2.out.free k (by rw [hP.out.len]; exact hlt); clear b2)
        have hP2 : Hid (Part (sCs zs ss) ss.length (k + 1) (ws.set k g2)) := hP.out.step hlt (by rw [e2.out, ← hE.out]; rfl)
        go_roundw
        case rel => exact ⟨k + 1, ws.set k g2, by go_num, by omega, HJ, hP2, R2.out.set (by rw [hP.out.len]; exact hlt), B2.out.setCell (Nat.le_refl _) _⟩
        case measure => simp [intOf]; omega
    · have HK : Hid (k = ss.length) := by show _ = _; omega
      have N : Hid (allS zs ss = true) := hYE.out fun j hj => hJ.out j (by omega)
      have hP2 : Hid (Part (sCs zs ss) ss.length ss.length ws) := by have := hP.out; rw [HK.out] at this; exact this
      go_wp2_with fail
      go_ret2
      exact lp_yes (by unfold cntB; rw [N.out]; rfl) N.out hP2.out.all (hH.out.rowIn (Nat.le_refl _)) hB.out
end Go.Proofs.Ythhimielelpcoaa
