/-
  What is proved here: SlopeOfPowers, of both packages, as walks. Conditions: at most 1048576 numbers.
-/
import Derived.Test.YtfjahgojmiednaaLgo
import Derived.Test.YtfjahgojmiednaaSlw
import Derived.RegionTactic
namespace Go.Proofs.Ytfjahgojmiednaa
open Flt Go.RowKit
attribute [local go_sem] run_store_float unary_negf
set_option linter.unusedVariables false

/-- the slope of what is told -/
def sloT (f g : Nat → Option Nat) (n : Nat) : Option Nat :=
  fop .quo .f32 (fop .sub .f32 (fop .mul .f32 (lenF n) (sumT (fun j => fop .mul .f32 (f j) (g j)) n)) (fop .mul .f32 (sumT f n) (sumT g n)))
    (fop .sub .f32 (fop .mul .f32 (lenF n) (sumT (fun j => fop .mul .f32 (f j) (f j)) n)) (fop .mul .f32 (sumT f n) (sumT f n)))
theorem slo_told {f g : Nat → Option Nat} {n : Nat} {xs ys : List Nat} (hx : Tl f n xs) (hy : Tl g n ys) : sloS xs ys = sloT f g n := by
  have e1 : sumT (selfF xs) n = sumT f n := sumT_ext fun j hj => hx.at' j hj
  have e2 : sumT (selfF ys) n = sumT g n := sumT_ext fun j hj => hy.at' j hj
  have e3 : sumT (mulF xs xs) n = sumT (fun j => fop .mul .f32 (f j) (f j)) n := sumT_ext fun j hj => by
    show fop .mul .f32 (can .f32 (at0 xs j)) (can .f32 (at0 xs j)) = _
    rw [hx.at' j hj]
  have e4 : sumT (mulF xs ys) n = sumT (fun j => fop .mul .f32 (f j) (g j)) n := sumT_ext fun j hj => by
    show fop .mul .f32 (can .f32 (at0 xs j)) (can .f32 (at0 ys j)) = _
    rw [hx.at' j hj, hy.at' j hj]
  unfold sloS sloE sloT
  rw [hx.len, e1, e2, e3, e4]

theorem RowH.other {w : World} {g : Nat} {ws : List Nat} (r : RowH w g ws) {q : Addr} (hq : q.block ≠ g) {u : Value} : RowH (w.setCell q u) g ws := by
  have e : (w.setCell q u).heap[g]? = w.heap[g]? := Below.heap_setCell _ _ _ _ (fun h => hq h.symm)
  exact ⟨by have := r.lt; simpa [World.setCell] using this, fun j hj => by rw [World.cell?_of_block (w := w) e]; exact r.cell j hj, fun j hj => by rw [World.frozen?_of_block (w := w) e]; exact r.free j hj⟩

theorem RowH.dr {w : World} {g : Nat} {ws : List Nat} (r : RowH w g ws) : RowH w.drew g ws := ⟨r.lt, r.cell, r.free⟩
theorem rowH_two (w : World) (n : Nat) : RowH ((w.alloc (.cells (madeCells #[.float .f32 0] n) 26)).alloc (.cells (madeCells #[.float .f32 0] n) 26)) (w.heap.size + 1) (List.replicate n 0) := by
  have h := rowH_new (w.alloc (.cells (madeCells #[.float .f32 0] n) 26)) n
  have e : (w.alloc (.cells (madeCells #[.float .f32 0] n) 26)).heap.size = w.heap.size + 1 := by simp
  rw [e] at h
  exact h
theorem pos_le {x : Nat} (hf : finB .f32 x = true) (h : posB x = false) : FloatKind.f32.format.order x 0 = some .lt ∨ FloatKind.f32.format.order x 0 = some .eq := by
  have hn : nanW .f32 x = false := nanW_of_le (Nat.le_of_lt (of_decide_eq_true hf))
  have h0 := ord0 hn
  unfold posB at h
  cases hs : side .f32 x <;> rw [hs] at h0 <;> rw [h0] at h ⊢
  · exact .inl rfl
  · exact .inr rfl
  · exact absurd h (by decide)

theorem cnt_ok : (List.range 64).all (fun k => abvB (floatOfInt .f32 ((k : Int) + 1))) = true := by kernel_rfl
theorem cnt_at {k : Nat} (h : k < 64) : abvB (floatOfInt .f32 ((k : Int) + 1)) = true := List.all_eq_true.1 cnt_ok k (List.mem_range.2 h)
/-- the logarithms of 1, 2, 3 and so on -/
def Cnts (G : Nat → Option Nat) : Prop := ∀ k : Nat, k < 64 → (∀ w, Calls Try.prog 43 #[.float .f32 (floatOfInt .f32 ((k : Int) + 1))] w (FPost .f32 (G k) w)) ∧ (∀ w, Calls Try.prog 80 #[.float .f32 (floatOfInt .f32 ((k : Int) + 1))] w (FPost .f32 (G k) w))
theorem cnts_any : ∃ G, Cnts G := by
  obtain ⟨G, hG⟩ := Go.Deep.choose_lt (α := Option Nat) (n := 64) (p := fun k c => (∀ w, Calls Try.prog 43 #[.float .f32 (floatOfInt .f32 ((k : Int) + 1))] w (FPost .f32 c w)) ∧ (∀ w, Calls Try.prog 80 #[.float .f32 (floatOfInt .f32 ((k : Int) + 1))] w (FPost .f32 c w))) fun k hk => by
    obtain ⟨c, h1, h2⟩ := lg_both _ (cnt_at hk)
    exact ⟨c, h1, h2⟩
  exact ⟨G, hG⟩

set_option maxHeartbeats 16000000 in
theorem implLogSl (A : Option Addr) (c : Nat) (zs : List Nat) (F G : Nat → Option Nat) (w : World) (hr : RowF w w.heap.size A zs) (hn : zs.length ≤ 64) (hF : Lgs zs F) (hG : Cnts G) :
    Calls Try.prog 46 #[.slice A zs.length c] w (MPost (orNo (posAll zs) (numC (sloT G F zs.length))) (posAll zs && finO (sloT G F zs.length)) w) := by
  have HR := Lib.hid hr
  have hmk := run_mk zs.length (by omega)
  clear hr
  go_enter Try.func46, Try.ntmps46
  go_wp2_with fail
  go_region
  all_goals clear hmk
  · have n0 : (w.heap.size : Nat) ≠ w.heap.size + 1 := by omega
    go_wp2_with fail
    go_loopw [16] (fun i wr => ∃ (k : Nat) (xs ys : List Nat), i = .int .i64 k ∧ k ≤ zs.length ∧ Hid (∀ j, j < k → posB (at0 zs j) = true) ∧ Hid (Part G zs.length k xs) ∧ Hid (Part F zs.length k ys) ∧ Hid (RowH wr (w.heap.size) xs) ∧ Hid (RowH wr (w.heap.size + 1) ys) ∧ Hid (Below w.heap.size w wr)) (fun i _ => zs.length - (intOf i).toNat)
    case atStart => exact ⟨0, List.replicate zs.length 0, List.replicate zs.length 0, rfl, Nat.zero_le _, fun j hj => absurd hj (Nat.not_lt_zero _), by have := Part.start G (List.replicate zs.length 0); rwa [List.length_replicate] at this, by have := Part.start F (List.replicate zs.length 0); rwa [List.length_replicate] at this, ((rowH_new w zs.length).below ((Below.refl _ _).alloc (Nat.le_refl _) _)).dr, (rowH_two w zs.length).dr, (((Below.refl _ _).alloc (Nat.le_refl _) _).alloc (by simp) _).drew⟩
    case round =>
      obtain ⟨k, xs, ys, rfl, hk, hJ, hP, hP', hX, hY, hB⟩ := hrel
      by_cases hlt : k < zs.length
      · obtain ⟨b, off, rfl, hb, hcell⟩ := (HR.out.below hB.out) (by omega)
        have hc := hcell k hlt
        have hx1 := hX.out.cell k (by rw [hP.out.len]; exact hlt)
        have hx2 := hX.out.free k (by rw [hP.out.len]; exact hlt)
        have hy1 := hY.out.cell k (by rw [hP'.out.len]; exact hlt)
        have hy2 := hY.out.free k (by rw [hP'.out.len]; exact hlt)
        clear hcell hb
        have HFI := Lib.hid (finAll_at hF.fin hlt)
        cases hp : posB (at0 zs k)
        · have hp1 := pos_le HFI.out hp
          have N := Lib.hid (posAll_no hlt hp)
          clear hp
          rcases hp1 with hp1 | hp1
          all_goals
            go_wp2_with (go_at_call 73; refine (implFin _ _).mono ?_; rintro e w' ⟨rfl, nf, rfl⟩; rw [HFI.out])
            go_ret2
            exact mpost_no (by unfold orNo; rw [N.out]; rfl) (by rw [N.out]; rfl) (belowN hB.out)
        · have hp1 : FloatKind.f32.format.order (at0 zs k) 0 = some .gt := eq_of_beq hp
          have HS := Lib.hid (hF.im k hlt hp)
          have HG := Lib.hid (fun W => (hG k (by omega)).2 W)
          have HJ : Hid (∀ j, j < k + 1 → posB (at0 zs j) = true) := fun j hj => by
            by_cases e : j = k
            · rw [e]; exact hp
            · exact hJ.out j (by omega)
          clear hp hJ
          go_wp2_with (first | (go_at_call 73; refine (implFin _ _).mono ?_; rintro e w' ⟨rfl, nf, rfl⟩; rw [HFI.out]) | (go_at_call 80; (first | ((with_reducible refine (HS.out _).mono ?_); rintro e w' ⟨g2, n2, rfl, rfl, e2, w2⟩) | ((with_reducible refine (HG.out _).mono ?_); rintro e w' ⟨g1, n1, rfl, rfl, e1, w1⟩))))
          have hQ : Hid (Part G zs.length (k + 1) (xs.set k g1)) := hP.out.step hlt e1.out
          have hQ' : Hid (Part F zs.length (k + 1) (ys.set k g2)) := hP'.out.step hlt e2.out
          go_roundw
          case rel => exact ⟨k + 1, xs.set k g1, ys.set k g2, by go_num, by omega, HJ, hQ, hQ', (hX.out.dn.set (by rw [hP.out.len]; exact hlt)).other (Ne.symm n0), (hY.out.dn.other n0).set (by rw [hP'.out.len]; exact hlt), ((belowN hB.out).setCell (by dsimp only; omega) _).setCell (by dsimp only; omega) _⟩
          case measure => simp [intOf]; omega
      · have HK : Hid (k = zs.length) := by show _ = _; omega
        have N : Hid (posAll zs = true) := posAll_yes fun j hj => hJ.out j (by omega)
        have hP2 : Hid (Part G zs.length zs.length xs) := by have := hP.out; rw [HK.out] at this; exact this
        have hP3 : Hid (Part F zs.length zs.length ys) := by have := hP'.out; rw [HK.out] at this; exact this
        have HT := implSlt (some ⟨w.heap.size, 0, none⟩) (some ⟨w.heap.size + 1, 0, none⟩) zs.length zs.length xs ys wr _ hX.out.row hY.out.row (by rw [hP2.out.len, hP3.out.len]) (by rw [hP2.out.len]; omega)
        rw [slo_told hP2.out.all hP3.out.all, hP2.out.len, hP3.out.len] at HT
        have HT2 := Lib.hid HT
        clear HT
        go_wp2_with (first | (go_at_call 81; refine HT2.out.mono ?_; rintro e w' ⟨gm, nm, rfl, rfl, hgm, hwm⟩) | (go_at_call 40; refine (implNumber _ _ hgm.out hwm _).mono ?_; rintro e w' ⟨g, n2, rfl, rfl, hg, hgw⟩))
        go_ret2
        exact ⟨g, by rw [N.out]; rfl, by show _ = _; unfold orNo; rw [N.out]; exact hg.out, hgw, belowN hB.out⟩
  · have n0 : (w.heap.size + 1 : Nat) ≠ w.heap.size := by omega
    go_wp2_with fail
    go_loopw [16] (fun i wr => ∃ (k : Nat) (xs ys : List Nat), i = .int .i64 k ∧ k ≤ zs.length ∧ Hid (∀ j, j < k → posB (at0 zs j) = true) ∧ Hid (Part G zs.length k xs) ∧ Hid (Part F zs.length k ys) ∧ Hid (RowH wr (w.heap.size + 1) xs) ∧ Hid (RowH wr (w.heap.size) ys) ∧ Hid (Below w.heap.size w wr)) (fun i _ => zs.length - (intOf i).toNat)
    case atStart => exact ⟨0, List.replicate zs.length 0, List.replicate zs.length 0, rfl, Nat.zero_le _, fun j hj => absurd hj (Nat.not_lt_zero _), by have := Part.start G (List.replicate zs.length 0); rwa [List.length_replicate] at this, by have := Part.start F (List.replicate zs.length 0); rwa [List.length_replicate] at this, (rowH_two w zs.length).dr, ((rowH_new w zs.length).below ((Below.refl _ _).alloc (Nat.le_refl _) _)).dr, (((Below.refl _ _).alloc (Nat.le_refl _) _).alloc (by simp) _).drew⟩
    case round =>
      obtain ⟨k, xs, ys, rfl, hk, hJ, hP, hP', hX, hY, hB⟩ := hrel
      by_cases hlt : k < zs.length
      · obtain ⟨b, off, rfl, hb, hcell⟩ := (HR.out.below hB.out) (by omega)
        have hc := hcell k hlt
        have hx1 := hX.out.cell k (by rw [hP.out.len]; exact hlt)
        have hx2 := hX.out.free k (by rw [hP.out.len]; exact hlt)
        have hy1 := hY.out.cell k (by rw [hP'.out.len]; exact hlt)
        have hy2 := hY.out.free k (by rw [hP'.out.len]; exact hlt)
        clear hcell hb
        have HFI := Lib.hid (finAll_at hF.fin hlt)
        cases hp : posB (at0 zs k)
        · have hp1 := pos_le HFI.out hp
          have N := Lib.hid (posAll_no hlt hp)
          clear hp
          rcases hp1 with hp1 | hp1
          all_goals
            go_wp2_with (go_at_call 73; refine (implFin _ _).mono ?_; rintro e w' ⟨rfl, nf, rfl⟩; rw [HFI.out])
            go_ret2
            exact mpost_no (by unfold orNo; rw [N.out]; rfl) (by rw [N.out]; rfl) (belowN hB.out)
        · have hp1 : FloatKind.f32.format.order (at0 zs k) 0 = some .gt := eq_of_beq hp
          have HS := Lib.hid (hF.im k hlt hp)
          have HG := Lib.hid (fun W => (hG k (by omega)).2 W)
          have HJ : Hid (∀ j, j < k + 1 → posB (at0 zs j) = true) := fun j hj => by
            by_cases e : j = k
            · rw [e]; exact hp
            · exact hJ.out j (by omega)
          clear hp hJ
          go_wp2_with (first | (go_at_call 73; refine (implFin _ _).mono ?_; rintro e w' ⟨rfl, nf, rfl⟩; rw [HFI.out]) | (go_at_call 80; (first | ((with_reducible refine (HS.out _).mono ?_); rintro e w' ⟨g2, n2, rfl, rfl, e2, w2⟩) | ((with_reducible refine (HG.out _).mono ?_); rintro e w' ⟨g1, n1, rfl, rfl, e1, w1⟩))))
          have hQ : Hid (Part G zs.length (k + 1) (xs.set k g1)) := hP.out.step hlt e1.out
          have hQ' : Hid (Part F zs.length (k + 1) (ys.set k g2)) := hP'.out.step hlt e2.out
          go_roundw
          case rel => exact ⟨k + 1, xs.set k g1, ys.set k g2, by go_num, by omega, HJ, hQ, hQ', (hX.out.dn.set (by rw [hP.out.len]; exact hlt)).other (Ne.symm n0), (hY.out.dn.other n0).set (by rw [hP'.out.len]; exact hlt), ((belowN hB.out).setCell (by dsimp only; omega) _).setCell (by dsimp only; omega) _⟩
          case measure => simp [intOf]; omega
      · have HK : Hid (k = zs.length) := by show _ = _; omega
        have N : Hid (posAll zs = true) := posAll_yes fun j hj => hJ.out j (by omega)
        have hP2 : Hid (Part G zs.length zs.length xs) := by have := hP.out; rw [HK.out] at this; exact this
        have hP3 : Hid (Part F zs.length zs.length ys) := by have := hP'.out; rw [HK.out] at this; exact this
        have HT := implSlt (some ⟨w.heap.size + 1, 0, none⟩) (some ⟨w.heap.size, 0, none⟩) zs.length zs.length xs ys wr _ hX.out.row hY.out.row (by rw [hP2.out.len, hP3.out.len]) (by rw [hP2.out.len]; omega)
        rw [slo_told hP2.out.all hP3.out.all, hP2.out.len, hP3.out.len] at HT
        have HT2 := Lib.hid HT
        clear HT
        go_wp2_with (first | (go_at_call 81; refine HT2.out.mono ?_; rintro e w' ⟨gm, nm, rfl, rfl, hgm, hwm⟩) | (go_at_call 40; refine (implNumber _ _ hgm.out hwm _).mono ?_; rintro e w' ⟨g, n2, rfl, rfl, hg, hgw⟩))
        go_ret2
        exact ⟨g, by rw [N.out]; rfl, by show _ = _; unfold orNo; rw [N.out]; exact hg.out, hgw, belowN hB.out⟩

theorem rowF_at {w : World} {X b off k : Nat} {zs : List Nat} (h : RowF w X (some ⟨b, off, none⟩) zs) (hk : k < zs.length) : w.cell? ⟨b, off + k, none⟩ = some (.float .f32 (at0 zs k)) := by
  obtain ⟨b', off', e, _, hc⟩ := h (by omega)
  injection e with e
  injection e with e1 e2 _
  subst e1 e2
  exact hc k hk
theorem own_second (w : World) (n : Nat) : OwnA (((w.drewN n).alloc (.cells #[] 26)).alloc (.cells #[] 26)) w.heap.size [] (w.heap.size + 1) 0 := by
  have e : ((w.drewN n).alloc (.cells #[] 26)).heap.size = w.heap.size + 1 := by simp [World.drewN]
  have h : OwnA (((w.drewN n).alloc (.cells #[] 26)).alloc (.cells #[] 26)) w.heap.size [] ((w.drewN n).alloc (.cells #[] 26)).heap.size 0 := World.ownsRow_lit _ #[] 0 (by rw [e]; omega) (by decide) rfl
  rwa [e] at h
/-- an append to what is owned; where the row lies then -/
theorem wpApp2 {ops : Array Oper} {rest : List Oper} {o : Oper} {a : Act} {Q : Exit → Act → World → Prop} (hgd : o.guard = none) (s x : Operand)
    (ho : o.op = .call { callee := .builtin .append, args := #[s, x], argTypes := #[22, 22] })
    {w w0 : World} {G g c y : Nat} {L : List Nat} (hO : OwnA w0 G L g c) (hw : w = w0.alloc (.cells #[.float .f32 y] 26)) (hs : a.eval s = .slice (some ⟨g, 0, none⟩) L.length c) (hx : a.eval x = .slice (some ⟨w0.heap.size, 0, none⟩) 1 1) (hL : L.length ≤ 1048576) (hG : G ≤ w0.heap.size)
    (h : ∀ g' c' w', OwnA w' G (L ++ [y]) g' c' → ButIn g (g + 1) w0 w' → (g' = g ∨ w0.heap.size ≤ g') → wpList Try.prog ops Q rest (a.put o.dst (.slice (some ⟨g', 0, none⟩) (L.length + 1) c')) w') : wpList Try.prog ops Q (o :: rest) a w := by
  subst hw
  obtain ⟨i0, hi, hz0, hz1, hz2⟩ := info_parts info_f32k
  refine wpList_append_lies _ hgd s x 22 ho G 26 i0 (.float .f32 0) 1 4 Try.underlying22 hi hz0 hz1 hz2 rfl (by decide) _ L.length (L.map (Value.float .f32)) hs (World.ownsRow.alloc hO _) ⟨w0.heap.size, 0, none⟩ 1 1 [.float .f32 y] hx rfl (World.ownsRow.cells (World.ownsRow_lit (base := G) (e := 26) (size := 1) w0 #[.float .f32 y] 1 hG (by decide) rfl) rfl) (by intro u hu; rw [List.mem_singleton.1 hu]; rfl) (by decide) (by unfold maxLen; omega) (by omega) (by simp; omega) _ rfl ?_
  intro g' cap w' h1 h2 h3 h4
  have hb : Below w0.heap.size w0 (w0.alloc (.cells #[.float .f32 y] 26)) := (Below.refl _ _).alloc (Nat.le_refl _) _
  refine h g' cap w' ?_ ?_ ?_
  · unfold OwnA
    rw [List.length_append, List.map_append]
    exact h1
  · refine ⟨h2.os.trans hb.os, h2.tape.trans hb.tape, h2.output.trans hb.output, Nat.le_trans hb.size h2.size, fun k hk hd => ?_⟩
    rw [h2.block k (Nat.lt_of_lt_of_le hk hb.size) (by intro e; injection e with e; have e : k = g := e; omega)]
    exact hb.block k hk
  · rcases h3 with h3 | h3
    · left
      have h5 : some g = some g' := h3
      exact (Option.some.inj h5).symm
    · right
      rw [h3]
      exact hb.size

set_option maxHeartbeats 8000000 in
theorem specSl5 (A B : Option Addr) (c d : Nat) (xs ys : List Nat) (w : World) (Z : Nat) (hr : RowF w Z A xs) (hq : RowF w Z B ys) (hl : xs.length = ys.length) (hn : xs.length ≤ 1048576) :
    Calls Try.prog 45 #[.slice A xs.length c, .slice B ys.length d] w (FPost .f32 (sloS xs ys) w) := by
  have HR := Lib.hid hr
  have HQ := Lib.hid hq
  have HE := Lib.hid hl
  rw [← hl]
  clear hr hq hl
  go_enter Try.func45, Try.ntmps45
  go_wp2_with fail
  go_loopw [5, 6, 7, 8, 13] (fun a b cc dd i wr => ∃ k : Nat, k ≤ xs.length ∧ i = .int .i64 k ∧ ∃ n aw bw cw dw, wr = w.drewN n ∧ a = .float .f32 aw ∧ b = .float .f32 bw ∧ cc = .float .f32 cw ∧ dd = .float .f32 dw ∧ Hid (can .f32 aw = sumT (selfF xs) k) ∧ Hid (can .f32 bw = sumT (selfF ys) k) ∧ Hid (can .f32 cw = sumT (mulF xs xs) k) ∧ Hid (can .f32 dw = sumT (mulF xs ys) k)) (fun _ _ _ _ i _ => xs.length - (intOf i).toNat)
  case atStart => exact ⟨0, Nat.zero_le _, rfl, 0, 0, 0, 0, 0, rfl, rfl, rfl, rfl, rfl, rfl, rfl, rfl, rfl⟩
  case round =>
    obtain ⟨k, hk, rfl, n, aw, bw, cw, dw, rfl, rfl, rfl, rfl, rfl, hA, hB, hC, hD⟩ := hrel
    by_cases hlt : k < xs.length
    · obtain ⟨b, off, rfl, hb, hcell⟩ := HR.out (by omega)
      obtain ⟨b2, off2, rfl, hb2, hcell2⟩ := HQ.out (by have := HE.out; omega)
      have hc := hcell k hlt
      have hd := hcell2 k (by have := HE.out; omega)
      clear hcell hcell2
      go_wp2_with ((with_reducible refine upon_bin rfl ?_); intro _ _ _ _)
      rename_i r1 n1 w1 e1 r2 n2 w2 e2 K1 hK1
      have a1 : Hid (can .f32 r1 = sumT (selfF xs) (k + 1)) := by show _ = _; rw [e1.out, hA.out]; rfl
      have a2 : Hid (can .f32 r2 = sumT (selfF ys) (k + 1)) := by show _ = _; rw [e2.out, hB.out]; rfl
      clear e1 e2 w1 w2
      go_region_with ((with_reducible refine upon_bin rfl ?_); intro _ _ _ _)
      all_goals
        rename_i r3 n3 w3 e3 r4 n4 w4 e4
        have a3 : Hid (can .f32 r4 = sumT (mulF xs xs) (k + 1)) := by show _ = _; rw [e4.out, e3.out, hC.out]; rfl
        clear e3 e4 w3 w4
        go_wp2_with fail
        go_region_with ((with_reducible refine upon_bin rfl ?_); intro _ _ _ _)
        all_goals
          rename_i r5 n5 w5 e5 r6 n6 w6 e6
          have a4 : Hid (can .f32 r6 = sumT (mulF xs ys) (k + 1)) := by show _ = _; rw [e6.out, e5.out, hD.out]; rfl
          clear e5 e6 w5 w6
          go_wp2_with fail
          go_roundw
          case rel => exact ⟨k + 1, by omega, by go_num, _, r1, r2, r4, r6, rfl, rfl, rfl, rfl, rfl, a1, a2, a3, a4⟩
          case measure => simp [intOf]; omega
    · have HK : Hid (k = xs.length) := by show k = xs.length; omega
      rw [HK.out] at hA hB hC hD
      go_wp2_with ((with_reducible refine upon_bin rfl ?_); intro _ _ _ _)
      rename_i r1 n1 w1 e1 r2 n2 w2 e2 r3 n3 w3 e3 r4 n4 w4 e4 r5 n5 w5 e5 r6 n6 w6 e6 r7 n7 w7 e7
      go_ret
      exact fpost (by rw [e7.out, e6.out, e5.out, e4.out, e3.out, e2.out, e1.out, hA.out, hB.out, hC.out, hD.out]; rfl) w7

def slpC (F G : Nat → Option Nat) (n : Nat) : Option Nat := fneg .f32 (sloT G F n)
theorem fin_neg (c : Option Nat) : finO (fneg .f32 c) = finO c := by
  cases c with
  | none => rfl
  | some x =>
    show finB .f32 (Op.negFloat .f32 x) = finB .f32 x
    unfold finB
    rw [neg_mod]






end Go.Proofs.Ytfjahgojmiednaa
