/-
  What is proved here: a clone of weights; ThresholdOf of the program, as a walk. Conditions: at most 1048576 weights.
-/
import Derived.Test.YtnhcmloaanamnaaTh5
import Derived.Deep.AppendLies
import Derived.Deep.CutRange
namespace Go.Proofs.Ytnhcmloaanamnaa
open Flt Go.RowKit
attribute [local go_sem] run_store_float
set_option linter.unusedVariables false
set_option linter.unusedSimpArgs false

theorem map_one {zs : List Nat} : ∀ u ∈ zs.map (Value.float .f32), u.oneCell' = true := by
  intro u hu
  obtain ⟨z, _, rfl⟩ := List.mem_map.1 hu
  rfl

theorem news_of {w W : World} {b off : Nat} {zs : List Nat} (hb : b < w.heap.size) (hc : ∀ j, j < zs.length → w.cell? ⟨b, off + j, none⟩ = some (.float .f32 (at0 zs j))) (h : Below w.heap.size w W) :
    ∀ j u, (zs.map (Value.float .f32))[j]? = some u → W.cell? ((⟨b, off, none⟩ : Addr).add j) = some u := by
  intro j u hu
  rw [List.getElem?_map] at hu
  rcases Nat.lt_or_ge j zs.length with hj | hj
  · rw [List.getElem?_eq_getElem hj] at hu
    injection hu with hu
    subst hu
    rw [Go.WideShapes.add_plain, h.cell (p := ⟨b, off + j, none⟩) hb, hc j hj]
    simp [at0, List.getD, hj]
  · rw [List.getElem?_eq_none hj] at hu; cases hu

theorem owns_sRow {w : World} {G g c : Nat} {zs : List Nat} (r : w.ownsRow G 34 1 (.slice (some ⟨g, 0, none⟩) zs.length c) zs.length (zs.map (Value.float .f32))) : G ≤ g ∧ sFRw (at0 zs) w g zs.length (fun j => j) :=
  ⟨(World.ownsRow.lt r g rfl).1, (World.ownsRow.lt r g rfl).2, fun j hj => by rw [World.ownsRow.cellAt r j (by omega), List.getElem?_map]; simp [at0, List.getD, hj], fun j hj => World.ownsRow.frozenAt r _⟩
theorem info_f32c : (Try.prog.info? 34).map (fun i => (i.zero, i.size, i.bytes)) = some (some (.float .f32 0), 1, 4) := by kernel_rfl

theorem clone_any (A : Option Addr) (c : Nat) (zs : List Nat) (w : World) (hr : RowF w w.heap.size A zs) (h0 : 0 < zs.length) (hn : zs.length ≤ 1048576) :
    Calls Try.prog 39 #[.slice A zs.length c] w fun e w' => ∃ g c', e = .returned (.slice (some ⟨g, 0, none⟩) zs.length c') ∧ Hid (w.heap.size ≤ g ∧ sFRw (at0 zs) w' g zs.length (fun j => j)) ∧ Hid (Below w.heap.size w w') := by
  obtain ⟨i0, hi, hz0, hz1, hz2⟩ := info_parts info_f32c
  have HI := Lib.hid (And.intro hi (And.intro hz0 (And.intro hz1 hz2)))
  obtain ⟨b, off, rfl, hb, hc⟩ := hr h0
  have B0 : Below w.heap.size w (w.alloc (.cells #[] 34)) := (Below.refl _ _).alloc (Nat.le_refl _) _
  have HN := Lib.hid (news_of hb hc B0)
  have HB := Lib.hid B0
  have O0 : Hid ((w.alloc (.cells #[] 34)).ownsRow w.heap.size 34 1 (.slice (some ⟨w.heap.size, 0, none⟩) 0 0) 0 []) := World.ownsRow_lit w #[] 0 (Nat.le_refl _) (by decide) rfl
  have H0 := Lib.hid h0
  have M1 : Hid (0 + zs.length ≤ maxLen) := by show _ ≤ _; unfold maxLen; omega
  have M2 : Hid ((0 + zs.length) * 4 ≤ 140737488355328) := by show _ ≤ _; omega
  have M3 := Lib.hid B0.size
  have hnil : ∀ W, (binOp .eql 22 (.slice (some ⟨b, off, none⟩) zs.length c) (.slice none 0 0)).run Try.prog W = .ok (.bool false) W := fun W => Lib.run_eql_slice_nil (P := Try.prog) W 22 34 (some ⟨b, off, none⟩) zs.length c 0 0 Try.underlying22
  clear hi hz0 hz1 hz2 hr hc hb B0 h0
  go_enter Try.func39, Try.ntmps39
  go_wp2_with (at_builtin; refine wpList_append_lies _ rfl _ _ 22 rfl w.heap.size 34 i0 (.float .f32 0) 1 4 Try.underlying22 HI.out.1 HI.out.2.1 HI.out.2.2.1 HI.out.2.2.2 rfl (by decide) _ 0 [] rfl O0.out ⟨b, off, none⟩ zs.length c (zs.map (Value.float .f32)) rfl (by simp) HN.out map_one H0.out M1.out M2.out M3.out _ rfl ?_)
  intro g cap w1 hown hgrow hat hlt
  have HO := Lib.hid (owns_sRow hown)
  have HE : Hid (Below w.heap.size w w1) := ⟨hgrow.os.trans HB.out.os, hgrow.tape.trans HB.out.tape, hgrow.output.trans HB.out.output, Nat.le_trans HB.out.size hgrow.size, fun k hk => (hgrow.block k (by simp; omega) (by intro e; injection e with e; have e2 : k = w.heap.size := e; omega)).trans (HB.out.block k hk)⟩
  clear hown hgrow hat hlt
  go_wp2
  go_ret
  exact ⟨g, cap, rfl, HO, HE⟩
theorem sFEnv_thr (zs : List Nat) (g : Nat) (hf : finAll zs = true) : sFEnv (at0 zs) zs.length g (gK zs) (fun x y => cmpW (at0 zs x) (at0 zs y)) (fun _ => True) :=
  ⟨fun _ _ _ _ => trivial, fun _ _ _ => trivial, fun W x y _ hx hy => (cmpF _ _ (fin_num (finAll_at hf hx)) (fin_num (finAll_at hf hy)) W).mono fun e w' ⟨h1, h2⟩ => ⟨h1, 0, h2.symm⟩, fun x y hx hy => cmpW_sV (finAll_at hf hx) (finAll_at hf hy)⟩
theorem sBut.low {g X : Nat} {w w' : World} (h : sBut g w w') (hg : X ≤ g) : Below X w w' := ⟨h.os, h.tape, h.output, by rw [h.size]; exact Nat.le_refl _, fun k hk => h.block k (by omega)⟩
theorem sFRw.up {v : Nat → Nat} {w w' : World} {g n : Nat} {f : Nat → Nat} (r : sFRw v w g n f) (hb : Below w.heap.size w w') : sFRw v w' g n f :=
  ⟨Nat.lt_of_lt_of_le (sRw.lt r) hb.size, fun j hj => (hb.cell (p := ⟨g, j, none⟩) (sRw.lt r)).trans (sRw.cell r j hj), fun j hj => by rw [World.frozen?_of_block (w := w) (hb.block g (sRw.lt r))]; exact sRw.free r j hj⟩
theorem sBut.cell {g b k : Nat} {w w' : World} (h : sBut g w w') (hb : b ≠ g) : w'.cell? ⟨b, k, none⟩ = w.cell? ⟨b, k, none⟩ := World.cell?_of_block (w := w) (h.block b hb)
theorem below_srt {g G : Nat} {w w2 w3 w4 : World} (h : Below G w w2) (h3 : Below w2.heap.size w2 w3) (b : sBut g w3 w4) (hg : G ≤ g) (hG : G ≤ w2.heap.size) : Below G w w4 := (h.trans (h3.mono hG)).trans (b.low hg)
/-- what ThresholdOf gives -/
def ThPost (v : Nat) (b : Bool) (w : World) (e : Ending) (w' : World) : Prop := e = .returned (.tuple #[.float .f32 v, .bool b]) ∧ Hid (Below w.heap.size w w')
theorem th_box (w : World) (A : Option Addr) (n c : Nat) (x y : Int) : ∃ w1, w1 = ((w.alloc (.cells #[.slice A n c] 22)).alloc (.cells #[.int .i64 x] 2)).alloc (.cells #[.int .i64 y] 2) ∧ w1.heap.size = w.heap.size + 3 ∧ w1.cell? ⟨w.heap.size, 0, none⟩ = some (.slice A n c) ∧ w1.cell? ⟨w.heap.size + 1, 0, none⟩ = some (.int .i64 x) ∧ w1.cell? ⟨w.heap.size + 1 + 1, 0, none⟩ = some (.int .i64 y) ∧ Below w.heap.size w w1 := by
  obtain ⟨wa, ha⟩ : ∃ wa, wa = w.alloc (.cells #[.slice A n c] 22) := ⟨_, rfl⟩
  obtain ⟨wb, hb⟩ : ∃ wb, wb = wa.alloc (.cells #[.int .i64 x] 2) := ⟨_, rfl⟩
  obtain ⟨wc, hc⟩ : ∃ wc, wc = wb.alloc (.cells #[.int .i64 y] 2) := ⟨_, rfl⟩
  have sa : wa.heap.size = w.heap.size + 1 := by rw [ha]; simp
  have sb : wb.heap.size = w.heap.size + 1 + 1 := by rw [hb]; simp [sa]
  have sc : wc.heap.size = w.heap.size + 3 := by rw [hc]; simp [sb]
  have ba : Below w.heap.size w wa := by rw [ha]; exact (Below.refl _ _).alloc (Nat.le_refl _) _
  have bb : Below wa.heap.size wa wb := by rw [hb]; exact (Below.refl _ _).alloc (Nat.le_refl _) _
  have bc : Below wb.heap.size wb wc := by rw [hc]; exact (Below.refl _ _).alloc (Nat.le_refl _) _
  have c1 : wa.cell? ⟨w.heap.size, 0, none⟩ = some (.slice A n c) := by rw [ha]; exact cell1_new _ _ _
  have c2 : wb.cell? ⟨wa.heap.size, 0, none⟩ = some (.int .i64 x) := by rw [hb]; exact cell1_new _ _ _
  have c3 : wc.cell? ⟨wb.heap.size, 0, none⟩ = some (.int .i64 y) := by rw [hc]; exact cell1_new _ _ _
  rw [sa] at c2
  rw [sb] at c3
  refine ⟨wc, by rw [hc, hb, ha], sc, ?_, ?_, c3, ba.trans ((bb.trans (bc.mono bb.size)).mono ba.size)⟩
  · exact (bc.cell (p := ⟨w.heap.size, 0, none⟩) (by show w.heap.size < _; omega)).trans ((bb.cell (p := ⟨w.heap.size, 0, none⟩) (by show w.heap.size < _; omega)).trans c1)
  · exact (bc.cell (p := ⟨w.heap.size + 1, 0, none⟩) (by show w.heap.size + 1 < _; omega)).trans c2
set_option maxHeartbeats 4000000 in
set_option maxRecDepth 1000000 in
theorem implThr (x y : Int) (A : Option Addr) (c : Nat) (zs : List Nat) (w : World) (hr : RowF w w.heap.size A zs) (hw : wtB x y zs = true) :
    Calls Try.prog 24 #[.slice A zs.length c, .int .i64 x, .int .i64 y] w (ThPost (at0 zs (thM x y zs)) true w) := by
  have hw2 : fvB x y zs.length = true ∧ finAll zs = true := by unfold wtB at hw; rwa [Bool.and_eq_true] at hw
  obtain ⟨hv, hf⟩ := hw2
  obtain ⟨hxy, hnn, hn1, hn2⟩ := fvB_yes hv
  obtain ⟨w1, hw1, hs1, q1, q2, q3, hb1⟩ := th_box w A zs.length c x y
  have HWE : Hid (∀ W, Below w.heap.size w W → Calls Try.prog 53 #[.slice A zs.length c, .int .i64 x, .int .i64 y] W fun e w' => e = .returned (.bool true) ∧ ∃ k, w' = W.drewN k) := fun W hB => by
    have := implWei x y A c w.heap.size zs W (hr.below hB) (by omega)
    rw [hw] at this
    exact this
  have HR := Lib.hid hr
  have HV := Lib.hid hv
  have HF := Lib.hid hf
  have HS1 := Lib.hid hs1
  have HB1 := Lib.hid hb1
  have HQ1 := Lib.hid q1
  have HQ2 := Lib.hid q2
  have HQ3 := Lib.hid q3
  have HSR := Lib.hid (fun (g c : Nat) (W : World) (hR : sFRw (at0 zs) W g zs.length (fun j => j)) => sFSrt (at0 zs) g zs.length c (gK zs) (fun x y => cmpW (at0 zs x) (at0 zs y)) (fun _ => True) W (sFEnv_thr zs g hf) trivial hR (by omega) (by omega))
  have hsub : IntKind.i64.wrap ((zs.length : Int) - 1) = ((zs.length - 1 : Nat) : Int) := by rw [show (zs.length : Int) - 1 = ((zs.length - 1 : Nat) : Int) by omega]; exact IntWalk.i64_in _ (by omega)
  clear hr hw hv hf hxy hnn hs1 hb1 q1 q2 q3
  go_enter Try.func24, Try.ntmps24
  go_upto_region 1 with fail
  rw [← hw1]
  clear hw1
  have q1 := HQ1.out
  have q2 := HQ2.out
  have q3 := HQ3.out
  go_upto_region 3 with (go_at_call 53; refine (HWE.out _ HB1.out).mono ?_; rintro e w' ⟨rfl, k, rfl⟩)
  have HCL := Lib.hid (clone_any A c zs (w1.drewN k) (((HR.out.below HB1.out).mono HB1.out.size)) (by omega) (by omega))
  go_upto_region 4 with (go_at_call 39; refine HCL.out.mono ?_; rintro e w2 ⟨g, c2, rfl, r2, b2⟩)
  have B2 : Hid (Below w.heap.size w w2) := HB1.out.trans (((belowN (Below.refl _ _)).trans b2.out).mono HB1.out.size)
  have hg1 : w1.heap.size ≤ g := r2.out.1
  have hg2 : g < w2.heap.size := sRw.lt r2.out.2
  have hs1 := HS1.out
  have q4 : w2.cell? ⟨w.heap.size, 0, none⟩ = some (.slice A zs.length c) := (b2.out.cell (p := ⟨w.heap.size, 0, none⟩) (by show w.heap.size < w1.heap.size; omega)).trans HQ1.out
  have q5 : w2.cell? ⟨w.heap.size + 1, 0, none⟩ = some (.int .i64 x) := (b2.out.cell (p := ⟨w.heap.size + 1, 0, none⟩) (by show w.heap.size + 1 < w1.heap.size; omega)).trans HQ2.out
  have q6 : w2.cell? ⟨w.heap.size + 1 + 1, 0, none⟩ = some (.int .i64 y) := (b2.out.cell (p := ⟨w.heap.size + 1 + 1, 0, none⟩) (by show w.heap.size + 1 + 1 < w1.heap.size; omega)).trans HQ3.out
  have b3 : Below w2.heap.size w2 (w2.alloc (.cells #[.slice (some ⟨g, 0, none⟩) zs.length c2] 22)) := (Below.refl _ _).alloc (Nat.le_refl _) _
  have q7 : (w2.alloc (.cells #[.slice (some ⟨g, 0, none⟩) zs.length c2] 22)).cell? ⟨w2.heap.size, 0, none⟩ = some (.slice (some ⟨g, 0, none⟩) zs.length c2) := cell1_new w2 _ _
  have s3 : (w2.alloc (.cells #[.slice (some ⟨g, 0, none⟩) zs.length c2] 22)).heap.size = w2.heap.size + 1 := by simp
  have R3 := Lib.hid (r2.out.2.up b3)
  have HB3 := Lib.hid b3
  have HS3 := Lib.hid s3
  have HQ7 := Lib.hid q7
  have HQ4 := Lib.hid q4
  have HQ5 := Lib.hid q5
  have HQ6 := Lib.hid q6
  have HG1 := Lib.hid hg1
  have HG2 := Lib.hid hg2
  clear q1 q2 q3 q4 q5 q6 q7 b3 s3 hg1 hg2 hs1 HCL HWE HQ1 HQ2 HQ3 r2 b2
  generalize w2.alloc (.cells #[.slice (some ⟨g, 0, none⟩) zs.length c2] 22) = w3 at *
  have q7 := HQ7.out
  have HSR3 := Lib.hid (HSR.out g c2 w3 R3.out)
  go_upto_region 5 with (go_at_call 40; refine HSR3.out.mono ?_; rintro e w4 ⟨rfl, h, p4, r4, b4⟩)
  have B4 : Hid (Below w.heap.size w w4) := below_srt B2.out HB3.out b4.out (Nat.le_trans HB1.out.size HG1.out) B2.out.size
  have hs1 := HS1.out
  have hs3 := HS3.out
  have hg1 := HG1.out
  have hg2 := HG2.out
  have hw2 := HB1.out.size
  have V4 : Hid (ThV w4 w.heap.size (w.heap.size + 1) (w.heap.size + 1 + 1) w2.heap.size g x y A c c2 zs h) := by
    have hz : w4.heap.size = w2.heap.size + 1 := by rw [b4.out.size]; exact hs3
    exact ⟨by omega, by omega, by omega, by omega, (b4.out.cell (by omega)).trans ((HB3.out.cell (p := ⟨w.heap.size, 0, none⟩) (by show w.heap.size < _; omega)).trans HQ4.out), (b4.out.cell (by omega)).trans ((HB3.out.cell (p := ⟨w.heap.size + 1, 0, none⟩) (by show w.heap.size + 1 < _; omega)).trans HQ5.out), (b4.out.cell (by omega)).trans ((HB3.out.cell (p := ⟨w.heap.size + 1 + 1, 0, none⟩) (by show w.heap.size + 1 + 1 < _; omega)).trans HQ6.out), (b4.out.cell (by omega)).trans HQ7.out, by omega, fun j hj => sRw.cell r4.out j hj, (HR.out.below B4.out).mono B4.out.size⟩
  have HSC := Lib.hid (schThr _ _ _ _ g x y A c c2 zs h w4 V4.out HV.out HF.out p4.out)
  have q8 := V4.out.c4
  clear q7 hs1 hs3 hg1 hg2 hw2 HSR HSR3 R3 HB3 HS3 HQ7 HQ4 HQ5 HQ6 r4 b4 p4
  go_upto_region 6 with (go_at_call 54; refine HSC.out.mono ?_; rintro e w5 ⟨f, rfl, hf5, he5, b5⟩)
  have V5 := V4.out.below b5.out
  have q9 := V5.c4
  have q10 := V5.srt f hf5
  have B5 := Lib.hid (B4.out.trans (b5.out.mono B4.out.size))
  have hf6 : (f : Int) < (zs.length : Int) := by omega
  rw [he5] at q10
  clear V5 q8 he5 b5 HSC V4
  go_wp2_with fail
  go_ret2
  exact ⟨rfl, B5⟩
end Go.Proofs.Ytnhcmloaanamnaa
