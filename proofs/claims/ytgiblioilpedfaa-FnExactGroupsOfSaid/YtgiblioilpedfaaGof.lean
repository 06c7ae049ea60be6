/-
  What is proved here: GroupsOf, of both packages, as walks; both contracts. Conditions: at most 1048576 cells.
-/
import Derived.Test.YtgiblioilpedfaaGcl
import Derived.Test.YtgiblioilpedfaaGps
import Derived.Test.YtgiblioilpedfaaRpi
namespace Go.Proofs.Ytgiblioilpedfaa
open Go.RowKit
set_option linter.unusedVariables false

/-- what a function gives that returns two lists of integers, and whether there are any -/
def IIPost (fn gn : Nat) (ff gg : Nat → Int) (b : Bool) (w : World) (e : Ending) (w' : World) : Prop := ∃ A c B d m, e = .returned (.tuple #[.slice A fn c, .slice B gn d, .bool b]) ∧ w.heap.size ≤ m ∧ m ≤ w'.heap.size ∧ Hid (RowW w' w.heap.size m A fn (iv ff)) ∧ Hid (RowW w' m w'.heap.size B gn (iv gg)) ∧ Hid (Below w.heap.size w w')
theorem iipost_no {ff gg : Nat → Int} {w w' : World} (h : Below w.heap.size w w') : IIPost 0 0 ff gg false w (.returned (.tuple #[.slice none 0 0, .slice none 0 0, .bool false])) w' := ⟨none, 0, none, 0, w'.heap.size, rfl, h.size, Nat.le_refl _, RowW.empty (Nat.le_refl _), RowW.empty (Nat.le_refl _), h⟩

theorem specGof (x y : Int) (F : Option Addr) (n f : Nat) (p : Nat → Bool) (w : World) (hn : n ≤ 1048576) (hr : RowV w w.heap.size F n (bo p)) (h : fvB x y n = true) :
    Calls Try.prog 21 #[.agg #[.int .i64 x, .int .i64 y, .slice F n f]] w (IIPost n (szL (gsF p true x y n n)).length (fun j => numG (gsF p true x y n n) j) (atI (szL (gsF p true x y n n))) true w) := by
  have B0 := below_var w x y F n f 40
  have V0 := varT_new w x y F n f 40
  have HI := Lib.hid (specIs w.heap.size x y F n f _ V0 hn)
  have HB := Lib.hid B0
  have HSP := Lib.hid (fun (k : Nat) => specGrpT w.heap.size x y F n f p _ h (V0.drewN (m := k)) ((hr.carry B0).drewN (m := k)))
  rw [h] at HI
  clear hr B0 V0 h
  generalize gsF p true x y n n = Gs at *
  go_enter Try.func21, Try.ntmps21
  go_wp2_with fail
  refine HI.out.mono ?_
  rintro e w1 ⟨rfl, k, rfl⟩
  go_wp2_with fail
  refine (HSP.out k).mono ?_
  rintro e w2 ⟨A, c, B, d, m, rfl, hm, hR, hZ, hb⟩
  have HE : Hid (Below w.heap.size w w2) := (belowN (n := k) HB.out).trans (hb.out.mono HB.out.size)
  have HR := Lib.hid (hR.out.lower HB.out.size)
  have HZ := Lib.hid hZ.out.rowW
  have HM : Hid (w.heap.size ≤ m) := Nat.le_trans HB.out.size hm.out
  have HM2 := Lib.hid hR.out.le
  clear HSP HI hb hR hZ hm
  go_wp2_with fail
  go_ret3
  exact ⟨A, c, B, d, m, rfl, HM.out, HM2.out, HR, HZ, HE⟩
theorem specGofNo (x y : Int) (F : Option Addr) (n f : Nat) (ff gg : Nat → Int) (w : World) (hn : n ≤ 1048576) (h : fvB x y n = false) :
    Calls Try.prog 21 #[.agg #[.int .i64 x, .int .i64 y, .slice F n f]] w (IIPost 0 0 ff gg false w) := by
  have B0 := below_var w x y F n f 40
  have HI := Lib.hid (specIs w.heap.size x y F n f _ (varT_new w x y F n f 40) hn)
  have HB := Lib.hid B0
  rw [h] at HI
  clear B0 h
  go_enter Try.func21, Try.ntmps21
  go_wp2_with fail
  refine HI.out.mono ?_
  rintro e w1 ⟨rfl, k, rfl⟩
  go_wp2_with fail
  go_ret3
  exact iipost_no (belowN HB.out)
theorem implGofNo (x y : Int) (F : Option Addr) (n f : Nat) (ff gg : Nat → Int) (w : World) (hn : n ≤ 1048576) (h : fvB x y n = false) :
    Calls Try.prog 23 #[.agg #[.int .i64 x, .int .i64 y, .slice F n f]] w (IIPost 0 0 ff gg false w) := by
  have B0 := below_var w x y F n f 40
  have V0 := varT_new w x y F n f 40
  have HI := Lib.hid (implValid x y F n f (w.alloc (.cells #[.int .i64 x, .int .i64 y, .slice F n f] 40)) hn)
  have HB := Lib.hid B0
  have v0 := V0.c0
  have v1 := V0.c1
  have v2 := V0.c2
  rw [h] at HI
  clear B0 V0 h
  go_enter Try.func23, Try.ntmps23
  go_wp2_with fail
  refine HI.out.mono ?_
  rintro e w1 ⟨rfl, hb⟩
  have HE : Hid (Below w.heap.size w w1) := HB.out.trans (hb.out.mono HB.out.size)
  clear HI hb
  go_wp2_with fail
  go_ret3
  exact iipost_no HE.out

theorem ButA.refl (A : Option Addr) (w : World) : ButA A w w := ⟨rfl, rfl, rfl, Nat.le_refl _, fun _ _ _ => rfl⟩
theorem ButA.trans {A : Option Addr} {a b c : World} (h : ButA A a b) (g : ButA A b c) : ButA A a c :=
  ⟨g.os.trans h.os, g.tape.trans h.tape, g.output.trans h.output, Nat.le_trans h.size g.size, fun k hk hd => (g.block k (Nat.lt_of_lt_of_le hk h.size) hd).trans (h.block k hk hd)⟩
theorem ButA.far {A C : Option Addr} {a b c : World} (h : ButA A a b) (g : ButA C b c) (hC : ∀ y, C = some y → a.heap.size ≤ y.block) : ButA A a c :=
  ⟨g.os.trans h.os, g.tape.trans h.tape, g.output.trans h.output, Nat.le_trans h.size g.size, fun k hk hd => (g.block k (Nat.lt_of_lt_of_le hk h.size) fun y hy => by have := hC y hy; omega).trans (h.block k hk hd)⟩
theorem RowM.butA {w w' : World} {g n : Nat} {V : Nat → Value} {A : Option Addr} (r : RowM w g n V) (hb : ButA A w w') (hd : ∀ a, A = some a → a.block ≠ g) : RowM w' g n V := by
  have e : w'.heap[g]? = w.heap[g]? := hb.block g r.lt hd
  exact ⟨Nat.lt_of_lt_of_le r.lt hb.size, fun j hj => by rw [World.cell?_of_block (w := w) e]; exact r.cell j hj, fun j hj => by rw [World.frozen?_of_block (w := w) e]; exact r.free j hj⟩
theorem Grps.at2 {w : World} {M : Nat} {Gs : List (List Int)} {Ls : List (Option Addr × Nat × Nat)} {B : Option Addr} {m : Nat} (h : Grps w M Gs Ls B) (hm : m < Gs.length) : ∃ A c, Ls.getD m (none, 0, 0) = (A, (Gs.getD m []).length, c) ∧ RowV w w.heap.size A (Gs.getD m []).length (iv (atI (Gs.getD m []))) ∧ ∀ a, A = some a → M ≤ a.block := by
  refine ⟨(Ls.getD m (none, 0, 0)).1, (Ls.getD m (none, 0, 0)).2.2, ?_, h.row m hm, fun a ha => h.ge m hm a ha⟩
  rw [← h.cnt m hm]
theorem take_snoc1 {α : Type} {L : List α} {d : α} {k : Nat} (h : k < L.length) : L.take (k + 1) = L.take k ++ [L.getD k d] := by
  rw [List.take_succ_eq_append_getElem h, List.getD_eq_getElem?_getD, List.getElem?_eq_getElem h]; rfl

set_option maxHeartbeats 8000000 in
theorem implGof (x y : Int) (F : Option Addr) (n f : Nat) (p : Nat → Bool) (w : World) (hn : n ≤ 1048576) (hr : RowV w w.heap.size F n (bo p)) (h : fvB x y n = true) :
    Calls Try.prog 23 #[.agg #[.int .i64 x, .int .i64 y, .slice F n f]] w (IIPost n (szL (gsF p true x y n n)).length (fun j => numG (gsF p true x y n n) j) (atI (szL (gsF p true x y n n))) true w) := by
  have B0 := below_var w x y F n f 40
  have V0 := varT_new w x y F n f 40
  have HI := Lib.hid (implValid x y F n f (w.alloc (.cells #[.int .i64 x, .int .i64 y, .slice F n f] 40)) hn)
  have HB := Lib.hid B0
  have HV := Lib.hid V0
  obtain ⟨⟨⟨hx1, hx2⟩, hy⟩, hnn, hn1, hn2⟩ := fvB_yes h
  have HOK := Lib.hid (nb_ok hx1 hnn)
  have HCE := Lib.hid (fun W (hW : Below (w.alloc (.cells #[.int .i64 x, .int .i64 y, .slice F n f] 40)).heap.size (w.alloc (.cells #[.int .i64 x, .int .i64 y, .slice F n f] 40)) W) => implCel x y F n f p true W h ((hr.carry B0).carry hW))
  have hgl : (gsF p true x y n n).length ≤ n := grs_len _ _ _ _
  have HGM : Hid (∀ k, k < (gsF p true x y n n).length → ((gsF p true x y n n).getD k []).length ≤ n) := fun k hk => grs_glen HOK.out (Nat.le_refl _) hk
  have HGI : Hid (∀ k, k < (gsF p true x y n n).length → ∀ b ∈ (gsF p true x y n n).getD k [], 0 ≤ b ∧ b < n) := fun k hk => grs_in HOK.out (Nat.le_refl _) hk
  have v0 := V0.c0
  have v1 := V0.c1
  have v2 := V0.c2
  rw [h] at HI
  clear hr B0 V0 h hy hnn HOK
  generalize gsF p true x y n n = Gs at *
  go_enter Try.func23, Try.ntmps23
  go_wp2_with fail
  generalize w.alloc (.cells #[.int .i64 x, .int .i64 y, .slice F n f] 40) = a0 at *
  refine HI.out.mono ?_
  rintro e w1 ⟨rfl, hb⟩
  have B1 : Hid (Below w.heap.size w w1) := HB.out.trans (hb.out.mono HB.out.size)
  have BA1 : Hid (Below a0.heap.size a0 w1) := hb.out
  have V1 := Lib.hid (HV.out.below hb.out)
  have bL := below_oneC w1 (.cells #[.int .i64 (-1)] 2) (Nat.le_refl _)
  have VL := V1.out.below bL
  have u2 := V1.out.c2
  have ul := V1.out.lt
  have cL : (w1.alloc (.cells #[.int .i64 (-1)] 2)).cell? ⟨w1.heap.size, 0, none⟩ = some (.int .i64 (-1)) := by simp [World.cell?, World.alloc, -World.alloc_eq]
  have HRP := Lib.hid (repI (-1) w1.heap.size 0 n 1 (w1.alloc (.cells #[.int .i64 (-1)] 2)) (by simp) cL (by omega))
  have BL := Lib.hid bL
  have VLL := Lib.hid VL
  clear hb HI HB HV v0 v1 v2 bL VL cL
  go_wp2_with fail
  refine HRP.out.mono ?_
  rintro e w3 ⟨rfl, hM, hb3⟩
  have BL3 : Hid (Below w1.heap.size w1 w3) := BL.out.trans (hb3.out.mono BL.out.size)
  have B3 : Hid (Below w.heap.size w w3) := B1.out.trans (BL3.out.mono B1.out.size)
  have BA3 : Hid (Below a0.heap.size a0 w3) := BA1.out.trans (BL3.out.mono BA1.out.size)
  have HCE3 := Lib.hid (HCE.out w3 BA3.out)
  have V3 := Lib.hid (VLL.out.below hb3.out)
  have hg1 : w1.heap.size ≤ (w1.alloc (.cells #[.int .i64 (-1)] 2)).heap.size := BL.out.size
  have hg1w : w.heap.size ≤ (w1.alloc (.cells #[.int .i64 (-1)] 2)).heap.size := Nat.le_trans B1.out.size hg1
  have u0 := V3.out.c0
  have u1 := V3.out.c1
  have t2 := V3.out.c2
  have tl := V3.out.lt
  clear HCE HRP hb3 BL BL3 BA1 BA3 VLL B1 V1 u2 ul hg1
  generalize (w1.alloc (.cells #[.int .i64 (-1)] 2)).heap.size = g1 at *
  go_wp2_with fail
  refine HCE3.out.mono ?_
  rintro e w4 ⟨B, d, Ls, rfl, hS, hG, hb⟩
  have B4 : Hid (Below w.heap.size w w4) := B3.out.trans (hb.out.mono B3.out.size)
  have M4 : Hid (RowM w4 g1 n (iv fun j => numG (Gs.take 0) j)) := (hM.out.below hb.out).ext fun j _ => rfl
  have hg3 : g1 < w3.heap.size := hM.out.lt
  have HLL : Hid (Ls.length = Gs.length) := hG.out.len
  have hls : Ls.length ≤ 256 := by have := HLL.out; omega
  clear HCE3 hb B3 V3 u0 u1 t2 tl hM
  go_wp2_with fail
  generalize w3.heap.size = M3 at *
  generalize hG0 : w4.heap.size = G0 at *
  have HG0 := Lib.hid hG0
  have hg0 : g1 < G0 := by have := M4.out.lt; omega
  clear hG0
  go_loopw [6, 22] (fun o i wr => ∃ (k : Nat) (A : Option Addr) (c : Nat), i = .int .i64 k ∧ k ≤ Ls.length ∧ o = .slice A (szL (Gs.take k)).length c ∧ Hid (GroI wr G0 (szL (Gs.take k)) A c) ∧ Hid (RowM wr g1 n (iv fun j => numG (Gs.take k) j)) ∧ Hid (ButA (some ⟨g1, 0, none⟩) w4 wr)) (fun _ i _ => Ls.length - (intOf i).toNat)
  case atStart => exact ⟨0, none, 0, rfl, Nat.zero_le _, rfl, World.ownsRow_nil _ _ _ _, M4, ButA.refl _ _⟩
  case round =>
    obtain ⟨k, A, c, rfl, hk, rfl, hO, hM, hB⟩ := hrel
    have hgs : ∀ a z, (some (⟨g1, 0, none⟩ : Addr)) = some a → M3 ≤ Addr.block z → a.block ≠ Addr.block z := fun a z ha hz => by
      injection ha with ha
      subst ha
      show g1 ≠ z.block
      omega
    by_cases hkl : k < Ls.length
    · have hkG : k < Gs.length := by have := HLL.out; omega
      have S4 := hS.out.butA hB.out (fun a z ha hz => hgs a z ha (hS.out.lt z hz).1)
      obtain ⟨bg, rfl, hbl, hcg⟩ := S4.at hkl
      obtain ⟨A1, c1, e1, hrw, hge⟩ := hG.out.at2 hkG
      rw [e1] at hcg
      unfold sV at hcg
      dsimp only at hcg
      have hle := HGM.out k hkG
      have HGI1 := Lib.hid (HGI.out k hkG)
      have TK := Lib.hid (take_snoc1 (d := ([] : List Int)) hkG)
      have hG0w : G0 ≤ wr.heap.size := by rw [← HG0.out]; exact hB.out.size
      have hszk : (szL (Gs.take k)).length ≤ 256 := by rw [szL_len, List.length_take]; omega
      have hgk : (Gs.take k).length = k := by rw [List.length_take]; omega
      have HGK := Lib.hid hgk
      clear S4 e1 hgk
      generalize Gs.getD k [] = L1 at *
      have HRW := Lib.hid hrw
      have HGE := Lib.hid hge
      clear hrw hge
      generalize Gs.take k = Gk at *
      have M0 : Hid (RowM wr g1 n (iv fun j : Nat => numG (Gk ++ [L1.take 0]) j)) := hM.out.ext fun j _ => by unfold iv; dsimp only; rw [List.take_zero, num_none]
      go_wp2_with fail
      go_loopw [29] (fun q wq => ∃ t : Nat, q = .int .i64 t ∧ t ≤ L1.length ∧ Hid (RowM wq g1 n (iv fun j : Nat => numG (Gk ++ [L1.take t]) j)) ∧ Hid (ButA (some ⟨g1, 0, none⟩) wr wq) ∧ wq.heap.size = wr.heap.size) (fun q _ => L1.length - (intOf q).toNat)
      case atStart => exact ⟨0, rfl, Nat.zero_le _, M0, ButA.refl _ _, rfl⟩
      case round =>
        clear M0
        obtain ⟨t, rfl, ht, hM2, hB2, hsz⟩ := hrel
        have hBt := Lib.hid (hB.out.trans hB2.out)
        by_cases htl : t < L1.length
        · obtain ⟨b0, off, rfl, hb0, hcell⟩ := (HRW.out.butA hBt.out (Nat.le_refl _) (fun a z ha hz => hgs a z ha (HGE.out z hz))) (by omega)
          have hc := hcell t htl
          unfold iv at hc
          try dsimp only at hc
          obtain ⟨s0, s1⟩ := HGI1.out _ (getD_mem htl)
          rw [← atI_getD] at s0 s1
          obtain ⟨s, hs⟩ : ∃ s : Nat, atI L1 t = (s : Int) := ⟨(atI L1 t).toNat, by omega⟩
          rw [hs] at hc s1
          have hsn : s < n := by omega
          have hd := hM2.out.cell s hsn
          have hf := hM2.out.free s hsn
          unfold iv at hd
          try dsimp only at hd
          have TS : Hid (L1.take (t + 1) = L1.take t ++ [(s : Int)]) := by show _ = _; rw [take_snoc1 (d := 0) htl, ← atI_getD, hs]
          have M3' := Lib.hid ((hM2.out.set (u := .int .i64 (k : Int)) hsn).ext (U := iv fun j : Nat => numG (Gk ++ [L1.take (t + 1)]) j) fun j _ => by rw [TS.out, ← HGK.out]; exact num_put Gk (L1.take t) s j)
          have B3' := Lib.hid (hB2.out.trans (ButA.setCell (q := ⟨g1, s, none⟩) (fun a ha => by injection ha with ha; rw [← ha]) (by simp) (.int .i64 (k : Int))))
          clear hcell hs s0 hM2 hB2 hBt
          go_wp2_with fail
          go_roundw
          case rel => exact ⟨t + 1, by go_num, by omega, M3', B3', by simpa [World.setCell] using hsz⟩
          case measure => simp [intOf]; omega
        · have et : Hid (L1.take t = L1) := List.take_of_length_le (by omega)
          have O2 := Lib.hid (hO.out.butA hB2.out (fun a z ha hz => by
            injection ha with ha
            subst ha
            have := (hO.out.lt z hz).1
            show g1 ≠ z.block
            omega))
          have hGw : G0 ≤ wr.heap.size := by rw [hsz]; exact hG0w
          have hLb : (szL Gk).length ≤ 1048576 := by omega
          clear hO
          go_wp2_with (at_builtin; refine isAppI _ _ rfl ?_; refine wpGroY rfl _ _ rfl (w0 := wr) (y := (L1.length : Int)) O2.out rfl rfl (by first | rfl | simp [Act.eval]) hLb hGw ?_; intro g5 c5 w5 O5 b5 f5; have HO5 := Lib.hid O5; have HB5 := Lib.hid b5; clear O5 b5 f5)
          have hA5 : ∀ y, A = some y → w4.heap.size ≤ y.block := fun y hy => by rw [HG0.out]; exact (O2.out.lt y hy).1
          have M5 := Lib.hid (hM2.out.butA HB5.out (fun a ha => by
            have := (O2.out.lt a ha).1
            omega))
          have B5 := Lib.hid (hBt.out.far HB5.out hA5)
          rw [et.out] at M5
          go_roundw
          case rel => exact ⟨k + 1, _, c5, by go_num, by omega, by rw [TK.out, szL_snoc, List.length_append]; rfl, by rw [TK.out, szL_snoc]; exact HO5, by rw [TK.out]; exact M5, B5⟩
          case measure => simp [intOf]; omega
    · have ek : Hid (Gs.take k = Gs) := List.take_of_length_le (by have := HLL.out; omega)
      have hGw : G0 ≤ wr.heap.size := by rw [← HG0.out]; exact hB.out.size
      have HE := Lib.hid (ButA.below B4.out hB.out B4.out.size (fun a ha => by injection ha with ha; subst ha; exact hg1w))
      rw [ek.out] at hO hM ⊢
      have HN : Hid (RowW wr w.heap.size G0 (some ⟨g1, 0, none⟩) n (iv fun j : Nat => numG Gs j)) := ⟨hGw, fun a ha => by injection ha with ha; subst ha; exact ⟨hg1w, hg0⟩, fun _ => ⟨g1, 0, rfl, hg1w, hg0, fun j hj => by rw [Nat.zero_add]; exact hM.out.cell j hj, fun j hj => by rw [Nat.zero_add]; exact hM.out.free j hj⟩⟩
      have HZ := Lib.hid hO.out.rowW
      have hwG : Hid (w.heap.size ≤ G0) := by show _ ≤ _; rw [← HG0.out]; exact B4.out.size
      go_wp2_with fail
      go_ret3
      exact ⟨_, _, A, c, G0, rfl, hwG.out, hGw, HN, HZ, HE⟩

theorem gofBoth (x y : Int) (n : Nat) (p : Nat → Bool) (hn : n ≤ 1048576) : ∃ (b : Bool) (fn gn : Nat) (ff gg : Nat → Int), fn ≤ 1048576 ∧ gn ≤ 1048576 ∧
    (∀ (W : World) (A : Option Addr) (c : Nat), RowV W W.heap.size A n (bo p) → Calls Try.prog 21 #[.agg #[.int .i64 x, .int .i64 y, .slice A n c]] W fun e w' => ∃ A c B d m, e = .returned (.tuple #[.slice A fn c, .slice B gn d, .bool b]) ∧ W.heap.size ≤ m ∧ m ≤ w'.heap.size ∧ Hid (RowW w' W.heap.size m A fn (iv ff)) ∧ Hid (RowW w' m w'.heap.size B gn (iv gg)) ∧ Hid (Below W.heap.size W w')) ∧
    (∀ (W : World) (A : Option Addr) (c : Nat), RowV W W.heap.size A n (bo p) → Calls Try.prog 23 #[.agg #[.int .i64 x, .int .i64 y, .slice A n c]] W fun e w' => ∃ A c B d m, e = .returned (.tuple #[.slice A fn c, .slice B gn d, .bool b]) ∧ W.heap.size ≤ m ∧ m ≤ w'.heap.size ∧ Hid (RowW w' W.heap.size m A fn (iv ff)) ∧ Hid (RowW w' m w'.heap.size B gn (iv gg)) ∧ Hid (Below W.heap.size W w')) := by
  cases h : fvB x y n with
  | false => exact ⟨false, 0, 0, fun _ => 0, fun _ => 0, by omega, by omega, fun W A c _ => specGofNo x y A n c _ _ W hn h, fun W A c _ => implGofNo x y A n c _ _ W hn h⟩
  | true =>
    have hl : (szL (gsF p true x y n n)).length ≤ 1048576 := by
      rw [szL_len]
      have : (gsF p true x y n n).length ≤ n := grs_len _ _ _ _
      omega
    exact ⟨true, n, _, _, _, hn, hl, fun W A c hr => specGof x y A n c p W hn hr h, fun W A c hr => implGof x y A n c p W hn hr h⟩

end Go.Proofs.Ytgiblioilpedfaa
