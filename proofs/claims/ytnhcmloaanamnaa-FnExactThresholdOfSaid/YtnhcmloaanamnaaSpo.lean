/-
  What is proved here: SpansOf, of both packages, as walks; both contracts. Conditions: at most 1048576 cells.
-/
import Derived.Test.YtnhcmloaanamnaaSpn
namespace Go.Proofs.Ytnhcmloaanamnaa
open Go.RowKit
set_option linter.unusedVariables false

/-- what a function gives that returns a list of integers, and whether there is one -/
def IPost (L : List Int) (b : Bool) (w : World) (e : Ending) (w' : World) : Prop := ∃ A c, e = .returned (.tuple #[.slice A L.length c, .bool b]) ∧ Hid (RowW w' w.heap.size w'.heap.size A L.length (iv (atI L))) ∧ Hid (Below w.heap.size w w')
theorem ipost_no {w w' : World} (h : Below w.heap.size w w') : IPost [] false w (.returned (.tuple #[.slice none 0 0, .bool false])) w' := ⟨none, 0, rfl, RowW.empty (Nat.le_refl _), h⟩
def spR (x y : Int) (n : Nat) (p : Nat → Bool) : List Int := if fvB x y n = true then spL x n (gsF p true x y n n) (gsF p true x y n n).length else []

theorem spR_no {x y : Int} {n : Nat} {p : Nat → Bool} (h : fvB x y n = false) : spR x y n p = [] := by unfold spR; rw [h, if_neg (by decide)]
theorem spR_yes {x y : Int} {n : Nat} {p : Nat → Bool} (h : fvB x y n = true) : spR x y n p = spL x n (gsF p true x y n n) (gsF p true x y n n).length := by unfold spR; rw [if_pos h]


theorem Grps.at {w : World} {M : Nat} {Gs : List (List Int)} {Ls : List (Option Addr × Nat × Nat)} {B : Option Addr} {m : Nat} (h : Grps w M Gs Ls B) (hm : m < Gs.length) : ∃ A c, Ls.getD m (none, 0, 0) = (A, (Gs.getD m []).length, c) ∧ RowV w w.heap.size A (Gs.getD m []).length (iv (atI (Gs.getD m []))) := by
  refine ⟨(Ls.getD m (none, 0, 0)).1, (Ls.getD m (none, 0, 0)).2.2, ?_, h.row m hm⟩
  rw [← h.cnt m hm]

set_option maxHeartbeats 4000000 in
theorem implSpn (x y : Int) (F : Option Addr) (n f : Nat) (p : Nat → Bool) (w : World) (hn : n ≤ 1048576) (hr : RowV w w.heap.size F n (bo p)) :
    Calls Try.prog 93 #[.agg #[.int .i64 x, .int .i64 y, .slice F n f]] w (IPost (spR x y n p) (fvB x y n) w) := by
  have B0 := below_var w x y F n f 66
  have V0 := varT_new w x y F n f 66
  have HI := Lib.hid (implValid x y F n f (w.alloc (.cells #[.int .i64 x, .int .i64 y, .slice F n f] 66)) hn)
  cases h : fvB x y n
  · have N := Lib.hid (spR_no (p := p) h)
    have HB := Lib.hid B0
    have v0 := V0.c0
    have v1 := V0.c1
    have v2 := V0.c2
    rw [h] at HI
    clear hr B0 V0 h
    go_enter Try.func93, Try.ntmps93
    go_wp2_with fail
    refine HI.out.mono ?_
    rintro e w1 ⟨rfl, hb⟩
    have HE : Hid (Below w.heap.size w w1) := HB.out.trans (hb.out.mono HB.out.size)
    clear HI hb
    go_wp2_with fail
    go_ret2
    rw [N.out]
    exact ipost_no HE.out
  · have N := Lib.hid (spR_yes (p := p) h)
    have HB := Lib.hid B0
    have HV := Lib.hid V0
    obtain ⟨⟨⟨hx1, hx2⟩, hy⟩, hnn, hn1, hn2⟩ := fvB_yes h
    have HOK := Lib.hid (nb_ok hx1 hnn)
    have HCE := Lib.hid (fun W (hW : Below (w.alloc (.cells #[.int .i64 x, .int .i64 y, .slice F n f] 66)).heap.size (w.alloc (.cells #[.int .i64 x, .int .i64 y, .slice F n f] 66)) W) => implCel x y F n f p true W h ((hr.carry B0).carry hW))
    have hgl : (gsF p true x y n n).length ≤ n := grs_len _ _ _ _
    have HGM : Hid (∀ k, k < (gsF p true x y n n).length → ((gsF p true x y n n).getD k []).length ≤ n) := fun k hk => grs_glen HOK.out (Nat.le_refl _) hk
    have v0 := V0.c0
    have v1 := V0.c1
    have v2 := V0.c2
    rw [h] at HI
    clear hr B0 V0 h hy hnn HOK
    generalize gsF p true x y n n = Gs at *
    go_enter Try.func93, Try.ntmps93
    go_wp2_with fail
    generalize w.alloc (.cells #[.int .i64 x, .int .i64 y, .slice F n f] 66) = a0 at *
    refine HI.out.mono ?_
    rintro e w1 ⟨rfl, hb⟩
    have B1 : Hid (Below w.heap.size w w1) := HB.out.trans (hb.out.mono HB.out.size)
    have HCE1 := Lib.hid (HCE.out w1 hb.out)
    have V1 := Lib.hid (HV.out.below hb.out)
    have u0 := V1.out.c0
    have u1 := V1.out.c1
    have u2 := V1.out.c2
    have ul := V1.out.lt
    clear HCE hb HI HB HV v0 v1 v2
    go_wp2_with fail
    refine HCE1.out.mono ?_
    rintro e w2 ⟨B, d, Ls, rfl, hS, hG, hb⟩
    have B2 : Hid (Below w.heap.size w w2) := B1.out.trans (hb.out.mono B1.out.size)
    have V2 := Lib.hid (V1.out.below hb.out)
    have HLL : Hid (Ls.length = Gs.length) := hG.out.len
    have hls : Ls.length ≤ 256 := by have := HLL.out; omega
    clear HCE1 hb B1 V1 u0 u1 u2 ul
    go_wp2_with fail
    generalize hG0 : w2.heap.size = G0 at *
    have HG0 := Lib.hid hG0
    clear hG0
    go_loopw [4, 15] (fun o i wr => ∃ (k : Nat) (A : Option Addr) (c : Nat), i = .int .i64 k ∧ k ≤ Ls.length ∧ o = .slice A (spL x n Gs k).length c ∧ Hid (GroI wr G0 (spL x n Gs k) A c) ∧ Hid (Below G0 w2 wr)) (fun _ i _ => Ls.length - (intOf i).toNat)
    case atStart => exact ⟨0, none, 0, rfl, Nat.zero_le _, rfl, World.ownsRow_nil _ _ _ _, Below.refl _ _⟩
    case round =>
      obtain ⟨k, A, c, rfl, hk, rfl, hO, hB⟩ := hrel
      have hBw : Below w2.heap.size w2 wr := by rw [HG0.out]; exact hB.out
      by_cases hkl : k < Ls.length
      · have hkG : k < Gs.length := by have := HLL.out; omega
        obtain ⟨bg, rfl, hbl, hcg⟩ := (hS.out.below hBw).at hkl
        obtain ⟨A1, c1, e1, hrw⟩ := (hG.out.below hBw).at hkG
        rw [e1] at hcg
        unfold sV at hcg
        dsimp only at hcg
        have hle := HGM.out k hkG
        have VR := V2.out.below hBw
        have HC1 := Lib.hid (fun W (hW : Below wr.heap.size wr W) => conAbv A1 c1 w.heap.size x y F n f (Gs.getD k []) W (VR.below hW) hn (by omega) (hrw.carry hW) (by omega))
        have HC2 := Lib.hid (fun W (hW : Below wr.heap.size wr W) => conBlw A1 c1 w.heap.size x y F n f (Gs.getD k []) W (VR.below hW) hn (by omega) (hrw.carry hW) (by omega))
        have SY := Lib.hid (spL_yes (x := x) (n := n) (Gs := Gs) (k := k))
        have SN := Lib.hid (spL_no (x := x) (n := n) (Gs := Gs) (k := k))
        have hsp : Hid (spnB x n (Gs.getD k []) = (abvB x (Gs.getD k []) && blwB x n (Gs.getD k []))) := rfl
        have hsl := spL_le x n Gs k
        have hG0w : G0 ≤ wr.heap.size := by rw [← HG0.out]; exact hBw.size
        clear hrw VR e1 hBw
        generalize spL x n Gs k = L at *
        generalize Gs.getD k [] = L1 at *
        generalize L1.length = n1 at *
        cases ha : abvB x L1 <;> cases hb : blwB x n L1
        all_goals
          rw [ha] at HC1
          rw [hb] at HC2
        rotate_right
        · have S := Lib.hid (SY.out (by rw [hsp.out, ha, hb]; rfl))
          have hLb : L.length ≤ 1048576 := by omega
          clear SY SN ha hb
          go_wp2_with (first | (go_at_call 117; (with_reducible refine (HC1.out _ (Below.refl _ _)).mono ?_); rintro e w3 ⟨rfl, hb3⟩) | (go_at_call 117; (with_reducible refine (HC2.out _ hb3.out).mono ?_); rintro e w4 ⟨rfl, hb4⟩; have HB4 := Lib.hid (hb3.out.trans (hb4.out.mono hb3.out.size)); have O4 := Lib.hid ((hO.out.below hb3.out).below hb4.out); have B4 : Hid (Below G0 w2 w4) := hB.out.trans (HB4.out.mono hG0w); have hG4 : G0 ≤ w4.heap.size := Nat.le_trans hG0w HB4.out.size; clear hb3 hb4) | (at_builtin; refine isAppI _ _ rfl ?_; refine wpGroY rfl _ _ rfl (w0 := w4) (y := (k : Int)) O4.out rfl rfl (by first | rfl | simp [Act.eval]) hLb hG4 ?_; intro g5 c5 w5 O5 b5 f5; have HO5 := Lib.hid O5; have HB5 := Lib.hid b5; clear O5 b5 f5))
          have B5 := Lib.hid (HB5.out.below B4.out hG4 (fun a ha => (O4.out.lt a ha).1))
          go_roundw
          case rel => exact ⟨k + 1, _, c5, by go_num, by omega, by rw [S.out, List.length_append]; rfl, by rw [S.out]; exact HO5, B5⟩
          case measure => simp [intOf]; omega
        all_goals
          have S := Lib.hid (SN.out (by rw [hsp.out, ha, hb]; rfl))
          clear SY SN ha hb
          go_wp2_with (first | (go_at_call 117; (with_reducible refine (HC1.out _ (Below.refl _ _)).mono ?_); rintro e w3 ⟨rfl, hb3⟩) | (go_at_call 117; (with_reducible refine (HC2.out _ hb3.out).mono ?_); rintro e w4 ⟨rfl, hb4⟩; have HB4 := Lib.hid (hb3.out.trans (hb4.out.mono hb3.out.size)); have O4 := Lib.hid ((hO.out.below hb3.out).below hb4.out); have B4 : Hid (Below G0 w2 w4) := hB.out.trans (HB4.out.mono hG0w); clear hb3 hb4))
          go_roundw
          case rel => exact ⟨k + 1, A, c, by go_num, by omega, by rw [S.out], by rw [S.out]; exact O4, B4⟩
          case measure => simp [intOf]; omega
      · have ek : k = Ls.length := by omega
        have HE : Hid (Below w.heap.size w wr) := B2.out.trans (hB.out.mono (by rw [← HG0.out]; exact B2.out.size))
        have NN : Hid (spL x n Gs k = spR x y n p) := by show _ = _; rw [N.out, ek, HLL.out]
        have HR := Lib.hid (hO.out.rowW.lower (by rw [← HG0.out]; exact B2.out.size : w.heap.size ≤ G0))
        clear ek
        go_wp2
        go_ret2
        rw [← NN.out]
        exact ⟨A, c, rfl, HR, HE⟩

theorem spR_len (x y : Int) (n : Nat) (p : Nat → Bool) : (spR x y n p).length ≤ 1048576 := by
  cases h : fvB x y n with
  | false => rw [spR_no h]; simp
  | true =>
    obtain ⟨_, _, _, hn2⟩ := fvB_yes h
    rw [spR_yes h]
    have h1 := spL_le x n (gsF p true x y n n) (gsF p true x y n n).length
    have h2 : (gsF p true x y n n).length ≤ n := grs_len _ _ _ _
    omega

end Go.Proofs.Ytnhcmloaanamnaa
