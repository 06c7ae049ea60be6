/-
  What is proved here: IslandsOver, of the program, as a walk. Conditions: at most 1048576 heights.
-/
import Derived.Test.YtgiblioilpedfaaIlp
namespace Go.Proofs.Ytgiblioilpedfaa
open Flt Go.RowKit
set_option linter.unusedVariables false

/-- what IslandsOver gives -/
def IlPost (x y : Int) (zs : List Nat) (lv : Nat) (w : World) (e : Ending) (w' : World) : Prop := e = .returned (.tuple #[.int .i64 (ilN x y zs lv : Nat), .int .i64 (ilM x y zs lv : Nat), .bool (ilB x y zs lv)]) ∧ Hid (Below w.heap.size w w')
theorem ilpost_no {x y : Int} {zs : List Nat} {lv : Nat} {w w' : World} (h : ilB x y zs lv = false) (hb : Below w.heap.size w w') : IlPost x y zs lv w (.returned (.tuple #[.int .i64 0, .int .i64 0, .bool false])) w' := by
  obtain ⟨h1, h2⟩ := il_no h
  unfold IlPost
  rw [h, h1, h2]
  exact ⟨rfl, hb⟩
theorem take_snocI {α : Type} {L : List α} {d : α} {k : Nat} (h : k < L.length) : L.take (k + 1) = L.take k ++ [L.getD k d] := by
  rw [List.take_succ_eq_append_getElem h, List.getD_eq_getElem?_getD, List.getElem?_eq_getElem h]; rfl

set_option maxHeartbeats 4000000 in
theorem implIsl (x y : Int) (lv : Nat) (A : Option Addr) (c : Nat) (zs : List Nat) (w : World) (hr : RowF w w.heap.size A zs) (hn : zs.length ≤ 1048576) :
    Calls Try.prog 18 #[.agg #[.int .i64 x, .int .i64 y, .slice A zs.length c], .float .f32 lv] w (IlPost x y zs lv w) := by
  obtain ⟨B0, V0, L0⟩ := two_lev w x y A zs.length c lv 29 25
  have HV := Lib.hid V0
  have HL := Lib.hid L0
  have HC := Lib.hid (implValid x y A c zs _ (hr.carry B0) hn)
  have HB := Lib.hid B0
  have HR := Lib.hid (hr.carry B0)
  have l0 := L0.cell
  clear hr B0 L0
  obtain ⟨v1, v2, v3, v4⟩ := V0
  cases h : shB x y zs
  · have N : Hid (ilB x y zs lv = false) := by show _ = _; unfold ilB; rw [h]; rfl
    have H1 := Lib.hid h
    clear h
    go_enter Try.func18, Try.ntmps18
    go_wp2_with fail
    refine HC.out.mono ?_
    rintro e w1 ⟨rfl, hb⟩
    rw [H1.out]
    have HE : Hid (Below w.heap.size w w1) := HB.out.trans (hb.out.mono HB.out.size)
    clear HC hb
    go_wp2_with fail
    go_ret3
    exact ilpost_no N.out HE.out
  · have H1 := Lib.hid h
    cases h2 : finB .f32 lv
    · have N : Hid (ilB x y zs lv = false) := by show _ = _; unfold ilB; rw [h, h2]; rfl
      have H2 := Lib.hid h2
      clear h h2
      go_enter Try.func18, Try.ntmps18
      go_wp2_with fail
      refine HC.out.mono ?_
      rintro e w1 ⟨rfl, hb⟩
      rw [H1.out]
      have HE : Hid (Below w.heap.size w w1) := HB.out.trans (hb.out.mono HB.out.size)
      have l1 := (HL.out.below hb.out).cell
      clear HC hb
      go_wp2_with (go_at_call 66; refine (implFin _ _).mono ?_; rintro e w' ⟨rfl, n2, rfl⟩; rw [H2.out])
      go_ret3
      exact ilpost_no N.out (belowN HE.out)
    · have N : Hid (ilB x y zs lv = true) := by show _ = _; unfold ilB; rw [h, h2]; rfl
      have NY := Lib.hid (il_yes N.out)
      have H2 := Lib.hid h2
      obtain ⟨hsd, ⟨hx1, hx2⟩, ⟨hy1, hy2⟩, hnn, hn289, hn1⟩ := shB_xyI h
      have hok := Fk.nb_ok hx1 hnn
      have hgl : (gsI zs lv x y zs.length).length ≤ zs.length := grs_len _ _ _ _
      have HGM : Hid (∀ k, k < (gsI zs lv x y zs.length).length → ((gsI zs lv x y zs.length).getD k []).length ≤ zs.length) := fun k hk => grs_glen hok (Nat.le_refl _) hk
      clear h h2
      go_enter Try.func18, Try.ntmps18
      go_wp2_with fail
      refine HC.out.mono ?_
      rintro e w1 ⟨rfl, hb⟩
      rw [H1.out]
      have HE : Hid (Below w.heap.size w w1) := HB.out.trans (hb.out.mono HB.out.size)
      have LV := Lib.hid (HL.out.below hb.out)
      have V1 := Lib.hid (HV.out.below hb.out)
      have R1 := Lib.hid (HR.out.carry hb.out)
      have l1 := LV.out.cell
      have c0 := V1.out.c0
      have c1 := V1.out.c1
      have c2 := V1.out.c2
      have hlt := V1.out.lt
      have HGO := Lib.hid (fun k : Nat => Fk.implGro x y w.heap.size (w.heap.size + 1) zs.length (pqI zs lv) (w1.drewN k) hsd hnn (fun W s hW hs => cloIsl w.heap.size (w.heap.size + 1) s c x y A zs lv W (V1.out.below ((belowN (n := k) (Below.refl _ _)).trans hW)) (LV.out.below ((belowN (n := k) (Below.refl _ _)).trans hW)) (R1.out.carry ((belowN (n := k) (Below.refl _ _)).trans hW)) hs hn))
      change Hid (∀ k : Nat, Calls Try.prog 67 #[.int .i64 x, .int .i64 y, .func (.func 68) #[] #[.pointer (some ⟨w.heap.size, 0, none⟩), .pointer (some ⟨w.heap.size + 1, 0, none⟩)]] (w1.drewN k) fun e w' => ∃ B d Ls, e = .returned (.slice B Ls.length d) ∧ Hid (Fk.GroS w' (w1.drewN k).heap.size Ls B d) ∧ Hid (Fk.Grps w' (w1.drewN k).heap.size (gsI zs lv x y zs.length) Ls B) ∧ Hid (Below (w1.drewN k).heap.size (w1.drewN k) w')) at HGO
      clear HC hb HV HR HL hsd hnn hok v1 v2 v3 v4 l0
      generalize gsI zs lv x y zs.length = Gs at *
      go_wp2_with (go_at_call 66; refine (implFin _ _).mono ?_; rintro e w' ⟨rfl, n2, rfl⟩; rw [H2.out])
      refine (HGO.out n2).mono ?_
      rintro e w2 ⟨B, d, Ls, rfl, hS, hG, hb⟩
      have B2 : Hid (Below w.heap.size w w2) := (belowN (n := n2) HE.out).trans (hb.out.mono HE.out.size)
      have HLL : Hid (Ls.length = Gs.length) := hG.out.len
      have hls : Ls.length ≤ 289 := by have := HLL.out; omega
      clear HGO hb HE LV V1 R1 l1 c0 c1 c2 hlt HB
      go_wp2_with fail
      go_loopw [8, 27] (fun o i wr => ∃ (k : Nat), i = .int .i64 k ∧ k ≤ Ls.length ∧ o = .int .i64 (mxL (Gs.take k) : Nat) ∧ wr = w2) (fun _ i _ => Ls.length - (intOf i).toNat)
      case atStart => exact ⟨0, rfl, Nat.zero_le _, rfl, rfl⟩
      case round =>
        obtain ⟨k, rfl, hk, rfl, rfl⟩ := hrel
        by_cases hkl : k < Ls.length
        · have hkG : k < Gs.length := by have := HLL.out; omega
          obtain ⟨bg, rfl, hbl, hcg⟩ := hS.out.at hkl
          have hct := hG.out.cnt k hkG
          unfold Fk.sV at hcg
          rw [hct] at hcg
          have hle := HGM.out k hkG
          have TK : Hid (mxL (Gs.take (k + 1)) = max (mxL (Gs.take k)) (Gs.getD k []).length) := by show _ = _; rw [take_snocI (d := ([] : List Int)) hkG, mxL_snoc]
          generalize mxL (Gs.take k) = m at *
          generalize (Gs.getD k []).length = n1 at *
          clear hct
          by_cases hmx : m ≤ n1
          · have TM : Hid (mxL (Gs.take (k + 1)) = n1) := by show _ = _; rw [TK.out]; omega
            go_wp2_with fail
            go_roundw
            case rel => exact ⟨k + 1, by go_num, by omega, by rw [TM.out]; first | rfl | simp; omega, by trivial⟩
            case measure => simp [intOf]; omega
          · have TM : Hid (mxL (Gs.take (k + 1)) = m) := by show _ = _; rw [TK.out]; omega
            go_wp2_with fail
            go_roundw
            case rel => exact ⟨k + 1, by go_num, by omega, by rw [TM.out]; first | rfl | simp; omega, by trivial⟩
            case measure => simp [intOf]; omega
        · have ek : Hid (Gs.take k = Gs) := List.take_of_length_le (by have := HLL.out; omega)
          rw [ek.out]
          go_wp2_with fail
          go_ret3
          unfold IlPost
          rw [N.out, NY.out.1, NY.out.2, HLL.out]
          exact ⟨rfl, B2⟩

end Go.Proofs.Ytgiblioilpedfaa
