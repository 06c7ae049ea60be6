/-
  What is proved here: all groups of a field, as the program finds them (groupsOf), as a walk. Conditions: sides of a field; the test of cells is as told.
-/
import Derived.Test.YtnhcmloaanamnaaGpf
import Derived.Test.YtnhcmloaanamnaaGpv
import Derived.WalkMore
namespace Go.Proofs.Ytnhcmloaanamnaa
open Go.RowKit
set_option linter.unusedVariables false

/-- groups, as a row of slices: where each lies, and how long it is -/
structure Grps (w : World) (M : Nat) (Gs : List (List Int)) (Ls : List (Option Addr × Nat × Nat)) (B : Option Addr) : Prop where
  len : Ls.length = Gs.length
  cnt : ∀ j, j < Gs.length → (Ls.getD j (none, 0, 0)).2.1 = (Gs.getD j []).length
  row : ∀ j, j < Gs.length → RowV w w.heap.size (Ls.getD j (none, 0, 0)).1 (Gs.getD j []).length (iv (atI (Gs.getD j [])))
  far : ∀ j, j < Gs.length → ∀ a b, (Ls.getD j (none, 0, 0)).1 = some a → B = some b → a.block ≠ b.block
  lt : ∀ j, j < Gs.length → ∀ a, (Ls.getD j (none, 0, 0)).1 = some a → a.block < w.heap.size
  ge : ∀ j, j < Gs.length → ∀ a, (Ls.getD j (none, 0, 0)).1 = some a → M ≤ a.block
theorem Grps.nil (w : World) (M : Nat) (B : Option Addr) : Grps w M [] [] B := ⟨rfl, fun j h => absurd h (Nat.not_lt_zero _), fun j h => absurd h (Nat.not_lt_zero _), fun j h => absurd h (Nat.not_lt_zero _), fun j h => absurd h (Nat.not_lt_zero _), fun j h => absurd h (Nat.not_lt_zero _)⟩
theorem Grps.below {w w' : World} {M : Nat} {Gs : List (List Int)} {Ls : List (Option Addr × Nat × Nat)} {B : Option Addr} (h : Grps w M Gs Ls B) (hb : Below w.heap.size w w') : Grps w' M Gs Ls B :=
  ⟨h.len, h.cnt, fun j hj => (h.row j hj).carry hb, h.far, fun j hj a ha => Nat.lt_of_lt_of_le (h.lt j hj a ha) hb.size, h.ge⟩
theorem Grps.lower {w : World} {M M' : Nat} {Gs : List (List Int)} {Ls : List (Option Addr × Nat × Nat)} {B : Option Addr} (h : Grps w M Gs Ls B) (hM : M' ≤ M) : Grps w M' Gs Ls B :=
  ⟨h.len, h.cnt, h.row, h.far, h.lt, fun j hj a ha => Nat.le_trans hM (h.ge j hj a ha)⟩
theorem Grps.push {w w' : World} {Gs : List (List Int)} {Ls : List (Option Addr × Nat × Nat)} {B A : Option Addr} {K M c g : Nat} {L : List Int} (h : Grps w M Gs Ls B) (hMK : M ≤ K) (hO : GroI w K L A c) (hM : ∀ b, B = some b → b.block < K) (hb : ButA B w w') (hf : (∃ b, B = some b ∧ b.block = g) ∨ w.heap.size ≤ g) : Grps w' M (Gs ++ [L]) (Ls ++ [(A, L.length, c)]) (some ⟨g, 0, none⟩) := by
  have hl := h.len
  have e1 : ∀ j, j < (Gs ++ [L]).length → (Ls ++ [(A, L.length, c)]).getD j (none, 0, 0) = if j = Gs.length then (A, L.length, c) else Ls.getD j (none, 0, 0) := fun j hj => by
    rw [List.length_append, List.length_singleton] at hj
    rw [getD_snoc _ _ _ _ (by omega), hl]
  have e2 : ∀ j, j < (Gs ++ [L]).length → (Gs ++ [L]).getD j [] = if j = Gs.length then L else Gs.getD j [] := fun j hj => by
    rw [List.length_append, List.length_singleton] at hj
    exact getD_snoc _ _ _ _ (by omega)
  have hlt : ∀ j, j < (Gs ++ [L]).length → j ≠ Gs.length → j < Gs.length := fun j hj hne => by
    rw [List.length_append, List.length_singleton] at hj
    omega
  refine ⟨by rw [List.length_append, List.length_append, hl]; rfl, fun j hj => ?_, fun j hj => ?_, fun j hj a b ha hb2 => ?_, fun j hj a ha => ?_, fun j hj a ha => ?_⟩
  · rw [e1 j hj, e2 j hj]
    by_cases e : j = Gs.length
    · rw [if_pos e, if_pos e]
    · rw [if_neg e, if_neg e]; exact h.cnt j (hlt j hj e)
  · rw [e1 j hj, e2 j hj]
    by_cases e : j = Gs.length
    · rw [if_pos e, if_pos e]
      refine (hO.rowW.toRow.butA hb (Nat.le_refl _) fun a x ha hx => ?_).mono hb.size
      have := hM a ha
      have := (hO.lt x hx).1
      omega
    · rw [if_neg e, if_neg e]
      refine ((h.row j (hlt j hj e)).butA hb (Nat.le_refl _) fun a x ha hx => ?_).mono hb.size
      exact fun e2 => h.far j (hlt j hj e) x a hx ha e2.symm
  · injection hb2 with hb2
    subst hb2
    rw [e1 j hj] at ha
    by_cases e : j = Gs.length
    · rw [if_pos e] at ha
      have h1 := hO.lt a ha
      rcases hf with ⟨b, q1, q2⟩ | hf
      · have := hM b q1
        show a.block ≠ g
        omega
      · show a.block ≠ g
        omega
    · rw [if_neg e] at ha
      rcases hf with ⟨b, q1, q2⟩ | hf
      · have := h.far j (hlt j hj e) a b ha q1
        show a.block ≠ g
        omega
      · have := h.lt j (hlt j hj e) a ha
        show a.block ≠ g
        omega
  · rw [e1 j hj] at ha
    by_cases e : j = Gs.length
    · rw [if_pos e] at ha
      exact Nat.lt_of_lt_of_le (hO.lt a ha).2 hb.size
    · rw [if_neg e] at ha
      exact Nat.lt_of_lt_of_le (h.lt j (hlt j hj e) a ha) hb.size
  · rw [e1 j hj] at ha
    by_cases e : j = Gs.length
    · rw [if_pos e] at ha
      exact Nat.le_trans hMK (hO.lt a ha).1
    · rw [if_neg e] at ha
      exact h.ge j (hlt j hj e) a ha
theorem inGs_of {Gs : List (List Int)} {b : Int} (h : ∀ t, t < Gs.length → (Gs.getD t []).contains b = false) : inGs Gs b = false := by
  unfold inGs
  rw [List.any_eq_false]
  intro G hG
  obtain ⟨j, hj, rfl⟩ := List.getElem_of_mem hG
  have := h j hj
  rw [List.getD_eq_getElem?_getD, List.getElem?_eq_getElem hj] at this
  rw [show Gs[j].contains b = false from this]; decide
theorem inGs_at {Gs : List (List Int)} {b : Int} {t : Nat} (ht : t < Gs.length) (h : (Gs.getD t []).contains b = true) : inGs Gs b = true := inGs_mem.2 ⟨_, getD_memG ht, List.contains_iff_mem.1 h⟩

theorem isAppS {ops : Array Oper} {rest : List Oper} {o : Oper} {a : Act} {Q : Exit → Act → World → Prop} {w : World} (s x : Operand)
    (ho : o.op = .call { callee := .builtin .append, args := #[s, x], argTypes := #[113, 113] }) (h : wpList Try.prog ops Q (o :: rest) a w) : wpList Try.prog ops Q (o :: rest) a w := h

set_option maxHeartbeats 8000000 in
set_option maxRecDepth 100000 in
theorem implGro (x y : Int) (v u n : Nat) (q : Int → Bool) (w : World) (hv : sidB x y = true) (hn : (n : Int) = x * y) (h : CloP w v u n q) :
    Calls Try.prog 127 #[.int .i64 x, .int .i64 y, .func (.func 128) #[] #[.pointer (some ⟨v, 0, none⟩), .pointer (some ⟨u, 0, none⟩)]] w fun e w' => ∃ B d Ls, e = .returned (.slice B Ls.length d) ∧ Hid (GroS w' w.heap.size Ls B d) ∧ Hid (Grps w' w.heap.size (grsG q (sidL x y) n n) Ls B) ∧ Hid (Below w.heap.size w w') := by
  have hx := (sidB_yes hv).1.1
  have hm := (sid_bd hv).2
  have HOK := Lib.hid (nb_ok hx hn)
  have hn256 : n ≤ 256 := by omega
  have HH := Lib.hid h
  have hwm : IntKind.i64.wrap (x * y) = (n : Int) := by rw [hn]; exact sid_in hv
  have HF : Hid (∀ W (a : Nat), Below w.heap.size w W → a < n → Calls Try.prog 133 #[.int .i64 x, .int .i64 y, .int .i64 (a : Nat), .func (.func 128) #[] #[.pointer (some ⟨v, 0, none⟩), .pointer (some ⟨u, 0, none⟩)]] W fun e w' => ∃ A c, e = .returned (.slice A (grpG q (sidL x y) n a).length c) ∧ Hid (GroI w' W.heap.size (grpG q (sidL x y) n a) A c) ∧ Hid (Below W.heap.size W w')) := fun W a hW ha => implGrf x y v u n a q W hv hn ha (h.up hW)
  have HGL : Hid (∀ k, (grsG q (sidL x y) n k).length ≤ k) := fun k => grs_len _ _ _ k
  have HGM : Hid (∀ i, i ≤ n → ∀ k, k < (grsG q (sidL x y) n i).length → ((grsG q (sidL x y) n i).getD k []).length ≤ n) := fun i hi k hk => grs_glen HOK.out hi hk
  have HGZ : Hid (∀ a : Nat, a < n → (grpG q (sidL x y) n a).length ≤ n) := fun a ha => seq_le HOK.out (by omega) (by omega) n
  clear hv hn hm h HOK hx
  generalize hnb : sidL x y = nb at *
  clear hnb
  go_enter Try.func127, Try.ntmps127
  go_wp2_with fail
  try go_step3
  go_wp2_with fail
  try go_step3
  go_wp2_with fail
  generalize hG : w.heap.size = G at *
  have HG := Lib.hid hG
  clear hG
  go_loopw [7, 14] (fun o i wr => ∃ (k : Nat) (B : Option Addr) (d : Nat) (Ls : List (Option Addr × Nat × Nat)), i = .int .i64 k ∧ k ≤ n ∧ o = .slice B Ls.length d ∧ Hid (GroS wr G Ls B d) ∧ Hid (Grps wr G (grsG q nb n k) Ls B) ∧ Hid (Below G w wr)) (fun _ i _ => n - (intOf i).toNat)
  case atStart => exact ⟨0, none, 0, [], rfl, Nat.zero_le _, rfl, GroS.nil _ _, Grps.nil _ _ _, Below.refl _ _⟩
  case round =>
    obtain ⟨k, B, d, Ls, rfl, hk, rfl, hO, hR, hB⟩ := hrel
    by_cases hkn : k < n
    · have HQ := Lib.hid (HH.out wr k (by rw [HG.out]; exact hB.out) hkn)
      have hGw : G ≤ wr.heap.size := by rw [← HG.out]; exact hB.out.size
      have HN := Lib.hid (grs_no (p := q) (nb := nb) (N := n) (i := k))
      have HY := Lib.hid (grs_yes (p := q) (nb := nb) (N := n) (i := k))
      have hgl := HGL.out k
      have HGk := Lib.hid (HGM.out k hk)
      generalize hGS : grsG q nb n k = Gs at *
      clear hGS
      have HLL : Hid (Ls.length = Gs.length) := hR.out.len
      have hls : Ls.length ≤ 256 := by have := HLL.out; omega
      cases hq : q (k : Int)
      · rw [hq] at HQ
        have S := Lib.hid (HN.out (by rw [hq]; rfl))
        clear HN HY hq
        go_wp2_with (go_at_call 128; refine HQ.out.mono ?_; rintro e w2 ⟨rfl, hb2⟩)
        have O2 := Lib.hid (hO.out.below hb2.out)
        have R2 := Lib.hid (hR.out.below hb2.out)
        have B2 : Hid (Below G w w2) := hB.out.trans (hb2.out.mono hGw)
        clear hb2
        go_roundw
        case rel => exact ⟨k + 1, B, d, Ls, by go_num, by omega, rfl, O2, by rw [S.out]; exact R2, B2⟩
        case measure => simp [intOf]; omega
      · rw [hq] at HQ
        have HQT := Lib.hid hq
        clear hq
        go_wp2_with (go_at_call 128; refine HQ.out.mono ?_; rintro e w2 ⟨rfl, hb2⟩)
        have O2 := Lib.hid (hO.out.below hb2.out)
        have R2 := Lib.hid (hR.out.below hb2.out)
        have B2 : Hid (Below G w w2) := hB.out.trans (hb2.out.mono hGw)
        have hG2 : G ≤ w2.heap.size := Nat.le_trans hGw hb2.out.size
        clear hb2 hO hR hB HQ hGw
        go_loopw [23] (fun j wr => ∃ m : Nat, j = .int .i64 m ∧ m ≤ Ls.length ∧ Hid (∀ t, t < m → (Gs.getD t []).contains (k : Int) = false) ∧ wr = w2) (fun j _ => Ls.length - (intOf j).toNat)
        case atStart => exact ⟨0, rfl, Nat.zero_le _, fun t ht => absurd ht (Nat.not_lt_zero _), rfl⟩
        case round =>
          obtain ⟨m, rfl, hm, hA, rfl⟩ := hrel
          by_cases hml : m < Ls.length
          · obtain ⟨bg, rfl, hbl, hcg⟩ := O2.out.at hml
            have hm2 : m < Gs.length := by have := HLL.out; omega
            have hcn := R2.out.cnt m hm2
            have hrw := R2.out.row m hm2
            have hle := HGk.out m hm2
            have HIN := Lib.hid (fun h => inGs_at (b := (k : Int)) hm2 h)
            have HI := fun c => idxI (Ls.getD m (none, 0, 0)).1 c wr.heap.size (k : Int) (Gs.getD m []) wr hrw (by omega)
            unfold sV at hcg
            rw [hcn] at hcg
            have HI := Lib.hid (HI (Ls.getD m (none, 0, 0)).2.2)
            have HST : Hid ((Gs.getD m []).contains (k : Int) = false → ∀ t, t < m + 1 → (Gs.getD t []).contains (k : Int) = false) := fun h t ht => by
              by_cases e : t = m
              · rw [e]; exact h
              · exact hA.out t (by omega)
            clear hcn hrw hA
            generalize Gs.getD m [] = L1 at *
            generalize (Ls.getD m (none, 0, 0)).1 = A1 at *
            generalize (Ls.getD m (none, 0, 0)).2.2 = c1 at *
            generalize L1.length = n1 at *
            cases hc : L1.contains (k : Int)
            · have HS2 := Lib.hid (HST.out hc)
              rw [hc] at HI
              clear HIN HST hc
              go_wp2_with (go_at_call 132; refine HI.out.mono ?_; rintro e w3 ⟨rfl, rfl⟩)
              go_roundw
              case rel => exact ⟨m + 1, by go_num, by omega, HS2, by trivial⟩
              case measure => simp [intOf]; omega
            · have S := Lib.hid (HN.out (by rw [HQT.out, HIN.out hc]; rfl))
              rw [hc] at HI
              clear HIN HST hc HN HY
              go_wp2_with (go_at_call 132; refine HI.out.mono ?_; rintro e w3 ⟨rfl, rfl⟩)
              go_roundw
              case rel => exact ⟨k + 1, _, d, Ls, by go_num, by omega, rfl, O2, by rw [S.out]; exact R2, B2⟩
              case measure => simp [intOf]; omega
          · have S := Lib.hid (HY.out (by rw [HQT.out, inGs_of (fun t ht => hA.out t (by have := HLL.out; omega))]; rfl))
            have HGF := Lib.hid (HF.out wr k B2.out hkn)
            have hz := HGZ.out k hkn
            generalize grpG q nb n (k : Int) = L1 at *
            clear HN HY hA HGk
            go_wp2_with (first | (go_at_call 133; refine HGF.out.mono ?_; rintro e w3 ⟨A1, c1, rfl, hO1, hb3⟩; have O3 := Lib.hid (O2.out.below hb3.out); have R3 := Lib.hid (R2.out.below hb3.out); have B3 : Hid (Below G w w3) := B2.out.trans (hb3.out.mono hG2); have hG3 : G ≤ w3.heap.size := Nat.le_trans hG2 hb3.out.size; clear hb3) | (at_builtin; refine isAppS _ _ rfl ?_; refine wpGroZ rfl _ _ rfl (w0 := w3) (y := (A1, L1.length, c1)) O3.out rfl rfl (by first | rfl | simp [Act.eval]) (by omega) hG3 ?_; intro g5 c5 w5 O5 b5 f5; have HO5 := Lib.hid O5; have HB5 := Lib.hid b5; have HF5 := Lib.hid f5; clear O5 b5 f5))
            have B5 := Lib.hid (HB5.out.below B3.out hG3 (fun a ha => (O3.out.lt a ha).1))
            have R5 := Lib.hid (R3.out.push hG2 hO1.out (fun b hb => (O2.out.lt b hb).2) HB5.out HF5.out)
            go_roundw
            case rel => exact ⟨k + 1, _, c5, Ls ++ [(A1, L1.length, c1)], by go_num, by omega, by rw [List.length_append]; rfl, HO5, by rw [S.out]; exact R5, B5⟩
            case measure => simp [intOf]; omega
    · have ek : k = n := by omega
      subst ek
      go_wp2
      try rw [Exit.noGoto_ret]
      go_ret
      exact ⟨B, d, Ls, rfl, by first | exact hO | (rw [HG.out]; exact hO), by first | exact hR | (rw [HG.out]; exact hR), by first | exact hB | (rw [HG.out]; exact hB)⟩

end Go.Proofs.Ytnhcmloaanamnaa
