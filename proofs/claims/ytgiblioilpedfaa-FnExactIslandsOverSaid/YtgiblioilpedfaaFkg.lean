/-
  What is proved here: all groups of places of a sheet, as the program finds them, as walks. Conditions: sides of a sheet; the test of places is as told.
-/
import Derived.Test.YtgiblioilpedfaaFkw
import Derived.Test.YtgiblioilpedfaaFkb
import Derived.Test.YtgiblioilpedfaaGpv
import Derived.WalkMore
namespace Go.Proofs.Ytgiblioilpedfaa.Fk
open Go.RowKit
set_option linter.unusedVariables false

theorem sides_in {x y : Int} (h : sidesB x y = true) : IntKind.i64.wrap (x * y) = x * y := by
  obtain ⟨a, b⟩ := sides_bd h
  exact IntWalk.i64_in _ (by omega)

theorem modq {x q r : Int} (h0 : 0 ≤ r) (h1 : r < x) : (x * q + r) % x = r := by
  rw [Int.add_comm, Int.add_mul_emod_self_left]
  exact Int.emod_eq_of_lt h0 h1
theorem sidL_sym {x y i : Int} (hx : 1 ≤ x) (h0 : 0 ≤ i) (hi : i < x * y) : ∀ s ∈ sidL x y i, i ∈ sidL x y s := by
  obtain ⟨e, q0, q1, r0, r1⟩ := div_facts hx h0 hi
  intro s hs
  unfold sidL at hs
  rw [List.mem_append, List.mem_append, List.mem_append] at hs
  unfold sidL
  rw [List.mem_append, List.mem_append, List.mem_append]
  rcases hs with ((h | h) | h) | h
  · split at h
    · rw [List.mem_singleton] at h; subst h
      right
      rw [if_pos (by omega), List.mem_singleton]; omega
    · cases h
  · split at h
    · rw [List.mem_singleton] at h; subst h
      have m : (i - 1) % x = i % x - 1 := by
        have := modq (x := x) (q := i / x) (r := i % x - 1) (by omega) (by omega)
        rw [← this]; congr 1; omega
      refine .inl (.inr ?_)
      rw [m, if_pos (by omega), List.mem_singleton]; omega
    · cases h
  · split at h
    · rw [List.mem_singleton] at h; subst h
      have m : (i + 1) % x = i % x + 1 := by
        have := modq (x := x) (q := i / x) (r := i % x + 1) (by omega) (by omega)
        rw [← this]; congr 1; omega
      refine .inl (.inl (.inr ?_))
      rw [m, if_pos (by omega), List.mem_singleton]; omega
    · cases h
  · split at h
    · rw [List.mem_singleton] at h; subst h
      refine .inl (.inl (.inl ?_))
      rw [if_pos (by omega), List.mem_singleton]; omega
    · cases h
theorem nb_ok {x y : Int} {n : Nat} (hx : 1 ≤ x) (hn : (n : Int) = x * y) : NbOk n (sidL x y) :=
  ⟨fun a h0 h1 b hb => by have := sidL_mem hx h0 (by omega) b hb; omega, fun a h0 h1 b hb => sidL_sym hx h0 (by omega) b hb⟩
theorem atI_getD (L : List Int) (j : Nat) : atI L j = L.getD j 0 := rfl

/-- a cell is full, or not, as asked -/
def pqF (p : Nat → Bool) (full : Bool) (b : Int) : Bool := p b.toNat == full
theorem pqF_nat (p : Nat → Bool) (full : Bool) (j : Nat) : pqF p full (j : Int) = (p j == full) := by unfold pqF; rw [Int.toNat_natCast]
/-- the groups of a field, and of its first cells -/
def gsF (p : Nat → Bool) (full : Bool) (x y : Int) (n i : Nat) : List (List Int) := grsG (pqF p full) (sidL x y) n i
/-- looked past the groups before -/
def qsF (p : Nat → Bool) (full : Bool) (x y : Int) (n i : Nat) (b : Int) : Bool := pqF p full b && !inGs (gsF p full x y n i) b
theorem vis_len_le (q : Int → Bool) (L bs : List Int) (j : Nat) : (visG q L (bs.take j)).length ≤ (visG q L bs).length := by
  have e : visG q L bs = visG q (visG q L (bs.take j)) (bs.drop j) := by
    unfold visG
    rw [← List.foldl_append, List.take_append_drop]
  obtain ⟨r, hr⟩ := vis_pre q (bs.drop j) (visG q L (bs.take j))
  rw [e, hr, List.length_append]; omega


theorem first_is (L : List Int) (b : Int) : ∃ R, R ≤ L.length ∧ (∀ t, t < R → (b == atI L t) = false) ∧ (R < L.length → (b == atI L R) = true) ∧ (L.contains b = decide (R < L.length)) := by
  have key : ∀ n, n ≤ L.length → ∃ R, R ≤ n ∧ (∀ t, t < R → (b == atI L t) = false) ∧ (R < n → (b == atI L R) = true) := by
    intro n
    induction n with
    | zero => intro _; exact ⟨0, Nat.le_refl _, fun t ht => absurd ht (Nat.not_lt_zero _), fun h => absurd h (Nat.not_lt_zero _)⟩
    | succ n ih =>
      intro hn
      obtain ⟨R, h1, h2, h3⟩ := ih (by omega)
      by_cases e : R < n
      · exact ⟨R, by omega, h2, fun _ => h3 e⟩
      · have : R = n := by omega
        subst this
        cases hq : (b == atI L R) with
        | false => exact ⟨R + 1, Nat.le_refl _, fun t ht => by
            by_cases g : t = R
            · rw [g]; exact hq
            · exact h2 t (by omega), fun h => by omega⟩
        | true => exact ⟨R, by omega, h2, fun _ => hq⟩
  obtain ⟨R, h1, h2, h3⟩ := key L.length (Nat.le_refl _)
  refine ⟨R, h1, h2, h3, ?_⟩
  by_cases h : R < L.length
  · rw [decide_eq_true h]
    have e := h3 h
    rw [beq_iff_eq] at e
    rw [List.contains_iff_mem, e, atI_getD]
    exact getD_mem h
  · rw [decide_eq_false h]
    cases hc : L.contains b with
    | false => rfl
    | true =>
      rw [List.contains_iff_mem] at hc
      obtain ⟨j, hj, e⟩ := mem_getD hc
      have := h2 j (by omega)
      rw [atI_getD, e] at this
      simp at this

theorem idxI (A : Option Addr) (c B : Nat) (b : Int) (L : List Int) (w : World) (hr : RowV w B A L.length (iv (atI L))) (hn : L.length ≤ 1048576) :
    Calls Try.prog 153 #[.slice A L.length c, .int .i64 b] w fun e w' => e = .returned (.bool (L.contains b)) ∧ w = w' := by
  obtain ⟨R, hR, hall, hend, hcon⟩ := first_is L b
  have HX : Hid (Calls Try.prog 188 #[.slice A L.length c, .int .i64 b] w fun e w' => e = .returned (.int .i64 (if R < L.length then (R : Int) else -1)) ∧ w = w') := by
    show Calls _ _ _ _ _
    have HR := Lib.hid hr
    have HALL := Lib.hid hall
    have HEND := Lib.hid hend
    clear hr hall hend hcon
    go_enter Try.func188, Try.ntmps188
    go_wp2
    go_loopw [8] (fun i wr => ∃ k : Nat, k ≤ R ∧ i = .int .i64 k ∧ w = wr) (fun i _ => R - (intOf i).toNat)
    case atStart => exact ⟨0, Nat.zero_le _, rfl, rfl⟩
    case round =>
      obtain ⟨k, hk, rfl, rfl⟩ := hrel
      by_cases hkn : k < L.length
      · obtain ⟨b0, off, rfl, hb, hcell⟩ := HR.out (by omega)
        have hc := hcell k hkn
        unfold iv at hc
        clear hcell
        have hal := fun h => HALL.out k h
        have hen : k = R → (b == atI L k) = true := fun h => by rw [h]; exact HEND.out (by omega)
        generalize atI L k = v at *
        by_cases hlt : k < R
        · have h0 := hal hlt
          clear hal hen
          go_wp2
          go_roundw
          case rel => exact ⟨k + 1, by omega, by go_num, by trivial⟩
          case measure => simp [intOf]; omega
        · have ek : k = R := by omega
          have h0 := hen ek
          have EK := Lib.hid ek
          clear hal hen ek
          go_wp2
          go_ret
          exact ⟨by rw [EK.out]; rfl, by trivial⟩
      · have ek : k = R := by omega
        have EK := Lib.hid ek
        clear ek
        go_wp2
        go_ret
        exact ⟨by first | rfl | rw [if_neg (show ¬ R < L.length by have := EK.out; omega)], by trivial⟩
  have N := Lib.hid hcon
  clear hr hall hend hcon
  by_cases h : R < L.length
  · have HY := HX
    rw [if_pos h] at HY
    clear HX
    go_enter Try.func153, Try.ntmps153
    go_wp2_with (go_at_call 188; refine HY.out.mono ?_; rintro e w' ⟨rfl, rfl⟩)
    go_ret
    exact ⟨by rw [N.out, decide_eq_true h]; first | rfl | simp, rfl⟩
  · have HY := HX
    rw [if_neg h] at HY
    clear HX
    go_enter Try.func153, Try.ntmps153
    go_wp2_with (go_at_call 188; refine HY.out.mono ?_; rintro e w' ⟨rfl, rfl⟩)
    go_ret
    exact ⟨by rw [N.out, decide_eq_false h]; rfl, rfl⟩


/-- what a test of cells answers, from a world on -/
def CloP (w : World) (v u n : Nat) (q : Int → Bool) : Prop := ∀ (W : World) (s : Nat), Below w.heap.size w W → s < n → Calls Try.prog 68 #[.int .i64 (s : Int), .pointer (some ⟨v, 0, none⟩), .pointer (some ⟨u, 0, none⟩)] W fun e w' => e = .returned (.bool (q s)) ∧ Hid (Below W.heap.size W w')
theorem CloP.up {w w1 : World} {v u n : Nat} {q : Int → Bool} (h : CloP w v u n q) (hb : Below w.heap.size w w1) : CloP w1 v u n q := fun W s hW hs => h W s (hb.trans (hW.mono hb.size)) hs

theorem GroI.adr {w : World} {G c j : Nat} {L : List Int} {A : Option Addr} (h : GroI w G L A c) (hj : j < L.length) : ∃ g, A = some ⟨g, 0, none⟩ := by
  rcases h.cases with ⟨_, _, rfl⟩ | h
  · exact absurd hj (by simp)
  · exact h
theorem GroI.at {w : World} {G c j g : Nat} {L : List Int} (h : GroI w G L (some ⟨g, 0, none⟩) c) (hj : j < L.length) : w.cell? ⟨g, j, none⟩ = some (.int .i64 (atI L j)) := by
  rw [World.ownsRow.cellAt h j (by omega), List.getElem?_map]
  simp [atI, List.getD, hj]

set_option maxHeartbeats 8000000 in
set_option maxRecDepth 100000 in
theorem implGrf (x y : Int) (v u n a : Nat) (q : Int → Bool) (w : World) (hv : sidesB x y = true) (hn : (n : Int) = x * y) (ha : a < n) (h : CloP w v u n q) :
    Calls Try.prog 154 #[.int .i64 x, .int .i64 y, .int .i64 (a : Nat), .func (.func 68) #[] #[.pointer (some ⟨v, 0, none⟩), .pointer (some ⟨u, 0, none⟩)]] w fun e w' => ∃ A c, e = .returned (.slice A (grpG q (sidL x y) n a).length c) ∧ Hid (GroI w' w.heap.size (grpG q (sidL x y) n a) A c) ∧ Hid (Below w.heap.size w w') := by
  have hx := (sidesB_yes hv).1.1
  have hm := (sides_bd hv).2
  have HOK := Lib.hid (nb_ok hx hn)
  have hn289 : n ≤ 289 := by omega
  have HH := Lib.hid h
  have HLE : Hid (∀ k, (seqG q (sidL x y) a k).length ≤ n) := fun k => seq_le HOK.out (by omega) (by omega) k
  have HIN : Hid (∀ k, ∀ z ∈ seqG q (sidL x y) a k, 0 ≤ z ∧ z < n) := fun k => seq_in HOK.out (by omega) (by omega) k
  have HSD : Hid (∀ (i : Int), 0 ≤ i → i < n → ∀ W, Calls Try.prog 87 #[.int .i64 x, .int .i64 y, .int .i64 i] W fun e w' => ∃ A c, e = .returned (.slice A (sidL x y i).length c) ∧ Hid (GroI w' (W.heap.size + 1) (sidL x y i) A c) ∧ Hid (Below W.heap.size W w')) := fun i h0 h1 W => implSid x y i hv h0 (by omega) W
  have HNB : Hid (∀ i, 0 ≤ i → i < (n : Int) → ∀ j, j < (sidL x y i).length → 0 ≤ atI (sidL x y i) j ∧ atI (sidL x y i) j < n) := fun i h0 h1 j hj => HOK.out.inn i h0 h1 _ (getD_mem hj)
  have HL4 : Hid (∀ i, (sidL x y i).length ≤ 4) := fun i => sidL_len x y i
  have O0 : Hid (GroI (w.alloc (.cells #[.int .i64 (a : Nat)] 2)) w.heap.size [(a : Int)] (some ⟨w.heap.size, 0, none⟩) 1) := GroI.lit1 w (Nat.le_refl _) _
  have B0 : Hid (Below w.heap.size w (w.alloc (.cells #[.int .i64 (a : Nat)] 2))) := (Below.refl _ _).alloc (Nat.le_refl _) _
  have HGR : Hid (∀ k, k ≤ n → ¬ k < (seqG q (sidL x y) a k).length → grpG q (sidL x y) n a = seqG q (sidL x y) a k) := fun k hk h => grp_is hk h
  clear hv hn hm h
  generalize hnb : sidL x y = nb at *
  clear hnb
  go_enter Try.func154, Try.ntmps154
  go_wp2_with fail
  generalize hG : w.heap.size = G at *
  have HG := Lib.hid hG
  clear hG
  go_loopw [9, 10] (fun o i wr => ∃ (k : Nat) (A : Option Addr) (c : Nat), i = .int .i64 k ∧ k ≤ n ∧ o = .slice A (seqG q nb a k).length c ∧ Hid (GroI wr G (seqG q nb a k) A c) ∧ Hid (Below G w wr)) (fun _ i _ => n - (intOf i).toNat)
  case atStart => exact ⟨0, _, _, rfl, Nat.zero_le _, rfl, O0, B0⟩
  case round =>
    clear O0 B0
    obtain ⟨k, A, c, rfl, hk, rfl, hO, hB⟩ := hrel
    have hLn := HLE.out k
    have HGk := HGR.out k hk
    have HS := Lib.hid (seqG_yes (q := q) (nb := nb) (a := a) (k := k))
    have hi := fun (h : k < (seqG q nb a k).length) => HIN.out k _ (getD_mem h)
    generalize hLL : seqG q nb a k = L at *
    clear hLL
    by_cases hlt : k < L.length
    · obtain ⟨i0, i1⟩ := hi hlt
      obtain ⟨g, rfl⟩ := hO.out.adr hlt
      have hc := hO.out.at hlt
      have HV := HS.out hlt
      have hgl := hO.out.lt _ rfl
      rw [atI_getD] at hc
      generalize L.getD k 0 = i at *
      have HC := Lib.hid (HSD.out i i0 i1 wr)
      have HSI := Lib.hid (HNB.out i i0 i1)
      have hl4 := HL4.out i
      have HVL : Hid (∀ j, (visG q L ((nb i).take j)).length ≤ 1048576) := fun j => by
        have h1 := vis_len_le q L (nb i) j
        have h2 := HLE.out (k + 1)
        rw [HV] at h2
        omega
      have HVV := Lib.hid HV
      clear HV HS HGk hi HGR
      generalize nb i = bs at *
      go_wp2_with (go_at_call 87; refine HC.out.mono ?_; rintro e w2 ⟨X, d, rfl, hX, hb2⟩)
      have B2 : Hid (Below G w w2) := hB.out.trans (hb2.out.mono (by rw [← HG.out]; exact hB.out.size))
      have O2 := Lib.hid (hO.out.below hb2.out)
      have hfar : Hid (∀ a x, (some (⟨g, 0, none⟩ : Addr)) = some a → X = some x → a.block ≠ x.block) := fun a x ha hx => by
        injection ha with ha
        subst ha
        have := (hX.out.lt _ hx).1
        show g ≠ x.block
        have := hgl.2
        have h3 : g < wr.heap.size := hgl.2
        omega
      generalize wr.heap.size + 1 = M0 at *
      clear hb2 HC hc hO hB hgl
      go_loopw [9, 29] (fun o j wr => ∃ (m : Nat) (A : Option Addr) (c : Nat), j = .int .i64 m ∧ m ≤ bs.length ∧ o = .slice A (visG q L (bs.take m)).length c ∧ Hid (GroI wr G (visG q L (bs.take m)) A c) ∧ Hid (GroI wr M0 bs X d) ∧ Hid (∀ a x, A = some a → X = some x → a.block ≠ x.block) ∧ Hid (Below G w wr)) (fun _ j _ => bs.length - (intOf j).toNat)
      case atStart => exact ⟨0, _, _, rfl, Nat.zero_le _, rfl, O2, hX, hfar, B2⟩
      case round =>
        clear O2 hX hfar B2
        obtain ⟨m, A, c, rfl, hm, rfl, hO, hX, hfar, hB⟩ := hrel
        by_cases hmt : m < bs.length
        · obtain ⟨xg, rfl⟩ := hX.out.adr hmt
          have hcx := hX.out.at hmt
          obtain ⟨s0, s1⟩ := HSI.out m hmt
          obtain ⟨s, hs⟩ : ∃ s : Nat, atI bs m = (s : Int) := ⟨(atI bs m).toNat, by omega⟩
          rw [hs] at hcx s1
          have HST := Lib.hid (visG_take (q := q) (L := L) hmt)
          have hbm : bs[m] = (s : Int) := by rw [← hs, atI_getD, List.getD_eq_getElem?_getD, List.getElem?_eq_getElem hmt]; rfl
          rw [hbm] at HST
          have hsn : s < n := by omega
          have HQ := Lib.hid (HH.out wr s (by rw [HG.out]; exact hB.out) hsn)
          have hLb := HVL.out m
          have hGw : G ≤ wr.heap.size := by rw [← HG.out]; exact hB.out.size
          clear hs hbm s0 s1
          generalize visG q L (bs.take m) = L1 at *
          cases hq : q (s : Int)
          · rw [hq] at HQ
            have S := Lib.hid (HST.out.trans (stepG_no (by rw [hq]; rfl)))
            clear HST hq
            go_wp2_with (go_at_call 68; refine HQ.out.mono ?_; rintro e w2 ⟨rfl, hb2⟩)
            have O2 := Lib.hid (hO.out.below hb2.out)
            have X2 := Lib.hid (hX.out.below hb2.out)
            have B2 : Hid (Below G w w2) := hB.out.trans (hb2.out.mono hGw)
            clear hb2 hcx
            go_roundw
            case rel => exact ⟨m + 1, A, c, by go_num, by omega, by rw [S.out], by rw [S.out]; exact O2, X2, hfar, B2⟩
            case measure => simp [intOf]; omega
          · rw [hq] at HQ
            cases hcn : L1.contains (s : Int)
            · have S := Lib.hid (HST.out.trans (stepG_yes (by rw [hq, hcn]; rfl)))
              have HI : Hid (∀ W, Below wr.heap.size wr W → Calls Try.prog 153 #[.slice A L1.length c, .int .i64 (s : Int)] W fun e w' => e = .returned (.bool false) ∧ W = w') := fun W hW => by
                have := idxI A c W.heap.size (s : Int) L1 W (hO.out.below hW).rowW.toRow hLb
                rwa [hcn] at this
              clear HST hq hcn
              go_wp2_with (first | (go_at_call 68; refine HQ.out.mono ?_; rintro e w2 ⟨rfl, hb2⟩; have O2 := Lib.hid (hO.out.below hb2.out); have X2 := Lib.hid (hX.out.below hb2.out); have B2 : Hid (Below G w w2) := hB.out.trans (hb2.out.mono hGw); have hG2 : G ≤ w2.heap.size := Nat.le_trans hGw hb2.out.size) | (go_at_call 153; refine (HI.out _ hb2.out).mono ?_; rintro e w3 ⟨rfl, rfl⟩; clear hb2) | (at_builtin; refine isAppI _ _ rfl ?_; refine wpGroY rfl _ _ rfl (w0 := w2) (y := (s : Int)) O2.out rfl rfl (by first | rfl | simp [Act.eval]) hLb hG2 ?_; intro g5 c5 w5 O5 b5 f5; have HO5 := Lib.hid O5; have HB5 := Lib.hid b5; have HF5 := Lib.hid f5; clear O5 b5 f5))
              have B5 := Lib.hid (HB5.out.below B2.out hG2 (fun a ha => (O2.out.lt a ha).1))
              have X5 := Lib.hid (X2.out.butA HB5.out hfar.out)
              have F5 : Hid (∀ a x, (some (⟨g5, 0, none⟩ : Addr)) = some a → (some (⟨xg, 0, none⟩ : Addr)) = some x → a.block ≠ x.block) := fun a x ha hx => by
                injection ha with ha
                subst ha
                rcases HF5.out with ⟨b, e1, e2⟩ | h
                · have := hfar.out b x e1 hx
                  show g5 ≠ x.block
                  omega
                · have := (X2.out.lt _ hx).2
                  show g5 ≠ x.block
                  omega
              clear hcx HB5 HF5
              go_roundw
              case rel => exact ⟨m + 1, _, c5, by go_num, by omega, by rw [S.out, List.length_append]; rfl, by rw [S.out]; exact HO5, X5, F5, B5⟩
              case measure => simp [intOf]; omega
            · have S := Lib.hid (HST.out.trans (stepG_no (by rw [hq, hcn]; rfl)))
              have HI : Hid (∀ W, Below wr.heap.size wr W → Calls Try.prog 153 #[.slice A L1.length c, .int .i64 (s : Int)] W fun e w' => e = .returned (.bool true) ∧ W = w') := fun W hW => by
                have := idxI A c W.heap.size (s : Int) L1 W (hO.out.below hW).rowW.toRow hLb
                rwa [hcn] at this
              clear HST hq hcn
              go_wp2_with (first | (go_at_call 68; refine HQ.out.mono ?_; rintro e w2 ⟨rfl, hb2⟩; have O2 := Lib.hid (hO.out.below hb2.out); have X2 := Lib.hid (hX.out.below hb2.out); have B2 : Hid (Below G w w2) := hB.out.trans (hb2.out.mono hGw)) | (go_at_call 153; refine (HI.out _ hb2.out).mono ?_; rintro e w3 ⟨rfl, rfl⟩; clear hb2))
              clear hcx
              go_roundw
              case rel => exact ⟨m + 1, A, c, by go_num, by omega, by rw [S.out], by rw [S.out]; exact O2, X2, hfar, B2⟩
              case measure => simp [intOf]; omega
        · have em : m = bs.length := by omega
          have S : Hid (visG q L (bs.take m) = seqG q nb a (k + 1)) := by show _ = _; rw [em, List.take_length, HVV.out]
          clear em
          go_wp2
          go_roundw
          case rel => exact ⟨k + 1, A, c, by go_num, by omega, by rw [S.out], by rw [← S.out]; exact hO, hB⟩
          case measure => simp [intOf]; omega
    · have N := Lib.hid (HGk hlt)
      go_wp2
      go_ret
      exact ⟨A, c, by rw [N.out]; rfl, by rw [N.out, HG.out]; exact hO, by rw [HG.out]; exact hB⟩


/-- groups, as a row of slices: where each lies, and how long it is -/
structure Grps (w : World) (M : Nat) (Gs : List (List Int)) (Ls : List (Option Addr × Nat × Nat)) (B : Option Addr) : Prop where
  len : Ls.length = Gs.length
  cnt : ∀ j, j < Gs.length → (Ls.getD j (none, 0, 0)).2.1 = (Gs.getD j []).length
  row : ∀ j, j < Gs.length → RowV w w.heap.size (Ls.getD j (none, 0, 0)).1 (Gs.getD j []).length (iv (atI (Gs.getD j [])))
  far : ∀ j, j < Gs.length → ∀ a b, (Ls.getD j (none, 0, 0)).1 = some a → B = some b → a.block ≠ b.block
  lt : ∀ j, j < Gs.length → ∀ a, (Ls.getD j (none, 0, 0)).1 = some a → a.block < w.heap.size
  ge : ∀ j, j < Gs.length → ∀ a, (Ls.getD j (none, 0, 0)).1 = some a → M ≤ a.block
theorem Grps.nil (w : World) (M : Nat) (B : Option Addr) : Grps w M [] [] B := ⟨rfl, fun j h => absurd h (Nat.not_lt_zero _), fun j h => absurd h (Nat.not_lt_zero _), fun j h => absurd h (Nat.not_lt_zero _), fun j h => absurd h (Nat.not_lt_zero _), fun j h => absurd h (Nat.not_lt_zero _)⟩
theorem Grps.below {w w' : World} {M : Nat} {Gs : List (List Int)} {Ls : List (Option Addr × Nat × Nat)} {B : Option Addr} (h : Grps w M Gs Ls B) (hb : Below w.heap.size w w') : Grps w' M Gs Ls B :=
  ⟨h.len, h.cnt, fun j hj => (h.row j hj).carry hb, h.far, fun j hj a ha => Nat.lt_of_lt_of_le (h.lt j hj a ha) hb.size, h.ge⟩
theorem Grps.lower {w : World} {M M' : Nat} {Gs : List (List Int)} {Ls : List (Option Addr × Nat × Nat)} {B : Option Addr} (h : Grps w M Gs Ls B) (hM : M' ≤ M) : Grps w M' Gs Ls B :=
  ⟨h.len, h.cnt, h.row, h.far, h.lt, fun j hj a ha => Nat.le_trans hM (h.ge j hj a ha)⟩
theorem Grps.push {w w' : World} {Gs : List (List Int)} {Ls : List (Option Addr × Nat × Nat)} {B A : Option Addr} {K M c g : Nat} {L : List Int} (h : Grps w M Gs Ls B) (hMK : M ≤ K) (hO : GroI w K L A c) (hM : ∀ b, B = some b → b.block < K) (hb : ButA B w w') (hf : (∃ b, B = some b ∧ b.block = g) ∨ w.heap.size ≤ g) : Grps w' M (Gs ++ [L]) (Ls ++ [(A, L.length, c)]) (some ⟨g, 0, none⟩) := by
  have hl := h.len
  have e1 : ∀ j, j < (Gs ++ [L]).length → (Ls ++ [(A, L.length, c)]).getD j (none, 0, 0) = if j = Gs.length then (A, L.length, c) else Ls.getD j (none, 0, 0) := fun j hj => by
    rw [List.length_append, List.length_singleton] at hj
    rw [getD_snoc _ _ _ _ (by omega), hl]
  have e2 : ∀ j, j < (Gs ++ [L]).length → (Gs ++ [L]).getD j [] = if j = Gs.length then L else Gs.getD j [] := fun j hj => by
    rw [List.length_append, List.length_singleton] at hj
    exact getD_snoc _ _ _ _ (by omega)
  have hlt : ∀ j, j < (Gs ++ [L]).length → j ≠ Gs.length → j < Gs.length := fun j hj hne => by
    rw [List.length_append, List.length_singleton] at hj
    omega
  refine ⟨by rw [List.length_append, List.length_append, hl]; rfl, fun j hj => ?_, fun j hj => ?_, fun j hj a b ha hb2 => ?_, fun j hj a ha => ?_, fun j hj a ha => ?_⟩
  · rw [e1 j hj, e2 j hj]
    by_cases e : j = Gs.length
    · rw [if_pos e, if_pos e]
    · rw [if_neg e, if_neg e]; exact h.cnt j (hlt j hj e)
  · rw [e1 j hj, e2 j hj]
    by_cases e : j = Gs.length
    · rw [if_pos e, if_pos e]
      refine (hO.rowW.toRow.butA hb (Nat.le_refl _) fun a x ha hx => ?_).mono hb.size
      have := hM a ha
      have := (hO.lt x hx).1
      omega
    · rw [if_neg e, if_neg e]
      refine ((h.row j (hlt j hj e)).butA hb (Nat.le_refl _) fun a x ha hx => ?_).mono hb.size
      exact fun e2 => h.far j (hlt j hj e) x a hx ha e2.symm
  · injection hb2 with hb2
    subst hb2
    rw [e1 j hj] at ha
    by_cases e : j = Gs.length
    · rw [if_pos e] at ha
      have h1 := hO.lt a ha
      rcases hf with ⟨b, q1, q2⟩ | hf
      · have := hM b q1
        show a.block ≠ g
        omega
      · show a.block ≠ g
        omega
    · rw [if_neg e] at ha
      rcases hf with ⟨b, q1, q2⟩ | hf
      · have := h.far j (hlt j hj e) a b ha q1
        show a.block ≠ g
        omega
      · have := h.lt j (hlt j hj e) a ha
        show a.block ≠ g
        omega
  · rw [e1 j hj] at ha
    by_cases e : j = Gs.length
    · rw [if_pos e] at ha
      exact Nat.lt_of_lt_of_le (hO.lt a ha).2 hb.size
    · rw [if_neg e] at ha
      exact Nat.lt_of_lt_of_le (h.lt j (hlt j hj e) a ha) hb.size
  · rw [e1 j hj] at ha
    by_cases e : j = Gs.length
    · rw [if_pos e] at ha
      exact Nat.le_trans hMK (hO.lt a ha).1
    · rw [if_neg e] at ha
      exact h.ge j (hlt j hj e) a ha
theorem inGs_of {Gs : List (List Int)} {b : Int} (h : ∀ t, t < Gs.length → (Gs.getD t []).contains b = false) : inGs Gs b = false := by
  unfold inGs
  rw [List.any_eq_false]
  intro G hG
  obtain ⟨j, hj, rfl⟩ := List.getElem_of_mem hG
  have := h j hj
  rw [List.getD_eq_getElem?_getD, List.getElem?_eq_getElem hj] at this
  rw [show Gs[j].contains b = false from this]; decide
theorem inGs_at {Gs : List (List Int)} {b : Int} {t : Nat} (ht : t < Gs.length) (h : (Gs.getD t []).contains b = true) : inGs Gs b = true := inGs_mem.2 ⟨_, getD_memG ht, List.contains_iff_mem.1 h⟩

theorem isAppS {ops : Array Oper} {rest : List Oper} {o : Oper} {a : Act} {Q : Exit → Act → World → Prop} {w : World} (s x : Operand)
    (ho : o.op = .call { callee := .builtin .append, args := #[s, x], argTypes := #[87, 87] }) (h : wpList Try.prog ops Q (o :: rest) a w) : wpList Try.prog ops Q (o :: rest) a w := h

set_option maxHeartbeats 8000000 in
set_option maxRecDepth 100000 in
theorem implGro (x y : Int) (v u n : Nat) (q : Int → Bool) (w : World) (hv : sidesB x y = true) (hn : (n : Int) = x * y) (h : CloP w v u n q) :
    Calls Try.prog 67 #[.int .i64 x, .int .i64 y, .func (.func 68) #[] #[.pointer (some ⟨v, 0, none⟩), .pointer (some ⟨u, 0, none⟩)]] w fun e w' => ∃ B d Ls, e = .returned (.slice B Ls.length d) ∧ Hid (GroS w' w.heap.size Ls B d) ∧ Hid (Grps w' w.heap.size (grsG q (sidL x y) n n) Ls B) ∧ Hid (Below w.heap.size w w') := by
  have hx := (sidesB_yes hv).1.1
  have hm := (sides_bd hv).2
  have HOK := Lib.hid (nb_ok hx hn)
  have hn289 : n ≤ 289 := by omega
  have HH := Lib.hid h
  have hwm : IntKind.i64.wrap (x * y) = (n : Int) := by rw [hn]; exact sides_in hv
  have HF : Hid (∀ W (a : Nat), Below w.heap.size w W → a < n → Calls Try.prog 154 #[.int .i64 x, .int .i64 y, .int .i64 (a : Nat), .func (.func 68) #[] #[.pointer (some ⟨v, 0, none⟩), .pointer (some ⟨u, 0, none⟩)]] W fun e w' => ∃ A c, e = .returned (.slice A (grpG q (sidL x y) n a).length c) ∧ Hid (GroI w' W.heap.size (grpG q (sidL x y) n a) A c) ∧ Hid (Below W.heap.size W w')) := fun W a hW ha => implGrf x y v u n a q W hv hn ha (h.up hW)
  have HGL : Hid (∀ k, (grsG q (sidL x y) n k).length ≤ k) := fun k => grs_len _ _ _ k
  have HGM : Hid (∀ i, i ≤ n → ∀ k, k < (grsG q (sidL x y) n i).length → ((grsG q (sidL x y) n i).getD k []).length ≤ n) := fun i hi k hk => grs_glen HOK.out hi hk
  have HGZ : Hid (∀ a : Nat, a < n → (grpG q (sidL x y) n a).length ≤ n) := fun a ha => seq_le HOK.out (by omega) (by omega) n
  clear hv hn hm h HOK hx
  generalize hnb : sidL x y = nb at *
  clear hnb
  go_enter Try.func67, Try.ntmps67
  go_wp2_with fail
  try go_step3
  go_wp2_with fail
  try go_step3
  go_wp2_with fail
  generalize hG : w.heap.size = G at *
  have HG := Lib.hid hG
  clear hG
  go_loopw [7, 14] (fun o i wr => ∃ (k : Nat) (B : Option Addr) (d : Nat) (Ls : List (Option Addr × Nat × Nat)), i = .int .i64 k ∧ k ≤ n ∧ o = .slice B Ls.length d ∧ Hid (GroS wr G Ls B d) ∧ Hid (Grps wr G (grsG q nb n k) Ls B) ∧ Hid (Below G w wr)) (fun _ i _ => n - (intOf i).toNat)
  case atStart => exact ⟨0, none, 0, [], rfl, Nat.zero_le _, rfl, GroS.nil _ _, Grps.nil _ _ _, Below.refl _ _⟩
  case round =>
    obtain ⟨k, B, d, Ls, rfl, hk, rfl, hO, hR, hB⟩ := hrel
    by_cases hkn : k < n
    · have HQ := Lib.hid (HH.out wr k (by rw [HG.out]; exact hB.out) hkn)
      have hGw : G ≤ wr.heap.size := by rw [← HG.out]; exact hB.out.size
      have HN := Lib.hid (grs_no (p := q) (nb := nb) (N := n) (i := k))
      have HY := Lib.hid (grs_yes (p := q) (nb := nb) (N := n) (i := k))
      have hgl := HGL.out k
      have HGk := Lib.hid (HGM.out k hk)
      generalize hGS : grsG q nb n k = Gs at *
      clear hGS
      have HLL : Hid (Ls.length = Gs.length) := hR.out.len
      have hls : Ls.length ≤ 289 := by have := HLL.out; omega
      cases hq : q (k : Int)
      · rw [hq] at HQ
        have S := Lib.hid (HN.out (by rw [hq]; rfl))
        clear HN HY hq
        go_wp2_with (go_at_call 68; refine HQ.out.mono ?_; rintro e w2 ⟨rfl, hb2⟩)
        have O2 := Lib.hid (hO.out.below hb2.out)
        have R2 := Lib.hid (hR.out.below hb2.out)
        have B2 : Hid (Below G w w2) := hB.out.trans (hb2.out.mono hGw)
        clear hb2
        go_roundw
        case rel => exact ⟨k + 1, B, d, Ls, by go_num, by omega, rfl, O2, by rw [S.out]; exact R2, B2⟩
        case measure => simp [intOf]; omega
      · rw [hq] at HQ
        have HQT := Lib.hid hq
        clear hq
        go_wp2_with (go_at_call 68; refine HQ.out.mono ?_; rintro e w2 ⟨rfl, hb2⟩)
        have O2 := Lib.hid (hO.out.below hb2.out)
        have R2 := Lib.hid (hR.out.below hb2.out)
        have B2 : Hid (Below G w w2) := hB.out.trans (hb2.out.mono hGw)
        have hG2 : G ≤ w2.heap.size := Nat.le_trans hGw hb2.out.size
        clear hb2 hO hR hB HQ hGw
        go_loopw [23] (fun j wr => ∃ m : Nat, j = .int .i64 m ∧ m ≤ Ls.length ∧ Hid (∀ t, t < m → (Gs.getD t []).contains (k : Int) = false) ∧ wr = w2) (fun j _ => Ls.length - (intOf j).toNat)
        case atStart => exact ⟨0, rfl, Nat.zero_le _, fun t ht => absurd ht (Nat.not_lt_zero _), rfl⟩
        case round =>
          obtain ⟨m, rfl, hm, hA, rfl⟩ := hrel
          by_cases hml : m < Ls.length
          · obtain ⟨bg, rfl, hbl, hcg⟩ := O2.out.at hml
            have hm2 : m < Gs.length := by have := HLL.out; omega
            have hcn := R2.out.cnt m hm2
            have hrw := R2.out.row m hm2
            have hle := HGk.out m hm2
            have HIN := Lib.hid (fun h => inGs_at (b := (k : Int)) hm2 h)
            have HI := fun c => idxI (Ls.getD m (none, 0, 0)).1 c wr.heap.size (k : Int) (Gs.getD m []) wr hrw (by omega)
            unfold sV at hcg
            rw [hcn] at hcg
            have HI := Lib.hid (HI (Ls.getD m (none, 0, 0)).2.2)
            have HST : Hid ((Gs.getD m []).contains (k : Int) = false → ∀ t, t < m + 1 → (Gs.getD t []).contains (k : Int) = false) := fun h t ht => by
              by_cases e : t = m
              · rw [e]; exact h
              · exact hA.out t (by omega)
            clear hcn hrw hA
            generalize Gs.getD m [] = L1 at *
            generalize (Ls.getD m (none, 0, 0)).1 = A1 at *
            generalize (Ls.getD m (none, 0, 0)).2.2 = c1 at *
            generalize L1.length = n1 at *
            cases hc : L1.contains (k : Int)
            · have HS2 := Lib.hid (HST.out hc)
              rw [hc] at HI
              clear HIN HST hc
              go_wp2_with (go_at_call 153; refine HI.out.mono ?_; rintro e w3 ⟨rfl, rfl⟩)
              go_roundw
              case rel => exact ⟨m + 1, by go_num, by omega, HS2, by trivial⟩
              case measure => simp [intOf]; omega
            · have S := Lib.hid (HN.out (by rw [HQT.out, HIN.out hc]; rfl))
              rw [hc] at HI
              clear HIN HST hc HN HY
              go_wp2_with (go_at_call 153; refine HI.out.mono ?_; rintro e w3 ⟨rfl, rfl⟩)
              go_roundw
              case rel => exact ⟨k + 1, _, d, Ls, by go_num, by omega, rfl, O2, by rw [S.out]; exact R2, B2⟩
              case measure => simp [intOf]; omega
          · have S := Lib.hid (HY.out (by rw [HQT.out, inGs_of (fun t ht => hA.out t (by have := HLL.out; omega))]; rfl))
            have HGF := Lib.hid (HF.out wr k B2.out hkn)
            have hz := HGZ.out k hkn
            generalize grpG q nb n (k : Int) = L1 at *
            clear HN HY hA HGk
            go_wp2_with (first | (go_at_call 154; refine HGF.out.mono ?_; rintro e w3 ⟨A1, c1, rfl, hO1, hb3⟩; have O3 := Lib.hid (O2.out.below hb3.out); have R3 := Lib.hid (R2.out.below hb3.out); have B3 : Hid (Below G w w3) := B2.out.trans (hb3.out.mono hG2); have hG3 : G ≤ w3.heap.size := Nat.le_trans hG2 hb3.out.size; clear hb3) | (at_builtin; refine isAppS _ _ rfl ?_; refine wpGroZ rfl _ _ rfl (w0 := w3) (y := (A1, L1.length, c1)) O3.out rfl rfl (by first | rfl | simp [Act.eval]) (by omega) hG3 ?_; intro g5 c5 w5 O5 b5 f5; have HO5 := Lib.hid O5; have HB5 := Lib.hid b5; have HF5 := Lib.hid f5; clear O5 b5 f5))
            have B5 := Lib.hid (HB5.out.below B3.out hG3 (fun a ha => (O3.out.lt a ha).1))
            have R5 := Lib.hid (R3.out.push hG2 hO1.out (fun b hb => (O2.out.lt b hb).2) HB5.out HF5.out)
            go_roundw
            case rel => exact ⟨k + 1, _, c5, Ls ++ [(A1, L1.length, c1)], by go_num, by omega, by rw [List.length_append]; rfl, HO5, by rw [S.out]; exact R5, B5⟩
            case measure => simp [intOf]; omega
    · have ek : k = n := by omega
      subst ek
      go_wp2
      try rw [Exit.noGoto_ret]
      go_ret
      exact ⟨B, d, Ls, rfl, by first | exact hO | (rw [HG.out]; exact hO), by first | exact hR | (rw [HG.out]; exact hR), by first | exact hB | (rw [HG.out]; exact hB)⟩

end Go.Proofs.Ytgiblioilpedfaa.Fk
