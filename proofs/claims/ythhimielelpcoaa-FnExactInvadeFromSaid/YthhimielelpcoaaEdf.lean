/-
  What is proved here: how the program fills a cell of a growing field, and what its edge is then, as a walk. Conditions: a valid size, a cell of it.
-/
import Derived.Test.YthhimielelpcoaaEdg
import Derived.Test.YthhimielelpcoaaSdi
import Derived.Test.YthhimielelpcoaaSdk
import Derived.Test.YthhimielelpcoaaGpf0
namespace Go.Proofs.Ythhimielelpcoaa
open Go.RowKit
set_option linter.unusedVariables false
set_option linter.unusedSimpArgs false

def fiP (p : Nat → Bool) (c : Nat) : Nat → Bool := fun j => decide (j = c) || p j
def fiE (S : List Int) (q e : Nat → Bool) (c : Nat) : Nat → Bool := fun k => (S.contains (k : Int) && !q k) || (!decide (k = c) && e k)
theorem fiE_nil (q e : Nat → Bool) (c k : Nat) : fiE [] q e c k = (!decide (k = c) && e k) := by
  unfold fiE
  simp
theorem fiE_put {S : List Int} {q e : Nat → Bool} {c s : Nat} (h : q s = false) (k : Nat) : fiE (S ++ [(s : Int)]) q e c k = (decide (k = s) || fiE S q e c k) := by
  unfold fiE
  by_cases h1 : k = s
  · subst h1; simp [h]
  · have : ¬ (k : Int) = (s : Int) := by omega
    simp [h1, this]
theorem fiE_keep {S : List Int} {q e : Nat → Bool} {c s : Nat} (h : q s = true) (k : Nat) : fiE (S ++ [(s : Int)]) q e c k = fiE S q e c k := by
  unfold fiE
  by_cases h1 : k = s
  · subst h1; simp [h]
  · have : ¬ (k : Int) = (s : Int) := by omega
    simp [this]

/-- a variable that holds a growing field and its edge -/
structure VarG (w : World) (v : Nat) (x y : Int) (FB n f B : Nat) : Prop where
  lt : v < w.heap.size
  c0 : w.cell? ⟨v, 0, none⟩ = some (.int .i64 x)
  c1 : w.cell? ⟨v, 1, none⟩ = some (.int .i64 y)
  c2 : w.cell? ⟨v, 2, none⟩ = some (.slice (some ⟨FB, 0, none⟩) n f)
  c3 : w.cell? ⟨v, 3, none⟩ = some (.map (some B))
theorem VarG.heap {w w' : World} {v FB n f B : Nat} {x y : Int} (h : VarG w v x y FB n f B) (e : w'.heap[v]? = w.heap[v]?) : VarG w' v x y FB n f B :=
  ⟨(by
    rcases Nat.lt_or_ge v w'.heap.size with g | g
    · exact g
    · rw [Array.getElem?_eq_none g] at e
      have := Array.getElem?_eq_none_iff.1 e.symm
      have := h.lt
      omega), (World.cell?_of_block (w := w) e).trans h.c0, (World.cell?_of_block (w := w) e).trans h.c1, (World.cell?_of_block (w := w) e).trans h.c2, (World.cell?_of_block (w := w) e).trans h.c3⟩
theorem varG_new (w : World) (x y : Int) (FB n f B : Nat) (t : TypeId) : VarG (w.alloc (.cells #[.int .i64 x, .int .i64 y, .slice (some ⟨FB, 0, none⟩) n f, .map (some B)] t)) w.heap.size x y FB n f B :=
  ⟨by simp, by simp [World.cell?, World.alloc, -World.alloc_eq], by simp [World.cell?, World.alloc, -World.alloc_eq], by simp [World.cell?, World.alloc, -World.alloc_eq], by simp [World.cell?, World.alloc, -World.alloc_eq]⟩
theorem RowM.heap {w w' : World} {g n : Nat} {V : Nat → Value} (r : RowM w g n V) (e : w'.heap[g]? = w.heap[g]?) : RowM w' g n V :=
  ⟨by
    rcases Nat.lt_or_ge g w'.heap.size with h | h
    · exact h
    · rw [Array.getElem?_eq_none h] at e
      have := Array.getElem?_eq_none_iff.1 e.symm
      have := r.lt
      omega, fun j hj => by rw [World.cell?_of_block (w := w) e]; exact r.cell j hj, fun j hj => by rw [World.frozen?_of_block (w := w) e]; exact r.free j hj⟩
theorem ButIn.grown {lo hi B : Nat} {a b w : World} (h : ButIn lo hi a b) (g : b.grownBy w (some B)) (h1 : lo ≤ B) (h2 : B < hi) : ButIn lo hi a w :=
  ⟨g.os.trans h.os, g.tape.trans h.tape, g.output.trans h.output, Nat.le_trans h.size g.size, fun k hk hd => (g.block k (Nat.lt_of_lt_of_le hk h.size) (by intro e; injection e with e; omega)).trans (h.block k hk hd)⟩
theorem GroI.grown {w w' : World} {G c B : Nat} {L : List Int} {A : Option Addr} (o : GroI w G L A c) (g : w.grownBy w' (some B)) (h : B < G) : GroI w' G L A c :=
  o.but (l := B) (h := B + 1) ⟨g.os, g.tape, g.output, g.size, fun k hk hd => g.block k hk (by intro e; injection e with e; omega)⟩ fun a ha => by have := (o.lt a ha).1; omega

set_option maxHeartbeats 8000000 in
set_option maxRecDepth 1000000 in
theorem implFil (x y : Int) (n f m FB B c lo hi : Nat) (p e : Nat → Bool) (w : World) (hv : sidB x y = true) (hn : (n : Int) = x * y) (hc : c < n) (hm : m ≤ 1000000)
    (h1 : lo ≤ FB) (h2 : FB < hi) (h3 : lo ≤ B) (h4 : B < hi) (h5 : FB ≠ B) (h6 : hi ≤ w.heap.size) (hr : RowM w FB n (bo p)) (he : EdM w B m e n) :
    Calls Try.prog 59 #[.agg #[.int .i64 x, .int .i64 y, .slice (some ⟨FB, 0, none⟩) n f, .map (some B)], .int .i64 (c : Int)] w fun en w' => en = .returned (.tuple #[]) ∧ Hid (RowM w' FB n (bo (fiP p c))) ∧ Hid (EdM w' B (m + 4) (fiE (sidL x y c) (fiP p c) e c) n) ∧ Hid (ButIn lo hi w w') := by
  obtain ⟨⟨hx, _⟩, hy⟩ := sidB_yes hv
  have hn2 : n ≤ 256 := by have := (sid_bd hv).2; omega
  have HSL : Hid (∀ j, j < (sidL x y c).length → ∃ s : Nat, atI (sidL x y c) j = (s : Int) ∧ s < n) := fun j hj => by
    have h := sidL_mem hx (Int.natCast_nonneg c) (by omega) _ (getD_mem hj)
    exact ⟨(atI (sidL x y c) j).toNat, by have h0 : 0 ≤ atI (sidL x y c) j := h.1; omega, by have h0 : 0 ≤ atI (sidL x y c) j := h.1; have h1 : atI (sidL x y c) j < x * y := h.2; omega⟩
  have HTK : Hid (∀ j (hj : j < (sidL x y c).length), (sidL x y c).take (j + 1) = (sidL x y c).take j ++ [atI (sidL x y c) j]) := fun j hj => by
    rw [List.take_succ_eq_append_getElem hj, atI_getD, List.getD_eq_getElem?_getD, List.getElem?_eq_getElem hj]; rfl
  have HS4 := Lib.hid (sidL_len x y c)
  have HSI : Hid (∀ W, Calls Try.prog 109 #[.int .i64 x, .int .i64 y, .int .i64 c] W fun e w' => ∃ A ac, e = .returned (.slice A (sidL x y c).length ac) ∧ Hid (GroI w' (W.heap.size + 1) (sidL x y c) A ac) ∧ Hid (Below W.heap.size W w')) := fun W => implSid x y c hv (Int.natCast_nonneg c) (by omega) W
  have V1 := varG_new w x y FB n f B 89
  have b1 : Below w.heap.size w (w.alloc (.cells #[.int .i64 x, .int .i64 y, .slice (some ⟨FB, 0, none⟩) n f, .map (some B)] 89)) := (Below.refl _ _).alloc (Nat.le_refl _) _
  have M1 := hr.below b1
  have E1 := he.below b1
  have I1 : ButIn lo hi w (w.alloc (.cells #[.int .i64 x, .int .i64 y, .slice (some ⟨FB, 0, none⟩) n f, .map (some B)] 89)) := (ButIn.refl lo hi w).below b1
  have hsz1 : (w.alloc (.cells #[.int .i64 x, .int .i64 y, .slice (some ⟨FB, 0, none⟩) n f, .map (some B)] 89)).heap.size = w.heap.size + 1 := by simp
  have HZ1 := Lib.hid hsz1
  have HI1 := Lib.hid I1
  have HM1 := Lib.hid M1
  have HE1 := Lib.hid E1
  have HV1 := Lib.hid V1
  have HNX := Lib.hid hn
  clear hr he hn hv b1 M1 E1 I1 hsz1 V1
  generalize sidL x y c = S at *
  generalize hw1 : w.alloc (.cells #[.int .i64 x, .int .i64 y, .slice (some ⟨FB, 0, none⟩) n f, .map (some B)] 89) = w1 at *
  have v0 := HV1.out.c0
  have v1 := HV1.out.c1
  have v2 := HV1.out.c2
  have v3 := HV1.out.c3
  have hcl := HM1.out.cell c hc
  have hfr := HM1.out.free c hc
  unfold bo at hcl
  have M2 : Hid (RowM (w1.setCell ⟨FB, c, none⟩ (.bool true)) FB n (bo (fiP p c))) := (HM1.out.set (k := c) (u := .bool true) hc).ext fun j _ => by
    unfold put bo fiP
    by_cases hj : j = c
    · rw [if_pos hj, decide_eq_true hj]; rfl
    · rw [if_neg hj, decide_eq_false hj]; rfl
  have E2 : Hid (EdM (w1.setCell ⟨FB, c, none⟩ (.bool true)) B m e n) := HE1.out.heap (Below.heap_setCell _ _ _ _ (Ne.symm h5))
  have V2 : Hid (VarG (w1.setCell ⟨FB, c, none⟩ (.bool true)) w.heap.size x y FB n f B) := HV1.out.heap (Below.heap_setCell _ _ _ _ (by show _ ≠ FB; omega))
  have I2 : Hid (ButIn lo hi w (w1.setCell ⟨FB, c, none⟩ (.bool true))) := HI1.out.set h1 h2 _
  have hsz2 : (w1.setCell ⟨FB, c, none⟩ (.bool true)).heap.size = w.heap.size + 1 := by rw [← HZ1.out]; simp [World.setCell]
  have v20 := V2.out.c0
  have v21 := V2.out.c1
  have v22 := V2.out.c2
  have v23 := V2.out.c3
  generalize hw2 : w1.setCell ⟨FB, c, none⟩ (.bool true) = w2 at *
  obtain ⟨w3, hrun, hE3, hg3⟩ := E2.out.drop hc (by omega) (q := fiE (S.take 0) (fiP p c) e c) (fun k _ => fiE_nil _ _ _ k) 0
  have E3 : Hid (EdM w3 B (m + 0) (fiE (S.take 0) (fiP p c) e c) n) := hE3
  have hWB : B < w.heap.size := by omega
  have V3 : Hid (VarG w3 w.heap.size x y FB n f B) := V2.out.heap (hg3.block _ V2.out.lt (by intro h; injection h with h; omega))
  have M3 : Hid (RowM w3 FB n (bo (fiP p c))) := M2.out.heap (hg3.block _ M2.out.lt (by intro h; injection h with h; omega))
  have I3 : Hid (ButIn lo hi w w3) := I2.out.grown hg3 h3 h4
  have v30 := V3.out.c0
  have v31 := V3.out.c1
  clear hE3 hg3 E2 V2 M2 I2 HZ1 HI1 HM1 HE1 HV1 hsz2
  go_enter Try.func59, Try.ntmps59
  go_wp2_with fail
  refine (HSI.out _).mono ?_
  rintro en w4 ⟨A, ac, rfl, hO, hb4⟩
  have hz3 : w.heap.size < w3.heap.size := V3.out.lt
  have E4 := Lib.hid (E3.out.below hb4.out)
  have V4 := Lib.hid (V3.out.heap (hb4.out.block _ V3.out.lt))
  have M4 := Lib.hid (M3.out.below hb4.out)
  have I4 : Hid (ButIn lo hi w w4) := I3.out.below hb4.out
  generalize hG : w3.heap.size + 1 = G at *
  clear E3 V3 M3 I3 hb4 HSI hw1 hw2 hrun v0 v1 v2 v3 hcl hfr v20 v21 v22 v23 v30 v31
  go_wp2_with fail
  go_loopw [23] (fun i wr => ∃ j : Nat, i = .int .i64 j ∧ j ≤ S.length ∧ Hid (VarG wr w.heap.size x y FB n f B) ∧ Hid (RowM wr FB n (bo (fiP p c))) ∧ Hid (EdM wr B (m + j) (fiE (S.take j) (fiP p c) e c) n) ∧ Hid (GroI wr G S A ac) ∧ Hid (ButIn lo hi w wr)) (fun i _ => S.length - (intOf i).toNat)
  case atStart => exact ⟨0, rfl, Nat.zero_le _, V4, M4, E4, hO, I4⟩
  case round =>
    clear V4 M4 E4 hO I4
    obtain ⟨j, rfl, hj, hV, hM, hE, hO, hI⟩ := hrel
    by_cases hlt : j < S.length
    · obtain ⟨s, hs, hsn⟩ := HSL.out j hlt
      obtain ⟨lg, rfl⟩ := hO.out.adr hlt
      have hcs := hO.out.at hlt
      rw [hs] at hcs
      have ST := Lib.hid (HTK.out j hlt)
      rw [hs] at ST
      have v2 := hV.out.c2
      have v3 := hV.out.c3
      have hcb := hM.out.cell s hsn
      unfold bo at hcb
      have hl4 := HS4.out
      clear hs
      cases hq : fiP p c s
      · rw [hq] at hcb
        obtain ⟨w6, hrun, hE6, hg6⟩ := hE.out.put (c := s) (by omega) hsn (by omega) (q := fiE (S.take j ++ [(s : Int)]) (fiP p c) e c) (fun k _ => fiE_put hq k)
        have E6 : Hid (EdM w6 B (m + (j + 1)) (fiE (S.take (j + 1)) (fiP p c) e c) n) := by rw [ST.out]; exact hE6
        have V6 : Hid (VarG w6 w.heap.size x y FB n f B) := hV.out.heap (hg6.block _ hV.out.lt (by intro h; injection h with h; omega))
        have M6 : Hid (RowM w6 FB n (bo (fiP p c))) := hM.out.heap (hg6.block _ hM.out.lt (by intro h; injection h with h; omega))
        have O6 : Hid (GroI w6 G S (some ⟨lg, 0, none⟩) ac) := hO.out.grown hg6 (by omega)
        have I6 : Hid (ButIn lo hi w w6) := hI.out.grown hg6 h3 h4
        clear hE6 hg6 hE hV hM hO hI ST
        go_wp2_with fail
        go_roundw
        case rel => exact ⟨j + 1, by go_num, by omega, V6, M6, E6, O6, I6⟩
        case measure => simp [intOf]; omega
      · rw [hq] at hcb
        have E6 : Hid (EdM wr B (m + (j + 1)) (fiE (S.take (j + 1)) (fiP p c) e c) n) := by
          rw [ST.out, show fiE (S.take j ++ [(s : Int)]) (fiP p c) e c = fiE (S.take j) (fiP p c) e c from funext fun k => fiE_keep hq k]
          exact hE.out.mono (by omega)
        clear hE ST
        go_wp2_with fail
        go_roundw
        case rel => exact ⟨j + 1, by go_num, by omega, hV, hM, E6, hO, hI⟩
        case measure => simp [intOf]; omega
    · have hjn : j = S.length := by omega
      have E7 : Hid (EdM wr B (m + 4) (fiE S (fiP p c) e c) n) := by
        have h := hE.out
        rw [hjn, List.take_length] at h
        have hl4 := HS4.out
        exact h.mono (by omega)
      clear hE
      go_wp2_with fail
      go_end0
      exact ⟨rfl, hM, E7, hI⟩
end Go.Proofs.Ythhimielelpcoaa
