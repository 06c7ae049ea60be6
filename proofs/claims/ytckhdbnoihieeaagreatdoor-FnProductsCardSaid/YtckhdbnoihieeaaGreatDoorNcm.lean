/-
  What is proved here: the program's ReadComplex, and the law, as walks. Conditions: the text is one that a machine can hold; the library's variable holds a length.
-/
import Derived.Test.YtckhdbnoihieeaaGreatDoorNcl
namespace Go.Proofs.YtckhdbnoihieeaaGreatDoor
open Flt Go.RowKit
attribute [local go_sem] run_store_complex

/-- what readOneComplex gives -/
def OnePost (s : ByteArray) (w : World) (e : Ending) (w' : World) : Prop := e = .returned (.tuple #[.complex .f32 (rdCN s).1 (rdCN s).2, .bool (rdCB s)]) ∧ Below w.heap.size w w'
theorem onepost_no {s : ByteArray} {w w' : World} (h : rdCB s = false) (hb : Below w.heap.size w w') : OnePost s w (.returned (.tuple #[.complex .f32 0 0, .bool false])) w' := by
  refine ⟨?_, hb⟩
  unfold rdCN
  rw [h]; rfl
theorem onepost_yes {s : ByteArray} {p q : Nat} {w w' : World} (h : rdCB s = true) (h1 : p = rdFN (lo8 s)) (h2 : q = rdFN (hi8 s)) (hb : Below w.heap.size w w') : OnePost s w (.returned (.tuple #[.complex .f32 p q, .bool true])) w' := by
  refine ⟨?_, hb⟩
  unfold rdCN
  rw [h, h1, h2]; rfl

theorem implOne (s : ByteArray) (w : World) : Calls Tryz.prog 39 #[.string s] w (OnePost s w) := by
  by_cases h16 : s.size = 16
  rotate_left 1
  · have N := Lib.hid (rdC_long h16)
    have hb0 : ((s.size : Int) == 16) = false := by simp; omega
    have hb1 : ((s.size : Int) != 16) = true := by simp; omega
    clear h16
    go_enter Tryz.func39, Tryz.ntmps39
    go_wp2_with fail
    go_ret2
    exact onepost_no N.out (Below.refl _ _)
  have hb0 : ((s.size : Int) == 16) = true := by simp; omega
  have hb1 : ((s.size : Int) != 16) = false := by simp; omega
  have h16a : 16 ≤ s.size := by omega
  have h16b : s.size ≤ 16 := by omega
  have HLo : Hid (∀ W, Calls Tryz.prog 60 #[.string (s.extract 0 8)] W fun e w' => e = .returned (.tuple #[.float .f32 (rdFN (lo8 s)), .bool (rdFB (lo8 s))]) ∧ Below W.heap.size W w') := fun W => implNum2 (lo8 s) W
  have HHi : Hid (∀ W, Calls Tryz.prog 60 #[.string (s.extract 8 s.size)] W fun e w' => e = .returned (.tuple #[.float .f32 (rdFN (hi8 s)), .bool (rdFB (hi8 s))]) ∧ Below W.heap.size W w') := fun W => implNum2 (hi8 s) W
  have HB := Lib.hid (rdC_of h16)
  clear h16
  obtain ⟨p, hp⟩ : ∃ p, p = rdFN (lo8 s) := ⟨_, rfl⟩
  obtain ⟨q, hq⟩ : ∃ q, q = rdFN (hi8 s) := ⟨_, rfl⟩
  have HPQ := Lib.hid (And.intro hp hq)
  rw [← hp] at HLo
  rw [← hq] at HHi
  clear hp hq
  cases hlo : rdFB (lo8 s)
  · have N : Hid (rdCB s = false) := by show _ = _; rw [HB.out, hlo]; rfl
    rw [hlo] at HLo
    clear hlo HB
    go_enter Tryz.func39, Tryz.ntmps39
    go_wp2_with (first | (go_at_call 60; ((with_reducible refine (HLo.out _).mono ?_); rintro e w1 ⟨rfl, hb1⟩; have B1 := Lib.hid hb1; clear hb1)) | (go_at_call 60; ((with_reducible refine (HHi.out _).mono ?_); rintro e w2 ⟨rfl, hb2⟩; have B2 := Lib.hid hb2; clear hb2)))
    all_goals
      go_ret2
      exact onepost_no N.out (B1.out.trans (B2.out.mono B1.out.size))
  cases hhi : rdFB (hi8 s)
  · have N : Hid (rdCB s = false) := by show _ = _; rw [HB.out, hhi, Bool.and_false]
    rw [hlo] at HLo
    rw [hhi] at HHi
    clear hlo hhi HB
    go_enter Tryz.func39, Tryz.ntmps39
    go_wp2_with (first | (go_at_call 60; ((with_reducible refine (HLo.out _).mono ?_); rintro e w1 ⟨rfl, hb1⟩; have B1 := Lib.hid hb1; clear hb1)) | (go_at_call 60; ((with_reducible refine (HHi.out _).mono ?_); rintro e w2 ⟨rfl, hb2⟩; have B2 := Lib.hid hb2; clear hb2)))
    go_ret2
    exact onepost_no N.out (B1.out.trans (B2.out.mono B1.out.size))
  · have N : Hid (rdCB s = true) := by show _ = _; rw [HB.out, hlo, hhi]; rfl
    rw [hlo] at HLo
    rw [hhi] at HHi
    clear hlo hhi HB
    go_enter Tryz.func39, Tryz.ntmps39
    go_wp2_with (first | (go_at_call 60; ((with_reducible refine (HLo.out _).mono ?_); rintro e w1 ⟨rfl, hb1⟩; have B1 := Lib.hid hb1; clear hb1)) | (go_at_call 60; ((with_reducible refine (HHi.out _).mono ?_); rintro e w2 ⟨rfl, hb2⟩; have B2 := Lib.hid hb2; clear hb2)))
    go_ret2
    exact onepost_yes N.out HPQ.out.1 HPQ.out.2 (B1.out.trans (B2.out.mono B1.out.size))

theorem implOne2 (s : ByteArray) (w : World) : Calls Tryz.prog 39 #[.string s] w fun e w' => e = .returned (.tuple #[.complex .f32 (rdCN s).1 (rdCN s).2, .bool (rdCB s)]) ∧ Below w.heap.size w w' := implOne s w

/-- a block of complex numbers of its own -/
structure CRow (w : World) (G n : Nat) (f : Nat → Nat × Nat) : Prop where
  size : G < w.heap.size
  cell : ∀ j, j < n → w.cell? ⟨G, j, none⟩ = some (.complex .f32 (f j).1 (f j).2)
  free : ∀ j, w.frozen? ⟨G, j, none⟩ = false

theorem cRow_start (w : World) (n : Nat) : CRow (w.alloc (.cells (madeCells #[.complex .f32 0 0] n) 24)) w.heap.size n (fun _ => (0, 0)) := by
  refine ⟨by simp, fun j hj => ?_, fun j => ?_⟩
  · have h : (madeCells #[.complex .f32 0 0] n)[j]? = some (.complex .f32 0 0) := by simp [madeCells, hj, Nat.mod_one]
    simp [World.cell?, World.alloc, -World.alloc_eq, h]
  · simp [World.frozen?, World.alloc, -World.alloc_eq]
theorem CRow.below {w w' : World} {G n : Nat} {f : Nat → Nat × Nat} (h : CRow w G n f) (hb : Below w.heap.size w w') : CRow w' G n f :=
  ⟨Nat.lt_of_lt_of_le h.size hb.size, fun j hj => by rw [hb.cell h.size]; exact h.cell j hj, fun j => by rw [hb.frozen h.size]; exact h.free j⟩
theorem CRow.step {w : World} {G n k : Nat} {f g : Nat → Nat × Nat} {x : Nat × Nat} (h : CRow w G n f) (_ : k < n) (hg : g = fun j => if j = k then x else f j) : CRow (w.setCell ⟨G, k, none⟩ (.complex .f32 x.1 x.2)) G n g := by
  subst hg
  refine ⟨by have := h.size; simpa [World.setCell] using this, fun j hj => ?_, fun j => by rw [World.frozen?_setCell]; exact h.free j⟩
  by_cases e : j = k
  · subst e
    rw [World.cell?_setCell_same w _ _ (h.cell j hj), if_pos rfl]
  · rw [World.cell?_setCell_other w _ _ _ (by intro h; injection h with _ h2 _; omega), h.cell j hj, if_neg e]

def inToC (f : Nat → Nat × Nat) (k j : Nat) : Nat × Nat := if j < k then f j else (0, 0)
theorem inToC_succ (f : Nat → Nat × Nat) (k : Nat) : inToC f (k + 1) = fun j => if j = k then f k else inToC f k j := by
  funext j
  unfold inToC
  by_cases e : j = k
  · subst e; rw [if_pos (by omega), if_pos rfl]
  · rw [if_neg e]
    by_cases h : j < k
    · rw [if_pos h, if_pos (by omega)]
    · rw [if_neg h, if_neg (by omega)]

set_option maxHeartbeats 2000000 in
theorem implSplitC (s : ByteArray) (hs : s.size ≤ 1048576) (w : World) (hm : Most w) :
    Calls Tryz.prog 38 #[.string s, .int .i64 256, .string ⟨#[44]⟩, .func (.func 39) #[] #[]] w (CLPost (clL s) (clB s) w) := by
  by_cases hnone : s.data.toList = noneT
  · have hsb := none_eq hnone
    have N := Lib.hid (clL_none hnone)
    clear hnone hm
    go_enter Tryz.func38, Tryz.ntmps38
    go_wp2_with fail
    go_ret2
    rw [N.out.2]
    exact clpost_no N.out.1 (Below.refl _ _)
  have hsb := none_ne hnone
  have HN := Lib.hid hnone
  have HC := Lib.hid (splitCallF s hs w hm)
  by_cases h64 : 256 < (partsF s).length
  · have N := Lib.hid (clL_no hnone (by rw [decide_eq_false (partsF_many h64)]; rfl))
    have h9 : decide ((256 : Int) < ((partsF s).length : Int)) = true := decide_eq_true (by omega)
    clear hnone h64 hm
    go_enter Tryz.func38, Tryz.ntmps38
    go_wp2_with (go_at_call 59; refine HC.out.mono ?_; rintro e w1 ⟨gp, cp, rfl, hS, hB1⟩)
    go_ret2
    rw [N.out.2]
    exact clpost_no N.out.1 hB1.out
  obtain ⟨hq1, hq2⟩ := partsF_few (Nat.le_of_not_lt h64)
  rw [hq1] at HC h64
  obtain ⟨P, hP⟩ : ∃ P : List ByteArray, P = cutB s := ⟨_, rfl⟩
  have HP := Lib.hid hP
  rw [← hP] at HC h64 hq2
  have h9 : decide ((256 : Int) < (P.length : Int)) = false := decide_eq_false (by omega)
  obtain ⟨i0, hi, hz0, hz1, hz2⟩ := info_parts info_c64
  have hmk := fun W => run_make_rowF (P := Tryz.prog) 25 24 i0 (.complex .f32 0 0) Tryz.underlying25 hi hz0 .i64 .i64 P.length P.length (Nat.le_refl _) (by rw [hz2]; omega) (by omega) W
  rw [hz1, Nat.mul_one] at hmk
  clear hi hz0 hz1 hz2 hnone hP h64 hq1 hm
  go_enter Tryz.func38, Tryz.ntmps38
  go_wp2_with (go_at_call 59; refine HC.out.mono ?_; rintro e w1 ⟨gp, cp, rfl, hS, hB1⟩)
  clear hmk h9
  generalize hG : w.heap.size = G at *
  have HG := Lib.hid hG
  clear hG
  have C2 : Hid (CRow (w1.alloc (.cells (madeCells #[.complex .f32 0 0] P.length) 24)) w1.heap.size P.length (inToC (fun j => rdCN (P.getD j ⟨#[]⟩)) 0)) := by
    have := cRow_start w1 P.length
    rwa [show (fun _ => ((0, 0) : Nat × Nat)) = inToC (fun j => rdCN (P.getD j ⟨#[]⟩)) 0 from by funext j; simp [inToC]] at this
  have S2 : Hid (TextsF (w1.alloc (.cells (madeCells #[.complex .f32 0 0] P.length) 24)) G gp P) := hS.out.below ((Below.refl _ _).alloc (Nat.le_refl _) _)
  have hG1 : Hid (G ≤ w1.heap.size) := by show G ≤ _; rw [← HG.out]; exact hB1.out.size
  have B2 : Hid (Below G w (w1.alloc (.cells (madeCells #[.complex .f32 0 0] P.length) 24))) := hB1.out.alloc hG1.out _
  have hgp : Hid (gp < w1.heap.size) := hS.out.2.1
  clear hS hB1
  generalize w1.alloc (.cells (madeCells #[.complex .f32 0 0] P.length) 24) = w2 at *
  generalize w1.heap.size = H at *
  go_loopw [32] (fun i wr => ∃ k : Nat, k ≤ P.length ∧ i = .int .i64 k ∧ Hid (rdToC P k) ∧ Hid (CRow wr H P.length (inToC (fun j => rdCN (P.getD j ⟨#[]⟩)) k)) ∧ Hid (TextsF wr G gp P) ∧ Hid (Below G w wr)) (fun i _ => P.length - (intOf i).toNat)
  case atStart => exact ⟨0, Nat.zero_le _, rfl, fun j hj => absurd hj (Nat.not_lt_zero _), C2, S2, B2⟩
  case round =>
    obtain ⟨k, hk, rfl, hT, hC, hS, hB⟩ := hrel
    have hsz : Hid (G ≤ wr.heap.size) := by show G ≤ wr.heap.size; rw [← HG.out]; exact hB.out.size
    by_cases hlt : k < P.length
    · obtain ⟨x, hx, hno, hyes, hfx⟩ : ∃ x : ByteArray, P[k]? = some x ∧ (rdCB x = false → rdOkC P = false) ∧ (rdCB x = true → rdToC P (k + 1)) ∧ Hid (inToC (fun j => rdCN (P.getD j ⟨#[]⟩)) (k + 1) = fun j => if j = k then rdCN x else inToC (fun j => rdCN (P.getD j ⟨#[]⟩)) k j) :=
        ⟨P.getD k ⟨#[]⟩, getD_some hlt, rdOkC_not hlt, fun hrb j hj => by
          by_cases e : j = k
          · rw [e]; exact hrb
          · exact hT.out j (by omega), inToC_succ _ k⟩
      have hc := hS.out.2.2 k x hx
      have HX : Hid (∀ W, Calls Tryz.prog 39 #[.string x] W fun e w' => e = .returned (.tuple #[.complex .f32 (rdCN x).1 (rdCN x).2, .bool (rdCB x)]) ∧ Below W.heap.size W w') := fun W => implOne2 x W
      clear hx
      rcases Bool.eq_false_or_eq_true (rdCB x) with hrb | hrb
      rotate_left 1
      · have N := Lib.hid (clL_no HN.out (by rw [← HP.out, hno hrb, Bool.and_false]))
        clear hno hyes
        go_wp2_with (go_at_call 39; refine (HX.out _).mono ?_; rintro e w3 ⟨rfl, hb3⟩; have HB3 := Lib.hid hb3; clear hb3)
        go_ret2
        rw [N.out.2]
        exact clpost_no N.out.1 (by rw [HG.out]; exact hB.out.trans (HB3.out.mono hsz.out))
      · have N : Hid (rdToC P (k + 1)) := hyes hrb
        clear hno hyes
        go_wp2_with (go_at_call 39; refine (HX.out _).mono ?_; rintro e w3 ⟨rfl, hb3⟩; have HB3 := Lib.hid hb3; have hd := (hC.out.below hb3).cell k hlt; have hf := (hC.out.below hb3).free k; clear hb3)
        have hs3 := Lib.hid ((hC.out.below HB3.out).step hlt hfx.out)
        have hB4 : Hid (Below G w (w3.setCell ⟨H, k, none⟩ (.complex .f32 (rdCN x).1 (rdCN x).2))) := (hB.out.trans (HB3.out.mono hsz.out)).setCell hG1.out _
        have hS4 : Hid (TextsF (w3.setCell ⟨H, k, none⟩ (.complex .f32 (rdCN x).1 (rdCN x).2)) G gp P) := by
          have h3 := hS.out.below HB3.out
          refine ⟨h3.1, by simpa [World.setCell] using h3.2.1, fun j y hy => ?_⟩
          rw [World.cell?_setCell_other _ _ _ _ (by intro e; injection e with e1 _ _; have := hgp.out; omega)]
          exact h3.2.2 j y hy
        clear hd hf hc hC hB hS
        go_roundw
        case rel => exact ⟨k + 1, by omega, by go_num, N, hs3, hS4, hB4⟩
        case measure => simp [intOf]; omega
    · have HK : Hid (k = P.length) := by show k = P.length; omega
      have hall := rdToC_all (show rdToC P P.length from HK.out ▸ hT.out)
      have N := Lib.hid (clL_yes HN.out (by rw [← HP.out]; exact hq2) (by rw [← HP.out]; exact hall))
      clear hall
      go_wp2_with fail
      go_ret2
      rw [N.out.2, N.out.1, ← HP.out]
      refine ⟨some ⟨H, 0, none⟩, P.length, by rw [rdNsC_length]; rfl, ?_, by rw [HG.out]; exact hB⟩
      intro h0
      refine ⟨H, 0, rfl, by rw [HG.out]; exact hG1.out, hC.out.size, fun j hj => ?_, fun j _ => hC.out.free _⟩
      rw [rdNsC_length] at hj
      rw [Nat.zero_add, hC.out.cell j hj, rdNsC_at hj]
      unfold inToC
      rw [if_pos (by have := HK.out; omega)]
      rfl

theorem implCl (s : ByteArray) (hs : s.size ≤ 1048576) (w : World) (hm : Most w) :
    Calls Tryz.prog 17 #[.string s] w (CLPost (clL s) (clB s) w) := by
  have HS := Lib.hid (implSplitC s hs w hm)
  clear hm
  go_enter Tryz.func17, Tryz.ntmps17
  go_wp2_with (go_at_call 38; refine HS.out.mono ?_; rintro e w1 ⟨A, c, rfl, hO, hB⟩)
  go_ret2
  exact ⟨A, c, rfl, hO, hB⟩

theorem clL_short (s : ByteArray) : (clL s).length ≤ 256 := by
  unfold clL
  split
  · simp
  · rename_i h
    split
    · rename_i hb
      unfold clB at hb
      rw [if_neg h, Bool.and_eq_true] at hb
      have := of_decide_eq_true hb.1
      rw [rdNsC_length]; omega
    · simp



theorem implCl2 (s : ByteArray) (hs : s.size ≤ 1048576) {w0 w : World} (hv : Hid (Most w0)) (hb : Hid (Below w0.heap.size w0 w)) :
    Calls Tryz.prog 17 #[.string s] w fun e w' => ∃ A c, e = .returned (.tuple #[.slice A (clL s).length c, .bool (clB s)]) ∧ Hid (OwnC w' w.heap.size A (clL s)) ∧ Hid (Below w.heap.size w w') ∧ Hid (Below w0.heap.size w0 w') :=
  (implCl s hs w (hv.out.below hb.out)).mono fun _ _ ⟨A, c, h1, h2, h3⟩ => ⟨A, c, h1, h2, h3, hb.out.trans (h3.out.mono hb.out.size)⟩


end Go.Proofs.YtckhdbnoihieeaaGreatDoor
