/-
  What is proved here: the program's ReadNumbers, and the law, as walks. Conditions: the text is one that a machine can hold; the library's variable holds a length.
-/
import Derived.Test.YtckhdbnoihieeaaDoorNrl
namespace Go.Proofs.YtckhdbnoihieeaaDoor
open Flt Go.RowKit
attribute [local go_sem] run_store_float

/-- the length that the library measured -/
def Most (w : World) : Prop := ∃ m, w.cell? ⟨1, 0, none⟩ = some (.int .i64 m)
theorem Most.below {w w' : World} (h : Most w) (hb : Below w.heap.size w w') : Most w' := by
  obtain ⟨m, hm⟩ := h
  refine ⟨m, ?_⟩
  have hlt : 1 < w.heap.size := by
    rcases Nat.lt_or_ge 1 w.heap.size with h | h
    · exact h
    · exfalso; simp [World.cell?, Array.getElem?_eq_none h] at hm
  rw [hb.cell hlt]; exact hm

/-- what the library cuts -/
def partsF (s : ByteArray) : List ByteArray := Lib.splitB ⟨#[44]⟩ 0 (min (256 + 1) (s.size + 1) - 1) s

/-- a row of texts, at a block -/
def TextsF (w : World) (B g : Nat) (P : List ByteArray) : Prop := B ≤ g ∧ g < w.heap.size ∧ ∀ j x, P[j]? = some x → w.cell? ⟨g, j, none⟩ = some (.string x)
theorem TextsF.below {w w' : World} {B g : Nat} {P : List ByteArray} (h : TextsF w B g P) (hb : Below w.heap.size w w') : TextsF w' B g P :=
  ⟨h.1, Nat.lt_of_lt_of_le h.2.1 hb.size, fun j x hx => by rw [hb.cell h.2.1]; exact h.2.2 j x hx⟩

theorem splitCallF (s : ByteArray) (hs : s.size ≤ 1048576) (w : World) (hm : Most w) :
    Calls Tryd.prog 66 #[.string s, .string ⟨#[44]⟩, .int .i64 257] w fun e w' => ∃ g c, e = .returned (.slice (some ⟨g, 0, none⟩) (partsF s).length c) ∧ Hid (TextsF w' w.heap.size g (partsF s)) ∧ Hid (Below w.heap.size w w') := by
  obtain ⟨m, hm⟩ := hm
  refine (Go.Proofs.Tryd.strings_SplitN s ⟨#[44]⟩ 257 m w (by omega) hm (by decide) (by decide) (by decide)).mono ?_
  rintro e w' ⟨rfl, rfl⟩
  refine ⟨w.heap.size, _, rfl, ⟨Nat.le_refl _, by simp, fun j x hx => ?_⟩, (Below.refl _ _).alloc (Nat.le_refl _) _⟩
  have hj : j < (partsF s).length := (List.getElem?_eq_some_iff.1 hx).1
  have h : (Lib.cellsOf (partsF s) (min 257 (s.size + 1)))[j]? = some (.string x) := by
    unfold Lib.cellsOf
    rw [List.getElem?_toArray, List.getElem?_append_left (by simpa using hj), List.getElem?_map, hx]; rfl
  show (w.alloc (.cells (Lib.cellsOf (partsF s) (min 257 (s.size + 1))) 9)).cell? _ = _
  simp [World.cell?, World.alloc, -World.alloc_eq, h]

theorem partsF_many {s : ByteArray} (h : 256 < (partsF s).length) : ¬ (cutB s).length ≤ 256 := by
  intro h2
  have := (split_most s 256).1 h2
  unfold partsF at h
  rw [this] at h
  omega
theorem partsF_few {s : ByteArray} (h : (partsF s).length ≤ 256) : partsF s = cutB s ∧ (cutB s).length ≤ 256 := by
  rcases Nat.lt_or_ge 256 (cutB s).length with h2 | h2
  · have := (split_most s 256).2 h2
    unfold partsF at h
    rw [this] at h
    omega
  · exact ⟨(split_most s 256).1 h2, h2⟩

/-- a block of 32-bit numbers of its own -/
structure FRow (w : World) (G n : Nat) (f : Nat → Nat) : Prop where
  size : G < w.heap.size
  cell : ∀ j, j < n → w.cell? ⟨G, j, none⟩ = some (.float .f32 (f j))
  free : ∀ j, w.frozen? ⟨G, j, none⟩ = false

theorem fRow_start (w : World) (n : Nat) : FRow (w.alloc (.cells (madeCells #[.float .f32 0] n) 30)) w.heap.size n (fun _ => 0) := by
  refine ⟨by simp, fun j hj => ?_, fun j => ?_⟩
  · have h : (madeCells #[.float .f32 0] n)[j]? = some (.float .f32 0) := by simp [madeCells, hj, Nat.mod_one]
    simp [World.cell?, World.alloc, -World.alloc_eq, h]
  · simp [World.frozen?, World.alloc, -World.alloc_eq]
theorem FRow.below {w w' : World} {G n : Nat} {f : Nat → Nat} (h : FRow w G n f) (hb : Below w.heap.size w w') : FRow w' G n f :=
  ⟨Nat.lt_of_lt_of_le h.size hb.size, fun j hj => by rw [hb.cell h.size]; exact h.cell j hj, fun j => by rw [hb.frozen h.size]; exact h.free j⟩
theorem FRow.step {w : World} {G n k : Nat} {f g : Nat → Nat} {x : Nat} (h : FRow w G n f) (_ : k < n) (hg : g = fun j => if j = k then x else f j) : FRow (w.setCell ⟨G, k, none⟩ (.float .f32 x)) G n g := by
  subst hg
  refine ⟨by have := h.size; simpa [World.setCell] using this, fun j hj => ?_, fun j => by rw [World.frozen?_setCell]; exact h.free j⟩
  by_cases e : j = k
  · subst e
    rw [World.cell?_setCell_same w _ _ (h.cell j hj), if_pos rfl]
  · rw [World.cell?_setCell_other w _ _ _ (by intro h; injection h with _ h2 _; omega), h.cell j hj, if_neg e]

/-- the first of them, and then nothing -/
def inToF (f : Nat → Nat) (k j : Nat) : Nat := if j < k then f j else 0
theorem inToF_succ (f : Nat → Nat) (k : Nat) : inToF f (k + 1) = fun j => if j = k then f k else inToF f k j := by
  funext j
  unfold inToF
  by_cases e : j = k
  · subst e; rw [if_pos (by omega), if_pos rfl]
  · rw [if_neg e]
    by_cases h : j < k
    · rw [if_pos h, if_pos (by omega)]
    · rw [if_neg h, if_neg (by omega)]

theorem implNum2 (s : ByteArray) (w : World) : Calls Tryd.prog 49 #[.string s] w fun e w' => e = .returned (.tuple #[.float .f32 (rdFN s), .bool (rdFB s)]) ∧ Below w.heap.size w w' := implNum s w

set_option maxHeartbeats 2000000 in
theorem implSplitF (s : ByteArray) (hs : s.size ≤ 1048576) (w : World) (hm : Most w) :
    Calls Tryd.prog 48 #[.string s, .int .i64 256, .string ⟨#[44]⟩, .func (.func 49) #[] #[]] w (NLPost (nlL s) (nlB s) w) := by
  by_cases hnone : s.data.toList = noneT
  · have hsb := none_eq hnone
    have N := Lib.hid (nlL_none hnone)
    clear hnone hm
    go_enter Tryd.func48, Tryd.ntmps48
    go_wp2_with fail
    go_ret2
    rw [N.out.2]
    exact nlpost_no N.out.1 (Below.refl _ _)
  have hsb := none_ne hnone
  have HN := Lib.hid hnone
  have HC := Lib.hid (splitCallF s hs w hm)
  by_cases h64 : 256 < (partsF s).length
  · have N := Lib.hid (nlL_no hnone (by rw [decide_eq_false (partsF_many h64)]; rfl))
    have h9 : decide ((256 : Int) < ((partsF s).length : Int)) = true := decide_eq_true (by omega)
    clear hnone h64 hm
    go_enter Tryd.func48, Tryd.ntmps48
    go_wp2_with (go_at_call 66; refine HC.out.mono ?_; rintro e w1 ⟨gp, cp, rfl, hS, hB1⟩)
    go_ret2
    rw [N.out.2]
    exact nlpost_no N.out.1 hB1.out
  obtain ⟨hq1, hq2⟩ := partsF_few (Nat.le_of_not_lt h64)
  rw [hq1] at HC h64
  obtain ⟨P, hP⟩ : ∃ P : List ByteArray, P = cutB s := ⟨_, rfl⟩
  have HP := Lib.hid hP
  rw [← hP] at HC h64 hq2
  have h9 : decide ((256 : Int) < (P.length : Int)) = false := decide_eq_false (by omega)
  obtain ⟨i0, hi, hz0, hz1, hz2⟩ := info_parts info_f32b
  have hmk := fun W => run_make_rowF (P := Tryd.prog) 36 30 i0 (.float .f32 0) Tryd.underlying36 hi hz0 .i64 .i64 P.length P.length (Nat.le_refl _) (by rw [hz2]; omega) (by omega) W
  rw [hz1, Nat.mul_one] at hmk
  clear hi hz0 hz1 hz2 hnone hP h64 hq1 hm
  go_enter Tryd.func48, Tryd.ntmps48
  go_wp2_with (go_at_call 66; refine HC.out.mono ?_; rintro e w1 ⟨gp, cp, rfl, hS, hB1⟩)
  clear hmk h9
  generalize hG : w.heap.size = G at *
  have HG := Lib.hid hG
  clear hG
  have C2 : Hid (FRow (w1.alloc (.cells (madeCells #[.float .f32 0] P.length) 30)) w1.heap.size P.length (inToF (fun j => rdFN (P.getD j ⟨#[]⟩)) 0)) := by
    have := fRow_start w1 P.length
    rwa [show (fun _ => (0 : Nat)) = inToF (fun j => rdFN (P.getD j ⟨#[]⟩)) 0 from by funext j; simp [inToF]] at this
  have S2 : Hid (TextsF (w1.alloc (.cells (madeCells #[.float .f32 0] P.length) 30)) G gp P) := hS.out.below ((Below.refl _ _).alloc (Nat.le_refl _) _)
  have hG1 : Hid (G ≤ w1.heap.size) := by show G ≤ _; rw [← HG.out]; exact hB1.out.size
  have B2 : Hid (Below G w (w1.alloc (.cells (madeCells #[.float .f32 0] P.length) 30))) := hB1.out.alloc hG1.out _
  have hgp : Hid (gp < w1.heap.size) := hS.out.2.1
  clear hS hB1
  generalize w1.alloc (.cells (madeCells #[.float .f32 0] P.length) 30) = w2 at *
  generalize w1.heap.size = H at *
  go_loopw [32] (fun i wr => ∃ k : Nat, k ≤ P.length ∧ i = .int .i64 k ∧ Hid (rdToF P k) ∧ Hid (FRow wr H P.length (inToF (fun j => rdFN (P.getD j ⟨#[]⟩)) k)) ∧ Hid (TextsF wr G gp P) ∧ Hid (Below G w wr)) (fun i _ => P.length - (intOf i).toNat)
  case atStart => exact ⟨0, Nat.zero_le _, rfl, fun j hj => absurd hj (Nat.not_lt_zero _), C2, S2, B2⟩
  case round =>
    obtain ⟨k, hk, rfl, hT, hC, hS, hB⟩ := hrel
    have hsz : Hid (G ≤ wr.heap.size) := by show G ≤ wr.heap.size; rw [← HG.out]; exact hB.out.size
    by_cases hlt : k < P.length
    · obtain ⟨x, hx, hno, hyes, hfx⟩ : ∃ x : ByteArray, P[k]? = some x ∧ (rdFB x = false → rdOkF P = false) ∧ (rdFB x = true → rdToF P (k + 1)) ∧ Hid (inToF (fun j => rdFN (P.getD j ⟨#[]⟩)) (k + 1) = fun j => if j = k then rdFN x else inToF (fun j => rdFN (P.getD j ⟨#[]⟩)) k j) :=
        ⟨P.getD k ⟨#[]⟩, getD_some hlt, rdOkF_not hlt, fun hrb j hj => by
          by_cases e : j = k
          · rw [e]; exact hrb
          · exact hT.out j (by omega), inToF_succ _ k⟩
      have hc := hS.out.2.2 k x hx
      have HX : Hid (∀ W, Calls Tryd.prog 49 #[.string x] W fun e w' => e = .returned (.tuple #[.float .f32 (rdFN x), .bool (rdFB x)]) ∧ Below W.heap.size W w') := fun W => implNum2 x W
      clear hx
      rcases Bool.eq_false_or_eq_true (rdFB x) with hrb | hrb
      rotate_left 1
      · have N := Lib.hid (nlL_no HN.out (by rw [← HP.out, hno hrb, Bool.and_false]))
        clear hno hyes
        go_wp2_with (go_at_call 49; refine (HX.out _).mono ?_; rintro e w3 ⟨rfl, hb3⟩; have HB3 := Lib.hid hb3; clear hb3)
        go_ret2
        rw [N.out.2]
        exact nlpost_no N.out.1 (by rw [HG.out]; exact hB.out.trans (HB3.out.mono hsz.out))
      · have N : Hid (rdToF P (k + 1)) := hyes hrb
        clear hno hyes
        go_wp2_with (go_at_call 49; refine (HX.out _).mono ?_; rintro e w3 ⟨rfl, hb3⟩; have HB3 := Lib.hid hb3; have hd := (hC.out.below hb3).cell k hlt; have hf := (hC.out.below hb3).free k; clear hb3)
        have hs3 := Lib.hid ((hC.out.below HB3.out).step hlt hfx.out)
        have hB4 : Hid (Below G w (w3.setCell ⟨H, k, none⟩ (.float .f32 (rdFN x)))) := (hB.out.trans (HB3.out.mono hsz.out)).setCell hG1.out _
        have hS4 : Hid (TextsF (w3.setCell ⟨H, k, none⟩ (.float .f32 (rdFN x))) G gp P) := by
          have h3 := hS.out.below HB3.out
          refine ⟨h3.1, by simpa [World.setCell] using h3.2.1, fun j y hy => ?_⟩
          rw [World.cell?_setCell_other _ _ _ _ (by intro e; injection e with e1 _ _; have := hgp.out; omega)]
          exact h3.2.2 j y hy
        clear hd hf hc hC hB hS
        go_roundw
        case rel => exact ⟨k + 1, by omega, by go_num, N, hs3, hS4, hB4⟩
        case measure => simp [intOf]; omega
    · have HK : Hid (k = P.length) := by show k = P.length; omega
      have hall := rdToF_all (show rdToF P P.length from HK.out ▸ hT.out)
      have N := Lib.hid (nlL_yes HN.out (by rw [← HP.out]; exact hq2) (by rw [← HP.out]; exact hall))
      clear hall
      go_wp2_with fail
      go_ret2
      rw [N.out.2, N.out.1, ← HP.out]
      refine ⟨some ⟨H, 0, none⟩, P.length, by rw [rdNsF_length]; rfl, ?_, by rw [HG.out]; exact hB⟩
      intro h0
      refine ⟨H, 0, rfl, by rw [HG.out]; exact hG1.out, hC.out.size, fun j hj => ?_, fun j _ => hC.out.free _⟩
      rw [rdNsF_length] at hj
      rw [Nat.zero_add, hC.out.cell j hj, rdNsF_at hj]
      unfold inToF
      rw [if_pos (by have := HK.out; omega)]

theorem implNl (s : ByteArray) (hs : s.size ≤ 1048576) (w : World) (hm : Most w) :
    Calls Tryd.prog 20 #[.string s] w (NLPost (nlL s) (nlB s) w) := by
  have HS := Lib.hid (implSplitF s hs w hm)
  clear hm
  go_enter Tryd.func20, Tryd.ntmps20
  go_wp2_with (go_at_call 48; refine HS.out.mono ?_; rintro e w1 ⟨A, c, rfl, hO, hB⟩)
  go_ret2
  exact ⟨A, c, rfl, hO, hB⟩

theorem nlL_short (s : ByteArray) : (nlL s).length ≤ 1048576 := by
  unfold nlL
  split
  · simp
  · rename_i h
    split
    · rename_i hb
      unfold nlB at hb
      rw [if_neg h, Bool.and_eq_true] at hb
      have := of_decide_eq_true hb.1
      rw [rdNsF_length]; omega
    · simp



theorem implNl2 (s : ByteArray) (hs : s.size ≤ 1048576) {w0 w : World} (hv : Hid (Most w0)) (hb : Hid (Below w0.heap.size w0 w)) :
    Calls Tryd.prog 20 #[.string s] w fun e w' => ∃ A c, e = .returned (.tuple #[.slice A (nlL s).length c, .bool (nlB s)]) ∧ Hid (OwnF w' w.heap.size A (nlL s)) ∧ Hid (Below w.heap.size w w') ∧ Hid (Below w0.heap.size w0 w') :=
  (implNl s hs w (hv.out.below hb.out)).mono fun _ _ ⟨A, c, h1, h2, h3⟩ => ⟨A, c, h1, h2, h3, hb.out.trans (h3.out.mono hb.out.size)⟩


end Go.Proofs.YtckhdbnoihieeaaDoor
