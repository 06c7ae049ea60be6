/-
  What is proved here: the program's ReadList as a walk. Conditions: the text has at most 1048576 bytes; the library's variables hold what it lays.
-/
import Derived.Test.YtegbclfjcckglaaDoorLi
namespace Go.Proofs.YtegbclfjcckglaaDoor
open Go.RowKit

/-- a block of integers of its own -/
structure IRow (w : World) (G n : Nat) (f : Nat → Int) : Prop where
  size : G < w.heap.size
  cell : ∀ j, j < n → w.cell? ⟨G, j, none⟩ = some (.int .i64 (f j))
  free : ∀ j, w.frozen? ⟨G, j, none⟩ = false

theorem iRow_start (w : World) (n : Nat) : IRow (w.alloc (.cells (madeCells #[.int .i64 0] n) 2)) w.heap.size n (fun _ => 0) := by
  refine ⟨by simp, fun j hj => ?_, fun j => ?_⟩
  · have h : (madeCells #[.int .i64 0] n)[j]? = some (.int .i64 0) := by simp [madeCells, hj, Nat.mod_one]
    simp [World.cell?, World.alloc, -World.alloc_eq, h]
  · simp [World.frozen?, World.alloc, -World.alloc_eq]
theorem IRow.below {w w' : World} {G n : Nat} {f : Nat → Int} (h : IRow w G n f) (hb : Below w.heap.size w w') : IRow w' G n f :=
  ⟨Nat.lt_of_lt_of_le h.size hb.size, fun j hj => by rw [hb.cell h.size]; exact h.cell j hj, fun j => by rw [hb.frozen h.size]; exact h.free j⟩
theorem IRow.step {w : World} {G n k : Nat} {f g : Nat → Int} {x : Int} (h : IRow w G n f) (_ : k < n) (hg : g = fun j => if j = k then x else f j) : IRow (w.setCell ⟨G, k, none⟩ (.int .i64 x)) G n g := by
  subst hg
  refine ⟨by have := h.size; simpa [World.setCell] using this, fun j hj => ?_, fun j => by rw [World.frozen?_setCell]; exact h.free j⟩
  by_cases e : j = k
  · subst e
    rw [World.cell?_setCell_same w _ _ (h.cell j hj), if_pos rfl]
  · rw [World.cell?_setCell_other w _ _ _ (by intro h; injection h with _ h2 _; omega), h.cell j hj, if_neg e]

/-- the first of them, and then nothing -/
def inTo (f : Nat → Int) (k j : Nat) : Int := if j < k then f j else 0
theorem inTo_succ (f : Nat → Int) (k : Nat) : inTo f (k + 1) = fun j => if j = k then f k else inTo f k j := by
  funext j
  unfold inTo
  by_cases e : j = k
  · subst e; rw [if_pos (by omega), if_pos rfl]
  · rw [if_neg e]
    by_cases h : j < k
    · rw [if_pos h, if_pos (by omega)]
    · rw [if_neg h, if_neg (by omega)]

/-- what the library cuts -/
def parts (s : ByteArray) : List ByteArray := Lib.splitB ⟨#[44]⟩ 0 (min (64 + 1) (s.size + 1) - 1) s

/-- a row of texts, at a block -/
def TextsAt (w : World) (B g : Nat) (P : List ByteArray) : Prop := B ≤ g ∧ g < w.heap.size ∧ ∀ j x, P[j]? = some x → w.cell? ⟨g, j, none⟩ = some (.string x)
theorem TextsAt.below {w w' : World} {B g : Nat} {P : List ByteArray} (h : TextsAt w B g P) (hb : Below w.heap.size w w') : TextsAt w' B g P :=
  ⟨h.1, Nat.lt_of_lt_of_le h.2.1 hb.size, fun j x hx => by rw [hb.cell h.2.1]; exact h.2.2 j x hx⟩

theorem splitCall (s : ByteArray) (hs : s.size ≤ 1048576) (w : World) (hm : ∃ m, w.cell? ⟨2, 0, none⟩ = some (.int .i64 m)) :
    Calls Tryd.prog 109 #[.string s, .string ⟨#[44]⟩, .int .i64 65] w fun e w' => ∃ g c, e = .returned (.slice (some ⟨g, 0, none⟩) (parts s).length c) ∧ Hid (TextsAt w' w.heap.size g (parts s)) ∧ Hid (Below w.heap.size w w') := by
  obtain ⟨m, hm⟩ := hm
  refine (Tryd.strings_SplitN s ⟨#[44]⟩ 65 m w (by omega) hm (by decide) (by decide) (by decide)).mono ?_
  rintro e w' ⟨rfl, rfl⟩
  refine ⟨w.heap.size, _, rfl, ⟨Nat.le_refl _, by simp, fun j x hx => ?_⟩, (Below.refl _ _).alloc (Nat.le_refl _) _⟩
  have hj : j < (parts s).length := (List.getElem?_eq_some_iff.1 hx).1
  have h : (Lib.cellsOf (parts s) (min 65 (s.size + 1)))[j]? = some (.string x) := by
    unfold Lib.cellsOf
    rw [List.getElem?_toArray, List.getElem?_append_left (by simpa using hj), List.getElem?_map, hx]; rfl
  show (w.alloc (.cells (Lib.cellsOf (parts s) (min 65 (s.size + 1))) 9)).cell? _ = _
  simp [World.cell?, World.alloc, -World.alloc_eq, h]

theorem parts_many {s : ByteArray} (h : 64 < (parts s).length) : ¬ (cutB s).length ≤ 64 := by
  intro h2
  have := (split_most s 64).1 h2
  unfold parts at h
  rw [this] at h
  omega
theorem parts_few {s : ByteArray} (h : (parts s).length ≤ 64) : parts s = cutB s ∧ (cutB s).length ≤ 64 := by
  rcases Nat.lt_or_ge 64 (cutB s).length with h2 | h2
  · have := (split_most s 64).2 h2
    unfold parts at h
    rw [this] at h
    omega
  · exact ⟨(split_most s 64).1 h2, h2⟩

set_option maxHeartbeats 2000000 in
theorem implSplit (s : ByteArray) (hs : s.size ≤ 1048576) (w : World) (hv : Vars w) (hm : ∃ m, w.cell? ⟨2, 0, none⟩ = some (.int .i64 m)) :
    Calls Tryd.prog 87 #[.string s, .int .i64 64, .string ⟨#[44]⟩, .func (.func 53) #[] #[]] w (LPost (liL s) (liB s) w) := by
  have HV := Lib.hid hv
  clear hv
  by_cases hnone : s.data.toList = noneT
  · have hsb := none_eq hnone
    have N := Lib.hid (liL_none hnone)
    clear hnone hm
    go_enter Tryd.func87, Tryd.ntmps87
    go_wp2_with fail
    go_ret2
    rw [N.out.2]
    exact lpost_no N.out.1 (Below.refl _ _)
  have hsb := none_ne hnone
  have HN := Lib.hid hnone
  have hsm : Hid (∀ (k : Nat) (x : ByteArray), (cutB s)[k]? = some x → x.size ≤ 1048576) := fun k x h => piece_small hs h
  have HC := Lib.hid (splitCall s hs w hm)
  by_cases h64 : 64 < (parts s).length
  · have N := Lib.hid (liL_no hnone (by rw [decide_eq_false (parts_many h64)]; rfl))
    have h9 : decide ((64 : Int) < ((parts s).length : Int)) = true := decide_eq_true (by omega)
    clear hnone h64 hm
    go_enter Tryd.func87, Tryd.ntmps87
    go_wp2_with (go_at_call 109; refine HC.out.mono ?_; rintro e w1 ⟨gp, cp, rfl, hS, hB1⟩)
    go_ret2
    rw [N.out.2]
    exact lpost_no N.out.1 hB1.out
  obtain ⟨hq1, hq2⟩ := parts_few (Nat.le_of_not_lt h64)
  rw [hq1] at HC h64
  obtain ⟨P, hP⟩ : ∃ P : List ByteArray, P = cutB s := ⟨_, rfl⟩
  have HP := Lib.hid hP
  rw [← hP] at HC h64 hsm hq2
  have h9 : decide ((64 : Int) < (P.length : Int)) = false := decide_eq_false (by omega)
  obtain ⟨i0, hi, hz0, hz1, hz2⟩ := info_parts info_i64
  have hmk := fun W => run_make_rowN (P := Tryd.prog) 53 2 i0 (.int .i64 0) Tryd.underlying53 hi hz0 .i64 .i64 P.length P.length (Nat.le_refl _) (by rw [hz2]; omega) (by omega) W
  rw [hz1, Nat.mul_one] at hmk
  clear hi hz0 hz1 hz2 hnone hP h64 hq1 hm
  go_enter Tryd.func87, Tryd.ntmps87
  go_wp2_with (go_at_call 109; refine HC.out.mono ?_; rintro e w1 ⟨gp, cp, rfl, hS, hB1⟩)
  clear hmk h9
  generalize hG : w.heap.size = G at *
  have HG := Lib.hid hG
  clear hG
  have C2 : Hid (IRow (w1.alloc (.cells (madeCells #[.int .i64 0] P.length) 2)) w1.heap.size P.length (inTo (fun j => rdN (P.getD j ⟨#[]⟩)) 0)) := by
    have := iRow_start w1 P.length
    rwa [show (fun _ => (0 : Int)) = inTo (fun j => rdN (P.getD j ⟨#[]⟩)) 0 from by funext j; simp [inTo]] at this
  have S2 : Hid (TextsAt (w1.alloc (.cells (madeCells #[.int .i64 0] P.length) 2)) G gp P) := hS.out.below ((Below.refl _ _).alloc (Nat.le_refl _) _)
  have hG1 : Hid (G ≤ w1.heap.size) := by show G ≤ _; rw [← HG.out]; exact hB1.out.size
  have B2 : Hid (Below G w (w1.alloc (.cells (madeCells #[.int .i64 0] P.length) 2))) := hB1.out.alloc hG1.out _
  have hgp : Hid (gp < w1.heap.size) := hS.out.2.1
  clear hS hB1
  generalize w1.alloc (.cells (madeCells #[.int .i64 0] P.length) 2) = w2 at *
  generalize w1.heap.size = H at *
  go_loopw [32] (fun i wr => ∃ k : Nat, k ≤ P.length ∧ i = .int .i64 k ∧ Hid (rdTo P k) ∧ Hid (IRow wr H P.length (inTo (fun j => rdN (P.getD j ⟨#[]⟩)) k)) ∧ Hid (TextsAt wr G gp P) ∧ Hid (Below G w wr)) (fun i _ => P.length - (intOf i).toNat)
  case atStart => exact ⟨0, Nat.zero_le _, rfl, fun j hj => absurd hj (Nat.not_lt_zero _), C2, S2, B2⟩
  case round =>
    obtain ⟨k, hk, rfl, hT, hC, hS, hB⟩ := hrel
    have hsz : Hid (G ≤ wr.heap.size) := by show G ≤ wr.heap.size; rw [← HG.out]; exact hB.out.size
    by_cases hlt : k < P.length
    · obtain ⟨x, hx, hno, hyes, hfx⟩ : ∃ x : ByteArray, P[k]? = some x ∧ (rdB x = false → rdOk P = false) ∧ (rdB x = true → rdTo P (k + 1)) ∧ Hid (inTo (fun j => rdN (P.getD j ⟨#[]⟩)) (k + 1) = fun j => if j = k then rdN x else inTo (fun j => rdN (P.getD j ⟨#[]⟩)) k j) :=
        ⟨P.getD k ⟨#[]⟩, getD_some hlt, rdOk_not hlt, fun hrb j hj => by
          by_cases e : j = k
          · rw [e]; exact hrb
          · exact hT.out j (by omega), inTo_succ _ k⟩
      have hc := hS.out.2.2 k x hx
      have hxs := hsm.out k _ hx
      have HVr : Hid (Vars wr) := HV.out.below (by rw [HG.out]; exact hB.out)
      have HX : Hid (Calls Tryd.prog 53 #[.string x] wr fun e w' => e = .returned (.tuple #[.int .i64 (rdN x), .bool (rdB x)]) ∧ Below wr.heap.size wr w') := implRd x hxs wr HVr.out
      clear hx hxs HVr
      rcases Bool.eq_false_or_eq_true (rdB x) with hrb | hrb
      rotate_left 1
      · have N := Lib.hid (liL_no HN.out (by rw [← HP.out, hno hrb, Bool.and_false]))
        clear hno hyes
        go_wp2_with (go_at_call 53; refine HX.out.mono ?_; rintro e w3 ⟨rfl, hb3⟩; have HB3 := Lib.hid hb3; clear hb3)
        go_ret2
        rw [N.out.2]
        exact lpost_no N.out.1 (by rw [HG.out]; exact hB.out.trans (HB3.out.mono hsz.out))
      · have N : Hid (rdTo P (k + 1)) := hyes hrb
        clear hno hyes
        go_wp2_with (go_at_call 53; refine HX.out.mono ?_; rintro e w3 ⟨rfl, hb3⟩; have HB3 := Lib.hid hb3; have hd := (hC.out.below hb3).cell k hlt; have hf := (hC.out.below hb3).free k; clear hb3)
        have hs3 := Lib.hid ((hC.out.below HB3.out).step hlt hfx.out)
        have hB4 : Hid (Below G w (w3.setCell ⟨H, k, none⟩ (.int .i64 (rdN x)))) := (hB.out.trans (HB3.out.mono hsz.out)).setCell hG1.out _
        have hS4 : Hid (TextsAt (w3.setCell ⟨H, k, none⟩ (.int .i64 (rdN x))) G gp P) := by
          have h3 := hS.out.below HB3.out
          refine ⟨h3.1, by simpa [World.setCell] using h3.2.1, fun j y hy => ?_⟩
          rw [World.cell?_setCell_other _ _ _ _ (by intro e; injection e with e1 _ _; have := hgp.out; omega)]
          exact h3.2.2 j y hy
        clear hd hf hc hC hB hS
        go_roundw
        case rel => exact ⟨k + 1, by omega, by go_num, N, hs3, hS4, hB4⟩
        case measure => simp [intOf]; omega
    · have HK : Hid (k = P.length) := by show k = P.length; omega
      have hall := rdTo_all (show rdTo P P.length from HK.out ▸ hT.out)
      have N := Lib.hid (liL_yes HN.out (by rw [← HP.out]; exact hq2) (by rw [← HP.out]; exact hall))
      clear hall
      go_wp2_with fail
      go_ret2
      rw [N.out.2, N.out.1, ← HP.out]
      refine ⟨some ⟨H, 0, none⟩, P.length, by rw [rdNs_length]; rfl, ?_, by rw [HG.out]; exact hB⟩
      intro h0
      refine ⟨H, 0, rfl, by rw [HG.out]; exact hG1.out, hC.out.size, fun j hj => ?_, fun j _ => hC.out.free _⟩
      rw [rdNs_length] at hj
      rw [Nat.zero_add, hC.out.cell j hj, rdNs_at hj]
      unfold inTo
      rw [if_pos (by have := HK.out; omega)]

theorem implLi (s : ByteArray) (hs : s.size ≤ 1048576) (w : World) (hv : Vars w) (hm : ∃ m, w.cell? ⟨2, 0, none⟩ = some (.int .i64 m)) :
    Calls Tryd.prog 40 #[.string s] w (LPost (liL s) (liB s) w) := by
  have HS := Lib.hid (implSplit s hs w hv hm)
  clear hv hm
  go_enter Tryd.func40, Tryd.ntmps40
  go_wp2_with (go_at_call 87; refine HS.out.mono ?_; rintro e w1 ⟨A, c, rfl, hO, hB⟩)
  go_ret2
  exact ⟨A, c, rfl, hO, hB⟩

end Go.Proofs.YtegbclfjcckglaaDoor
