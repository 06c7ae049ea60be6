/-
  What is proved here: how the model reads a list of complex numbers, as a walk. Conditions: the text has at most 1048576 bytes.
-/
import Derived.Test.YtckhdbnoihieeaaDoorNrq
import Derived.Test.YtckhdbnoihieeaaDoorOwnCb
namespace Go.Proofs.YtckhdbnoihieeaaDoor
open Flt Go.RowKit
attribute [local go_sem] run_store_complex

theorem digits_long {s : ByteArray} (h8 : s.size = 8) (w : World) :
    Calls Tryd.prog 65 #[.string s] w fun e w' => e = .returned (.tuple #[.float .f32 (rdFN s), .bool (rdFB s)]) ∧ w = w' := by
  have H8 := Lib.hid h8
  have h8a : 8 ≤ s.size := by omega
  have h8b : s.size ≤ 8 := by omega
  clear h8
  go_enter Tryd.func65, Tryd.ntmps65
  go_wp2_with fail
  go_loop [4, 5] (fun q i => ∃ n j : Nat, q = .int .i64 n ∧ i = .int .i64 j ∧ j ≤ s.size ∧ Hid (hexR (s.data.toList.take j) = some n)) (fun _ i => s.size - (intOf i).toNat)
  case atStart => exact ⟨0, 0, rfl, rfl, Nat.zero_le _, rfl⟩
  case round =>
    obtain ⟨n, j, rfl, rfl, hj, hR⟩ := hrel
    have hbd := hexR_bd hR.out
    by_cases hjx : j < s.size
    · have hn7 : n ≤ 268435455 := by
        have : 16 ^ j ≤ 16 ^ 7 := Nat.pow_le_pow_right (by decide) (by omega)
        omega
      clear hbd
      have HT := Lib.hid (hexR_take hjx hR.out)
      rcases five (s[j]'hjx) with ⟨c1, c2, hv⟩ | ⟨c1, c2, hv⟩ | ⟨c1, hv⟩ | ⟨c1, c2, hv⟩ | ⟨c1, hv⟩
      · have N : Hid (hexR (s.data.toList.take (j + 1)) = some (16 * n + ((s[j]'hjx).toNat - 48))) := by show _ = _; rw [HT.out, hv]; rfl
        clear hv HT hR
        go_wp2_with fail
        go_round
        case rel => exact ⟨16 * n + ((s[j]'hjx).toNat - 48), j + 1, by first | go_num | (congr 1; omega), by go_num, by omega, N⟩
        case measure => simp [intOf]; omega
      · have N : Hid (hexR (s.data.toList.take (j + 1)) = some (16 * n + ((s[j]'hjx).toNat - 87))) := by show _ = _; rw [HT.out, hv]; rfl
        clear hv HT hR
        go_wp2_with fail
        go_round
        case rel => exact ⟨16 * n + ((s[j]'hjx).toNat - 87), j + 1, by first | go_num | (congr 1; omega), by go_num, by omega, N⟩
        case measure => simp [intOf]; omega
      all_goals
        have N := Lib.hid (rdF_bad (hexR_end (k := j) (by rw [HT.out, hv]; rfl)))
        clear hv HT hR
        go_wp2_with fail
        go_ret2
        exact ⟨by rw [N.out.1, N.out.2]; rfl, rfl⟩
    · have hn8 : (n : Int) ≤ 4294967295 := by
        have : 16 ^ j ≤ 16 ^ 8 := Nat.pow_le_pow_right (by decide) (by omega)
        omega
      have HE : Hid (hexR s.data.toList = some n) := by
        show _ = _
        rw [← hR.out, List.take_of_length_le (by simp; omega)]
      clear hbd hR
      by_cases hbn : bitsN n = n
      · have N := Lib.hid (rdF_is H8.out HE.out hbn)
        have HB : Hid (∀ W, Calls Tryd.prog 78 #[.float .f32 n] W fun e w' => e = .returned (.int .i64 (n : Nat)) ∧ W = w') := fun W => by
          have := specBits1 n hn8 W
          rwa [hbn] at this
        clear hbn HE
        go_wp2_with (first | (go_at_call 39; refine (specFrom1 _ hn8 _).mono ?_; rintro e w' ⟨rfl, rfl⟩) | (go_at_call 78; refine (HB.out _).mono ?_; rintro e w' ⟨rfl, rfl⟩))
        go_ret2
        exact ⟨by rw [N.out.1, N.out.2]; rfl, rfl⟩
      · have N := Lib.hid (rdF_not HE.out hbn)
        have hne : ((bitsN n : Int) == (n : Int)) = false := by simp; omega
        have hne2 : ((bitsN n : Int) != (n : Int)) = true := by simp; omega
        clear hbn HE
        go_wp2_with (first | (go_at_call 39; refine (specFrom1 _ hn8 _).mono ?_; rintro e w' ⟨rfl, rfl⟩) | (go_at_call 78; refine (specBits1 _ hn8 _).mono ?_; rintro e w' ⟨rfl, rfl⟩))
        go_ret2
        exact ⟨by rw [N.out.1, N.out.2]; rfl, rfl⟩

/-- both halves of a text -/
def lo8 (s : ByteArray) : ByteArray := s.extract 0 8
def hi8 (s : ByteArray) : ByteArray := s.extract 8 s.size
theorem lo8_size {s : ByteArray} (h : s.size = 16) : (lo8 s).size = 8 := by unfold lo8; rw [ByteArray.size_extract]; omega
theorem hi8_size {s : ByteArray} (h : s.size = 16) : (hi8 s).size = 8 := by unfold hi8; rw [ByteArray.size_extract]; omega

/-- the complex number with a text -/
def rdCB (s : ByteArray) : Bool := decide (s.size = 16) && (rdFB (lo8 s) && rdFB (hi8 s))
def rdCN (s : ByteArray) : Nat × Nat := if rdCB s = true then (rdFN (lo8 s), rdFN (hi8 s)) else (0, 0)
theorem rdC_long {s : ByteArray} (h : ¬ s.size = 16) : rdCB s = false := by unfold rdCB; rw [decide_eq_false h]; rfl
theorem rdC_of {s : ByteArray} (h : s.size = 16) : rdCB s = (rdFB (lo8 s) && rdFB (hi8 s)) := by unfold rdCB; rw [decide_eq_true h]; rfl

def rdNsC (P : List ByteArray) : List (Nat × Nat) := P.map rdCN
def rdOkC (P : List ByteArray) : Bool := P.all rdCB
def clB (s : ByteArray) : Bool := if s.data.toList = noneT then true else decide ((cutB s).length ≤ 256) && rdOkC (cutB s)
def clL (s : ByteArray) : List (Nat × Nat) := if s.data.toList = noneT then [] else if clB s = true then rdNsC (cutB s) else []

def CLPost (L : List (Nat × Nat)) (b : Bool) (w : World) (e : Ending) (w' : World) : Prop :=
  ∃ A c, e = .returned (.tuple #[.slice A L.length c, .bool b]) ∧ Hid (OwnC w' w.heap.size A L) ∧ Hid (Below w.heap.size w w')
theorem clpost_no {L : List (Nat × Nat)} {b : Bool} {w w' : World} {A : Option Addr} {c : Nat} (hL : L = []) (hb : Below w.heap.size w w') : CLPost L b w (.returned (.tuple #[.slice A 0 c, .bool b])) w' := by
  subst hL
  exact ⟨A, c, rfl, fun h => absurd h (Nat.lt_irrefl 0), hb⟩

def rdToC (P : List ByteArray) (k : Nat) : Prop := ∀ j, j < k → rdCB (P.getD j ⟨#[]⟩) = true
theorem rdToC_all {P : List ByteArray} (h : rdToC P P.length) : rdOkC P = true := by
  unfold rdOkC
  rw [List.all_eq_true]
  intro x hx
  obtain ⟨j, hj, rfl⟩ := List.getElem_of_mem hx
  have := h j hj
  rwa [show P.getD j ⟨#[]⟩ = P[j] by simp [List.getD, hj]] at this
theorem rdOkC_not {P : List ByteArray} {k : Nat} (h : k < P.length) (hm : rdCB (P.getD k ⟨#[]⟩) = false) : rdOkC P = false := by
  unfold rdOkC
  rw [List.all_eq_false]
  refine ⟨P[k], List.getElem_mem h, ?_⟩
  rw [show P.getD k ⟨#[]⟩ = P[k] by simp [List.getD, h]] at hm
  rw [hm]; simp
theorem rdNsC_length (P : List ByteArray) : (rdNsC P).length = P.length := by simp [rdNsC]
theorem rdNsC_at {P : List ByteArray} {j : Nat} (h : j < P.length) : atC (rdNsC P) j = rdCN (P.getD j ⟨#[]⟩) := by
  unfold atC rdNsC
  simp [List.getD, h]
theorem rdNsC_snoc {P : List ByteArray} {k : Nat} (h : k < P.length) : (rdNsC P).take (k + 1) = (rdNsC P).take k ++ [rdCN (P.getD k ⟨#[]⟩)] := by
  rw [List.take_succ_eq_append_getElem (by rw [rdNsC_length]; exact h)]
  congr 2
  rw [← rdNsC_at h]; simp [atC, List.getD, rdNsC_length, h]
theorem clL_none {s : ByteArray} (h : s.data.toList = noneT) : clL s = [] ∧ clB s = true := by unfold clL clB; rw [if_pos h, if_pos h]; exact ⟨rfl, rfl⟩
theorem clL_no {s : ByteArray} (h : ¬ s.data.toList = noneT) (h2 : (decide ((cutB s).length ≤ 256) && rdOkC (cutB s)) = false) : clL s = [] ∧ clB s = false := by
  have hb : clB s = false := by unfold clB; rw [if_neg h, h2]
  unfold clL
  rw [if_neg h, hb]
  exact ⟨rfl, rfl⟩
theorem clL_yes {s : ByteArray} (h : ¬ s.data.toList = noneT) (h1 : (cutB s).length ≤ 256) (h2 : rdOkC (cutB s) = true) : clL s = rdNsC (cutB s) ∧ clB s = true := by
  have hb : clB s = true := by unfold clB; rw [if_neg h, h2, decide_eq_true h1]; rfl
  unfold clL
  rw [if_neg h, hb]
  exact ⟨rfl, rfl⟩

/-- complex numbers that the call owns -/
def OwnLC (w : World) (G : Nat) (L : List (Nat × Nat)) (g c : Nat) : Prop := w.ownsRow G 48 1 (.slice (some ⟨g, 0, none⟩) L.length c) L.length (L.map cV)
theorem OwnLC.of {w : World} {G n : Nat} {v : Value} {L : List (Nat × Nat)} (h : w.ownsRow G 48 1 v n (L.map cV)) (hn : n = L.length) (hv : v ≠ .slice none 0 0) : ∃ g c, v = .slice (some ⟨g, 0, none⟩) L.length c ∧ OwnLC w G L g c := by
  subst hn
  rcases h.2 with ⟨h1, _⟩ | ⟨g, cap, cur, rfl, _⟩
  · exact absurd h1 hv
  · exact ⟨g, cap, rfl, h⟩
theorem OwnLC.own {w : World} {G g c : Nat} {L : List (Nat × Nat)} (h : OwnLC w G L g c) : OwnC w G (some ⟨g, 0, none⟩) L := by
  intro h0
  obtain ⟨h1, h2⟩ := World.ownsRow.lt h g rfl
  refine ⟨g, 0, rfl, h1, h2, fun j hj => ?_, fun j hj => World.ownsRow.frozenAt h _⟩
  rw [Nat.zero_add, World.ownsRow.cellAt h j (by omega), List.getElem?_map]
  simp [atC, List.getD, hj]
theorem own_apartC {w : World} {G H g h c d : Nat} {L : List (Nat × Nat)} {P : List ByteArray} (a : OwnLC w G L g c) (b : OwnS w H P h d) : g ≠ h := by
  intro e
  subst e
  rcases a.2 with ⟨h1, _⟩ | ⟨g1, _, _, h1, _, h2, _⟩
  · cases h1
  · rcases b.2 with ⟨h3, _⟩ | ⟨g2, _, _, h3, _, h4, _⟩
    · cases h3
    · injection h1 with h1 _ _
      injection h1 with h1
      injection h1 with h1 _ _
      injection h3 with h3 _ _
      injection h3 with h3
      injection h3 with h3 _ _
      subst h1
      subst h3
      rw [h2] at h4
      injection h4 with h4
      injection h4 with _ h5 _
      revert h5
      decide
theorem info_c64 : (Tryd.prog.info? 48).map (fun i => (i.zero, i.size, i.bytes)) = some (some (.complex .f32 0 0), 1, 8) := by kernel_rfl

set_option maxHeartbeats 4000000 in
theorem specCl (s : ByteArray) (hs : s.size ≤ 1048576) (w : World) :
    Calls Tryd.prog 32 #[.string s] w (CLPost (clL s) (clB s) w) := by
  by_cases hnone : s.data.toList = noneT
  · have hsb := none_eq hnone
    have N := Lib.hid (clL_none hnone)
    clear hnone
    go_enter Tryd.func32, Tryd.ntmps32
    go_wp2_with fail
    go_ret2
    rw [N.out.2]
    exact clpost_no N.out.1 ((Below.refl _ _).alloc (Nat.le_refl _) _)
  have hsb := none_ne hnone
  obtain ⟨i0, hi, hz0, hz1, hz2⟩ := info_parts info_c64
  have HI := Lib.hid (And.intro hi (And.intro hz0 (And.intro hz1 hz2)))
  have O0 : Hid (OwnLC (w.alloc (.cells #[] 48)) w.heap.size [] w.heap.size 0) := World.ownsRow_lit w #[] 0 (Nat.le_refl _) (by decide) rfl
  have B0 : Hid (Below w.heap.size w (w.alloc (.cells #[] 48))) := (Below.refl _ _).alloc (Nat.le_refl _) _
  have HN := Lib.hid hnone
  obtain ⟨P, hP⟩ : ∃ P : List ByteArray, P = cutB s := ⟨_, rfl⟩
  have HP := Lib.hid hP
  have hcut := fun W : World => (specCut s hs W)
  rw [← hP] at hcut
  have HC := Lib.hid hcut
  clear hi hz0 hz1 hz2 hnone hP hcut
  by_cases h64 : 256 < P.length
  · have N := Lib.hid (clL_no HN.out (by rw [← HP.out, decide_eq_false (by omega)]; rfl))
    go_enter Tryd.func32, Tryd.ntmps32
    go_wp2_with (go_at_call 64; refine (HC.out _).mono ?_; rintro e w1 ⟨gp, cp, rfl, hS, hB1⟩)
    go_ret2
    rw [N.out.2]
    exact clpost_no N.out.1 (B0.out.trans (hB1.out.mono B0.out.size))
  have h64' : P.length ≤ 256 := by omega
  have h9 : decide ((256 : Int) < (P.length : Int)) = false := decide_eq_false (by omega)
  clear h64
  go_enter Tryd.func32, Tryd.ntmps32
  go_wp2_with (go_at_call 64; refine (HC.out _).mono ?_; rintro e w1 ⟨gp, cp, rfl, hS, hB1⟩)
  have O1 : Hid (OwnLC w1 w.heap.size [] w.heap.size 0) := own_below O0.out hB1.out
  have B1 : Hid (Below w.heap.size w w1) := B0.out.trans (hB1.out.mono B0.out.size)
  have S1 : Hid (OwnS w1 w.heap.size P gp cp) := ⟨hS.out.1, hS.out.2.elim .inl fun ⟨g, cap, cur, h1, h2, h3⟩ => .inr ⟨g, cap, cur, h1, Nat.le_trans B0.out.size h2, h3⟩⟩
  clear h9 hS hB1 O0 B0
  generalize hG : w.heap.size = G at *
  have HG := Lib.hid hG
  clear hG
  go_loopw [4, 6] (fun o i wr => ∃ (k g c : Nat) (L : List (Nat × Nat)), o = .slice (some ⟨g, 0, none⟩) L.length c ∧ i = .int .i64 k ∧ k ≤ P.length ∧ L.length ≤ 256 ∧ Hid (L = (rdNsC P).take k) ∧ Hid (rdToC P k) ∧ Hid (OwnLC wr G L g c) ∧ Hid (OwnS wr G P gp cp) ∧ Hid (Below G w wr)) (fun _ i _ => P.length - (intOf i).toNat)
  case atStart => exact ⟨0, G, 0, [], rfl, rfl, Nat.zero_le _, by simp, rfl, fun j hj => absurd hj (Nat.not_lt_zero _), O1, S1, B1⟩
  case round =>
    obtain ⟨k, g, c, L, rfl, rfl, hk, htl, hLk, hT, hO, hS, hB⟩ := hrel
    have hsz : Hid (G ≤ wr.heap.size) := by show G ≤ wr.heap.size; rw [← HG.out]; exact hB.out.size
    by_cases hlt : k < P.length
    · obtain ⟨x, hx, hno, hyes, hsn0⟩ : ∃ x : ByteArray, P[k]? = some x ∧ (rdCB x = false → rdOkC P = false) ∧ (rdCB x = true → rdToC P (k + 1)) ∧ (rdNsC P).take (k + 1) = (rdNsC P).take k ++ [rdCN x] :=
        ⟨P.getD k ⟨#[]⟩, getD_some hlt, rdOkC_not hlt, fun hrb j hj => by
          by_cases e : j = k
          · rw [e]; exact hrb
          · exact hT.out j (by omega), rdNsC_snoc hlt⟩
      have hc := hS.out.cell hx
      have hsn := Lib.hid hsn0
      have HNO : Hid (rdCB x = false → clL s = [] ∧ clB s = false) := fun h => clL_no HN.out (by rw [← HP.out, hno h, Bool.and_false])
      have HYES := Lib.hid hyes
      clear hx hsn0 hno hyes
      have hBw : Hid (Below w.heap.size w wr) := by rw [HG.out]; exact hB.out
      by_cases h16 : x.size = 16
      rotate_left 1
      · have N := Lib.hid (HNO.out (rdC_long h16))
        have hb0 : ((x.size : Int) == 16) = false := by simp; omega
        have hb1 : ((x.size : Int) != 16) = true := by simp; omega
        clear h16
        go_wp2_with fail
        go_ret2
        rw [N.out.2]
        exact clpost_no N.out.1 hBw.out
      have hb0 : ((x.size : Int) == 16) = true := by simp; omega
      have hb1 : ((x.size : Int) != 16) = false := by simp; omega
      have h16a : 16 ≤ x.size := by omega
      have h16b : x.size ≤ 16 := by omega
      have HLo : Hid (∀ W, Calls Tryd.prog 65 #[.string (x.extract 0 8)] W fun e w' => e = .returned (.tuple #[.float .f32 (rdFN (lo8 x)), .bool (rdFB (lo8 x))]) ∧ W = w') := fun W => digits_long (lo8_size h16) W
      have HHi : Hid (∀ W, Calls Tryd.prog 65 #[.string (x.extract 8 x.size)] W fun e w' => e = .returned (.tuple #[.float .f32 (rdFN (hi8 x)), .bool (rdFB (hi8 x))]) ∧ W = w') := fun W => digits_long (hi8_size h16) W
      have HB := Lib.hid (rdC_of h16)
      clear h16
      cases hlo : rdFB (lo8 x)
      · have N := Lib.hid (HNO.out (by rw [HB.out, hlo]; rfl))
        rw [hlo] at HLo
        clear hlo HB
        go_wp2_with (first | (go_at_call 65; ((with_reducible refine (HLo.out _).mono ?_); rintro e w' ⟨rfl, rfl⟩)) | (go_at_call 65; ((with_reducible refine (HHi.out _).mono ?_); rintro e w' ⟨rfl, rfl⟩)))
        go_ret2
        rw [N.out.2]
        exact clpost_no N.out.1 hBw.out
      cases hhi : rdFB (hi8 x)
      · have N := Lib.hid (HNO.out (by rw [HB.out, hhi, Bool.and_false]))
        rw [hlo] at HLo
        rw [hhi] at HHi
        clear hlo hhi HB
        go_wp2_with (first | (go_at_call 65; ((with_reducible refine (HLo.out _).mono ?_); rintro e w' ⟨rfl, rfl⟩)) | (go_at_call 65; ((with_reducible refine (HHi.out _).mono ?_); rintro e w' ⟨rfl, rfl⟩)))
        go_ret2
        rw [N.out.2]
        exact clpost_no N.out.1 hBw.out
      · have hcb : rdCB x = true := by rw [HB.out, hlo, hhi]; rfl
        have N : Hid (rdToC P (k + 1)) := HYES.out hcb
        obtain ⟨p, hp⟩ : ∃ p, p = rdFN (lo8 x) := ⟨_, rfl⟩
        obtain ⟨q, hq⟩ : ∃ q, q = rdFN (hi8 x) := ⟨_, rfl⟩
        have hsn2 : Hid ((rdNsC P).take (k + 1) = (rdNsC P).take k ++ [(p, q)]) := by show _ = _; rw [hsn.out, hp, hq]; unfold rdCN; rw [if_pos hcb]
        rw [hlo, ← hp] at HLo
        rw [hhi, ← hq] at HHi
        clear hlo hhi HB hcb hp hq
        go_wp2_with (first | (go_at_call 65; ((with_reducible refine (HLo.out _).mono ?_); rintro e w' ⟨rfl, rfl⟩)) | (go_at_call 65; ((with_reducible refine (HHi.out _).mono ?_); rintro e w' ⟨rfl, rfl⟩)) | (at_builtin; refine wpList_append_own _ rfl _ _ 22 rfl G 48 i0 (.complex .f32 0 0) 1 8 Tryd.underlying22 HI.out.1 HI.out.2.1 HI.out.2.2.1 HI.out.2.2.2 rfl (by decide) _ L.length (L.map cV) rfl (World.ownsRow.alloc hO.out _) ⟨wr.heap.size, 0, none⟩ 1 1 [.complex .f32 p q] rfl rfl (World.ownsRow.cells (World.ownsRow_lit (base := G) (e := 48) (size := 1) wr #[.complex .f32 p q] 1 hsz.out (by decide) rfl) rfl) (by intro u hu; rw [List.mem_singleton.1 hu]; rfl) (by unfold maxLen; omega) (by omega) (by simp; exact Nat.le_succ_of_le hsz.out) ?_))
        intro v' w4 h2 hg2 hv2
        obtain ⟨g2, c2, rfl, O2⟩ := OwnLC.of (L := L ++ [(p, q)]) (by rw [List.map_append]; exact h2) (by simp) hv2
        have hap := own_apartC hO.out hS.out
        have HS4 : Hid (OwnS w4 G P gp cp) := World.ownsRow.kept (World.ownsRow.alloc hS.out _) hg2 (.inr (by intro e; exact hap (Option.some.inj e).symm))
        have HB4 := Lib.hid ((hB.out.alloc hsz.out _).grown hg2 (by simp; exact Nat.le_succ_of_le hsz.out) (fun q hq => by obtain rfl := Option.some.inj hq; exact (World.ownsRow.lt hO.out g rfl).1))
        have HO4 := Lib.hid O2
        have HL4 : Hid (L ++ [(p, q)] = (rdNsC P).take (k + 1)) := by show _ = _; rw [hsn2.out, hLk.out]
        have hl4 : (L ++ [(p, q)]).length ≤ 256 := by rw [HL4.out]; exact Nat.le_trans (List.length_take_le' _ _) (by rw [rdNsC_length]; exact h64')
        generalize L ++ [(p, q)] = L2 at *
        clear hv2 hg2 h2 O2 hap hO hS hB
        go_wp2_with fail
        go_roundw
        case rel => exact ⟨k + 1, g2, c2, L2, rfl, by go_num, by omega, hl4, HL4, N, HO4, HS4, HB4⟩
        case measure => simp [intOf]; omega
    · have HK : Hid (k = P.length) := by show k = P.length; omega
      have hall := rdToC_all (show rdToC P P.length from HK.out ▸ hT.out)
      have N := Lib.hid (clL_yes HN.out (by rw [← HP.out]; exact h64') (by rw [← HP.out]; exact hall))
      have HT2 : Hid (L = rdNsC P) := by show L = rdNsC P; rw [hLk.out]; exact List.take_of_length_le (by rw [rdNsC_length]; have := HK.out; omega)
      clear hall
      go_wp2_with fail
      go_ret2
      rw [N.out.2, N.out.1, ← HP.out]
      exact ⟨some ⟨g, 0, none⟩, c, by rw [← HT2.out]; rfl, by rw [← HT2.out, HG.out]; exact hO.out.own, by rw [HG.out]; exact hB⟩

end Go.Proofs.YtckhdbnoihieeaaDoor
