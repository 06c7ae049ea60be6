/-
  What is proved here: how the model reads a list of numbers, as a walk. Conditions: the text has at most 1048576 bytes.
-/
import Derived.Test.YtegbclfjcckglaaDoorCutB
import Derived.Test.YtegbclfjcckglaaDoorShelfD
import Derived.Test.YtegbclfjcckglaaDoorLi
import Derived.Test.YtegbclfjcckglaaDoorNrd
import Derived.Test.YtegbclfjcckglaaDoorOwnF
namespace Go.Proofs.YtegbclfjcckglaaDoor
open Flt Go.RowKit


def rdNsF (P : List ByteArray) : List Nat := P.map rdFN
def rdOkF (P : List ByteArray) : Bool := P.all rdFB
def nlB (s : ByteArray) : Bool := if s.data.toList = noneT then true else decide ((cutB s).length ≤ 256) && rdOkF (cutB s)
def nlL (s : ByteArray) : List Nat := if s.data.toList = noneT then [] else if nlB s = true then rdNsF (cutB s) else []

/-- what both give: a list and whether there is one -/
def NLPost (L : List Nat) (b : Bool) (w : World) (e : Ending) (w' : World) : Prop :=
  ∃ A c, e = .returned (.tuple #[.slice A L.length c, .bool b]) ∧ Hid (OwnF w' w.heap.size A L) ∧ Hid (Below w.heap.size w w')

theorem nlpost_no {L : List Nat} {b : Bool} {w w' : World} {A : Option Addr} {c : Nat} (hL : L = []) (hb : Below w.heap.size w w') : NLPost L b w (.returned (.tuple #[.slice A 0 c, .bool b])) w' := by
  subst hL
  exact ⟨A, c, rfl, fun h => absurd h (Nat.lt_irrefl 0), hb⟩

/-- all have been read, before a place -/
def rdToF (P : List ByteArray) (k : Nat) : Prop := ∀ j, j < k → rdFB (P.getD j ⟨#[]⟩) = true
theorem rdToF_all {P : List ByteArray} (h : rdToF P P.length) : rdOkF P = true := by
  unfold rdOkF
  rw [List.all_eq_true]
  intro x hx
  obtain ⟨j, hj, rfl⟩ := List.getElem_of_mem hx
  have := h j hj
  rwa [show P.getD j ⟨#[]⟩ = P[j] by simp [List.getD, hj]] at this
theorem rdOkF_not {P : List ByteArray} {k : Nat} (h : k < P.length) (hm : rdFB (P.getD k ⟨#[]⟩) = false) : rdOkF P = false := by
  unfold rdOkF
  rw [List.all_eq_false]
  refine ⟨P[k], List.getElem_mem h, ?_⟩
  rw [show P.getD k ⟨#[]⟩ = P[k] by simp [List.getD, h]] at hm
  rw [hm]; simp
theorem rdNsF_length (P : List ByteArray) : (rdNsF P).length = P.length := by simp [rdNsF]
theorem rdNsF_at {P : List ByteArray} {j : Nat} (h : j < P.length) : at0 (rdNsF P) j = rdFN (P.getD j ⟨#[]⟩) := by
  unfold at0 rdNsF
  simp [List.getD, h]
theorem rdNsF_snoc {P : List ByteArray} {k : Nat} (h : k < P.length) : (rdNsF P).take (k + 1) = (rdNsF P).take k ++ [rdFN (P.getD k ⟨#[]⟩)] := by
  rw [List.take_succ_eq_append_getElem (by rw [rdNsF_length]; exact h)]
  congr 2
  rw [← rdNsF_at h]; simp [at0, List.getD, rdNsF_length, h]

theorem nlL_none {s : ByteArray} (h : s.data.toList = noneT) : nlL s = [] ∧ nlB s = true := by unfold nlL nlB; rw [if_pos h, if_pos h]; exact ⟨rfl, rfl⟩
theorem nlL_no {s : ByteArray} (h : ¬ s.data.toList = noneT) (h2 : (decide ((cutB s).length ≤ 256) && rdOkF (cutB s)) = false) : nlL s = [] ∧ nlB s = false := by
  have hb : nlB s = false := by unfold nlB; rw [if_neg h, h2]
  unfold nlL
  rw [if_neg h, hb]
  exact ⟨rfl, rfl⟩
theorem nlL_yes {s : ByteArray} (h : ¬ s.data.toList = noneT) (h1 : (cutB s).length ≤ 256) (h2 : rdOkF (cutB s) = true) : nlL s = rdNsF (cutB s) ∧ nlB s = true := by
  have hb : nlB s = true := by unfold nlB; rw [if_neg h, h2, decide_eq_true h1]; rfl
  unfold nlL
  rw [if_neg h, hb]
  exact ⟨rfl, rfl⟩

/-- 32-bit numbers that the call owns -/
def OwnLF (w : World) (G : Nat) (L : List Nat) (g c : Nat) : Prop := w.ownsRow G 29 1 (.slice (some ⟨g, 0, none⟩) L.length c) L.length (L.map (Value.float .f32))
theorem OwnLF.of {w : World} {G n : Nat} {v : Value} {L : List Nat} (h : w.ownsRow G 29 1 v n (L.map (Value.float .f32))) (hn : n = L.length) (hv : v ≠ .slice none 0 0) : ∃ g c, v = .slice (some ⟨g, 0, none⟩) L.length c ∧ OwnLF w G L g c := by
  subst hn
  rcases h.2 with ⟨h1, _⟩ | ⟨g, cap, cur, rfl, _⟩
  · exact absurd h1 hv
  · exact ⟨g, cap, rfl, h⟩
theorem OwnLF.own {w : World} {G g c : Nat} {L : List Nat} (h : OwnLF w G L g c) : OwnF w G (some ⟨g, 0, none⟩) L := by
  intro h0
  obtain ⟨h1, h2⟩ := World.ownsRow.lt h g rfl
  refine ⟨g, 0, rfl, h1, h2, fun j hj => ?_, fun j hj => World.ownsRow.frozenAt h _⟩
  rw [Nat.zero_add, World.ownsRow.cellAt h j (by omega), List.getElem?_map]
  simp [at0, List.getD, hj]

theorem own_apartF {w : World} {G H g h c d : Nat} {L : List Nat} {P : List ByteArray} (a : OwnLF w G L g c) (b : OwnS w H P h d) : g ≠ h := by
  intro e
  subst e
  rcases a.2 with ⟨h1, _⟩ | ⟨g1, _, _, h1, _, h2, _⟩
  · cases h1
  · rcases b.2 with ⟨h3, _⟩ | ⟨g2, _, _, h3, _, h4, _⟩
    · cases h3
    · injection h1 with h1 _ _
      injection h1 with h1
      injection h1 with h1 _ _
      injection h3 with h3 _ _
      injection h3 with h3
      injection h3 with h3 _ _
      subst h1
      subst h3
      rw [h2] at h4
      injection h4 with h4
      injection h4 with _ h5 _
      revert h5
      decide

theorem info_f32b : (Tryd.prog.info? 29).map (fun i => (i.zero, i.size, i.bytes)) = some (some (.float .f32 0), 1, 4) := by kernel_rfl

theorem specFrom1 (n : Nat) (h : (n : Int) ≤ 4294967295) (w : World) :
    Calls Tryd.prog 125 #[.int .i64 n] w fun e w' => e = .returned (.float .f32 n) ∧ w = w' := by
  have hb := f32frombits
  have h0 : (0 : Int) ≤ n := by omega
  go_enter Tryd.func125, Tryd.ntmps125
  go_wp2
  go_ret
  exact ⟨rfl, rfl⟩
theorem specBits1 (n : Nat) (h : (n : Int) ≤ 4294967295) (w : World) :
    Calls Tryd.prog 126 #[.float .f32 n] w fun e w' => e = .returned (.int .i64 (bitsN n)) ∧ w = w' := by
  have := specBits n ⟨by show n < 2 ^ 32; omega⟩ w
  rw [bitsV_N] at this
  exact this.mono fun _ _ ⟨h1, h2⟩ => ⟨h1, h2.symm⟩

/-- five kinds of bytes -/
theorem five (c : UInt8) : (48 ≤ c.toNat ∧ c.toNat ≤ 57 ∧ valH c = some (c.toNat - 48)) ∨ (97 ≤ c.toNat ∧ c.toNat ≤ 102 ∧ valH c = some (c.toNat - 87)) ∨ (c.toNat < 48 ∧ valH c = none) ∨ (57 < c.toNat ∧ c.toNat < 97 ∧ valH c = none) ∨ (102 < c.toNat ∧ valH c = none) := by
  unfold valH
  by_cases a : 48 ≤ c.toNat ∧ c.toNat ≤ 57
  · left; rw [if_pos a]; exact ⟨a.1, a.2, rfl⟩
  · rw [if_neg a]
    by_cases b : 97 ≤ c.toNat ∧ c.toNat ≤ 102
    · right; left; rw [if_pos b]; exact ⟨b.1, b.2, rfl⟩
    · rw [if_neg b]
      right; right
      rcases (show c.toNat < 48 ∨ (57 < c.toNat ∧ c.toNat < 97) ∨ 102 < c.toNat by omega) with h | h | h
      · left; exact ⟨h, rfl⟩
      · right; left; exact ⟨h.1, h.2, rfl⟩
      · right; right; exact ⟨h, rfl⟩

set_option maxHeartbeats 4000000 in
theorem specNl (s : ByteArray) (hs : s.size ≤ 1048576) (w : World) :
    Calls Tryd.prog 92 #[.string s] w (NLPost (nlL s) (nlB s) w) := by
  by_cases hnone : s.data.toList = noneT
  · have hsb := none_eq hnone
    have N := Lib.hid (nlL_none hnone)
    clear hnone
    go_enter Tryd.func92, Tryd.ntmps92
    go_wp2_with fail
    go_ret2
    rw [N.out.2]
    exact nlpost_no N.out.1 ((Below.refl _ _).alloc (Nat.le_refl _) _)
  have hsb := none_ne hnone
  obtain ⟨i0, hi, hz0, hz1, hz2⟩ := info_parts info_f32b
  have HI := Lib.hid (And.intro hi (And.intro hz0 (And.intro hz1 hz2)))
  have O0 : Hid (OwnLF (w.alloc (.cells #[] 29)) w.heap.size [] w.heap.size 0) := World.ownsRow_lit w #[] 0 (Nat.le_refl _) (by decide) rfl
  have B0 : Hid (Below w.heap.size w (w.alloc (.cells #[] 29))) := (Below.refl _ _).alloc (Nat.le_refl _) _
  have HN := Lib.hid hnone
  obtain ⟨P, hP⟩ : ∃ P : List ByteArray, P = cutB s := ⟨_, rfl⟩
  have HP := Lib.hid hP
  have hcut := fun W : World => (specCut s hs W)
  rw [← hP] at hcut
  have HC := Lib.hid hcut
  clear hi hz0 hz1 hz2 hnone hP hcut
  by_cases h64 : 256 < P.length
  · have N := Lib.hid (nlL_no HN.out (by rw [← HP.out, decide_eq_false (by omega)]; rfl))
    go_enter Tryd.func92, Tryd.ntmps92
    go_wp2_with (go_at_call 95; refine (HC.out _).mono ?_; rintro e w1 ⟨gp, cp, rfl, hS, hB1⟩)
    go_ret2
    rw [N.out.2]
    exact nlpost_no N.out.1 (B0.out.trans (hB1.out.mono B0.out.size))
  have h64' : P.length ≤ 256 := by omega
  have h9 : decide ((256 : Int) < (P.length : Int)) = false := decide_eq_false (by omega)
  clear h64
  go_enter Tryd.func92, Tryd.ntmps92
  go_wp2_with (go_at_call 95; refine (HC.out _).mono ?_; rintro e w1 ⟨gp, cp, rfl, hS, hB1⟩)
  have O1 : Hid (OwnLF w1 w.heap.size [] w.heap.size 0) := own_below O0.out hB1.out
  have B1 : Hid (Below w.heap.size w w1) := B0.out.trans (hB1.out.mono B0.out.size)
  have S1 : Hid (OwnS w1 w.heap.size P gp cp) := ⟨hS.out.1, hS.out.2.elim .inl fun ⟨g, cap, cur, h1, h2, h3⟩ => .inr ⟨g, cap, cur, h1, Nat.le_trans B0.out.size h2, h3⟩⟩
  clear h9 hS hB1 O0 B0
  generalize hG : w.heap.size = G at *
  have HG := Lib.hid hG
  clear hG
  go_loopw [4, 6] (fun o i wr => ∃ (k g c : Nat) (L : List Nat), o = .slice (some ⟨g, 0, none⟩) L.length c ∧ i = .int .i64 k ∧ k ≤ P.length ∧ L.length ≤ 256 ∧ Hid (L = (rdNsF P).take k) ∧ Hid (rdToF P k) ∧ Hid (OwnLF wr G L g c) ∧ Hid (OwnS wr G P gp cp) ∧ Hid (Below G w wr)) (fun _ i _ => P.length - (intOf i).toNat)
  case atStart => exact ⟨0, G, 0, [], rfl, rfl, Nat.zero_le _, by simp, rfl, fun j hj => absurd hj (Nat.not_lt_zero _), O1, S1, B1⟩
  case round =>
    obtain ⟨k, g, c, L, rfl, rfl, hk, htl, hLk, hT, hO, hS, hB⟩ := hrel
    have hsz : Hid (G ≤ wr.heap.size) := by show G ≤ wr.heap.size; rw [← HG.out]; exact hB.out.size
    by_cases hlt : k < P.length
    · obtain ⟨x, hx, hno, hyes, hsn0⟩ : ∃ x : ByteArray, P[k]? = some x ∧ (rdFB x = false → rdOkF P = false) ∧ (rdFB x = true → rdToF P (k + 1)) ∧ (rdNsF P).take (k + 1) = (rdNsF P).take k ++ [rdFN x] :=
        ⟨P.getD k ⟨#[]⟩, getD_some hlt, rdOkF_not hlt, fun hrb j hj => by
          by_cases e : j = k
          · rw [e]; exact hrb
          · exact hT.out j (by omega), rdNsF_snoc hlt⟩
      have hc := hS.out.cell hx
      have hsn := Lib.hid hsn0
      have HNO : Hid (rdFB x = false → nlL s = [] ∧ nlB s = false) := fun h => nlL_no HN.out (by rw [← HP.out, hno h, Bool.and_false])
      have HYES := Lib.hid hyes
      clear hx hsn0 hno hyes
      have hBw : Hid (Below w.heap.size w wr) := by rw [HG.out]; exact hB.out
      by_cases h8 : x.size = 8
      rotate_left 1
      · have N := Lib.hid (HNO.out (rdF_long h8).2)
        have hb0 : ((x.size : Int) == 8) = false := by simp; omega
        have hb1 : ((x.size : Int) != 8) = true := by simp; omega
        clear h8
        go_wp2_with fail
        go_ret2
        rw [N.out.2]
        exact nlpost_no N.out.1 hBw.out
      have hb0 : ((x.size : Int) == 8) = true := by simp; omega
      have hb1 : ((x.size : Int) != 8) = false := by simp; omega
      have H8 := Lib.hid h8
      have h8a : 8 ≤ x.size := by omega
      have h8b : x.size ≤ 8 := by omega
      clear h8
      go_wp2_with fail
      clear hb0 hb1
      go_loop [7, 8] (fun q i => ∃ n j : Nat, q = .int .i64 n ∧ i = .int .i64 j ∧ j ≤ 8 ∧ Hid (hexR (x.data.toList.take j) = some n)) (fun _ i => 8 - (intOf i).toNat)
      case atStart => exact ⟨0, 0, rfl, rfl, Nat.zero_le _, rfl⟩
      case round =>
        obtain ⟨n, j, rfl, rfl, hj, hR⟩ := hrel
        have hbd := hexR_bd hR.out
        by_cases hj8 : j < 8
        · have hn7 : n ≤ 268435455 := by
            have : 16 ^ j ≤ 16 ^ 7 := Nat.pow_le_pow_right (by decide) (by omega)
            omega
          have hjx : j < x.size := by omega
          clear hbd
          have HT := Lib.hid (hexR_take hjx hR.out)
          rcases five (x[j]'hjx) with ⟨c1, c2, hv⟩ | ⟨c1, c2, hv⟩ | ⟨c1, hv⟩ | ⟨c1, c2, hv⟩ | ⟨c1, hv⟩
          · have N : Hid (hexR (x.data.toList.take (j + 1)) = some (16 * n + ((x[j]'hjx).toNat - 48))) := by show _ = _; rw [HT.out, hv]; rfl
            clear hv HT hR
            go_wp2_with fail
            go_round
            case rel => exact ⟨16 * n + ((x[j]'hjx).toNat - 48), j + 1, by first | go_num | (congr 1; omega), by go_num, by omega, N⟩
            case measure => simp [intOf]; omega
          · have N : Hid (hexR (x.data.toList.take (j + 1)) = some (16 * n + ((x[j]'hjx).toNat - 87))) := by show _ = _; rw [HT.out, hv]; rfl
            clear hv HT hR
            go_wp2_with fail
            go_round
            case rel => exact ⟨16 * n + ((x[j]'hjx).toNat - 87), j + 1, by first | go_num | (congr 1; omega), by go_num, by omega, N⟩
            case measure => simp [intOf]; omega
          all_goals
            have N := Lib.hid (HNO.out (rdF_bad (hexR_end (k := j) (by rw [HT.out, hv]; rfl))).2)
            clear hv HT hR
            go_wp2_with fail
            go_ret2
            rw [N.out.2]
            exact nlpost_no N.out.1 hBw.out
        · have hn8 : (n : Int) ≤ 4294967295 := by
            have : 16 ^ j ≤ 16 ^ 8 := Nat.pow_le_pow_right (by decide) hj
            omega
          have HE : Hid (hexR x.data.toList = some n) := by
            show _ = _
            rw [← hR.out, List.take_of_length_le (by simp; omega)]
          clear hbd hR
          by_cases hbn : bitsN n = n
          · obtain ⟨V1, V2⟩ := rdF_is H8.out HE.out hbn
            have N : Hid (rdToF P (k + 1)) := HYES.out V2
            have hsn2 : Hid ((rdNsF P).take (k + 1) = (rdNsF P).take k ++ [n]) := by show _ = _; rw [hsn.out, V1]
            have HB : Hid (∀ W, Calls Tryd.prog 126 #[.float .f32 n] W fun e w' => e = .returned (.int .i64 (n : Nat)) ∧ W = w') := fun W => by
              have := specBits1 n hn8 W
              rwa [hbn] at this
            clear hbn HE V1 V2
            go_wp2_with (first | (go_at_call 125; refine (specFrom1 _ hn8 _).mono ?_; rintro e w' ⟨rfl, rfl⟩) | (go_at_call 126; refine (HB.out _).mono ?_; rintro e w' ⟨rfl, rfl⟩) | (at_builtin; refine wpList_append_own _ rfl _ _ 61 rfl G 29 i0 (.float .f32 0) 1 4 Tryd.underlying61 HI.out.1 HI.out.2.1 HI.out.2.2.1 HI.out.2.2.2 rfl (by decide) _ L.length (L.map (Value.float .f32)) rfl (World.ownsRow.alloc hO.out _) ⟨wr.heap.size, 0, none⟩ 1 1 [.float .f32 n] rfl rfl (World.ownsRow.cells (World.ownsRow_lit (base := G) (e := 29) (size := 1) wr #[.float .f32 n] 1 hsz.out (by decide) rfl) rfl) (by intro u hu; rw [List.mem_singleton.1 hu]; rfl) (by unfold maxLen; omega) (by omega) (by simp; exact Nat.le_succ_of_le hsz.out) ?_))
            intro v' w4 h2 hg2 hv2
            obtain ⟨g2, c2, rfl, O2⟩ := OwnLF.of (L := L ++ [n]) (by rw [List.map_append]; exact h2) (by simp) hv2
            have hap := own_apartF hO.out hS.out
            have HS4 : Hid (OwnS w4 G P gp cp) := World.ownsRow.kept (World.ownsRow.alloc hS.out _) hg2 (.inr (by intro e; exact hap (Option.some.inj e).symm))
            have HB4 := Lib.hid ((hB.out.alloc hsz.out _).grown hg2 (by simp; exact Nat.le_succ_of_le hsz.out) (fun q hq => by obtain rfl := Option.some.inj hq; exact (World.ownsRow.lt hO.out g rfl).1))
            have HO4 := Lib.hid O2
            have HL4 : Hid (L ++ [n] = (rdNsF P).take (k + 1)) := by show _ = _; rw [hsn2.out, hLk.out]
            have hl4 : (L ++ [n]).length ≤ 256 := by rw [HL4.out]; exact Nat.le_trans (List.length_take_le' _ _) (by rw [rdNsF_length]; exact h64')
            generalize L ++ [n] = L2 at *
            clear hv2 hg2 h2 O2 hap hO hS hB
            go_wp2_with fail
            go_roundw
            case rel => exact ⟨k + 1, g2, c2, L2, rfl, by go_num, by omega, hl4, HL4, N, HO4, HS4, HB4⟩
            case measure => simp [intOf]; omega
          · have N := Lib.hid (HNO.out (rdF_not HE.out hbn).2)
            have hne : ((bitsN n : Int) == (n : Int)) = false := by simp; omega
            have hne2 : ((bitsN n : Int) != (n : Int)) = true := by simp; omega
            clear hbn HE
            go_wp2_with (first | (go_at_call 125; refine (specFrom1 _ hn8 _).mono ?_; rintro e w' ⟨rfl, rfl⟩) | (go_at_call 126; refine (specBits1 _ hn8 _).mono ?_; rintro e w' ⟨rfl, rfl⟩))
            go_ret2
            rw [N.out.2]
            exact nlpost_no N.out.1 hBw.out
    · have HK : Hid (k = P.length) := by show k = P.length; omega
      have hall := rdToF_all (show rdToF P P.length from HK.out ▸ hT.out)
      have N := Lib.hid (nlL_yes HN.out (by rw [← HP.out]; exact h64') (by rw [← HP.out]; exact hall))
      have HT2 : Hid (L = rdNsF P) := by show L = rdNsF P; rw [hLk.out]; exact List.take_of_length_le (by rw [rdNsF_length]; have := HK.out; omega)
      clear hall
      go_wp2_with fail
      go_ret2
      rw [N.out.2, N.out.1, ← HP.out]
      exact ⟨some ⟨g, 0, none⟩, c, by rw [← HT2.out]; rfl, by rw [← HT2.out, HG.out]; exact hO.out.own, by rw [HG.out]; exact hB⟩

end Go.Proofs.YtegbclfjcckglaaDoor
