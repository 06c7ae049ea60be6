/-
  What is proved here: the two functions ReadList, as walks. Conditions: the text has at most 1048576 bytes; the library's variables hold what it lays.
-/
import Derived.Test.YtegbclfjcckglaaDoorCutB
import Derived.Test.YtegbclfjcckglaaDoorShelfD
namespace Go.Proofs.YtegbclfjcckglaaDoor
open Go.RowKit

/-- what both give: a list and whether there is one -/
def LPost (L : List Int) (b : Bool) (w : World) (e : Ending) (w' : World) : Prop :=
  ∃ A c, e = .returned (.tuple #[.slice A L.length c, .bool b]) ∧ Hid (OwnI w' w.heap.size A L) ∧ Hid (Below w.heap.size w w')

theorem lpost_no {L : List Int} {b : Bool} {w w' : World} {A : Option Addr} {c : Nat} (hL : L = []) (hb : Below w.heap.size w w') : LPost L b w (.returned (.tuple #[.slice A 0 c, .bool b])) w' := by
  subst hL
  exact ⟨A, c, rfl, fun h => absurd h (Nat.lt_irrefl 0), hb⟩

theorem rdN_of {s : ByteArray} {n : Int} (h : decR s.data.toList = some n) : rdN s = n := by unfold rdN; rw [h]; rfl

/-- all have been read, before a place -/
def rdTo (P : List ByteArray) (k : Nat) : Prop := ∀ j, j < k → rdB (P.getD j ⟨#[]⟩) = true
theorem rdTo_all {P : List ByteArray} (h : rdTo P P.length) : rdOk P = true := by
  unfold rdOk
  rw [List.all_eq_true]
  intro x hx
  obtain ⟨j, hj, rfl⟩ := List.getElem_of_mem hx
  have := h j hj
  rwa [show P.getD j ⟨#[]⟩ = P[j] by simp [List.getD, hj]] at this
theorem rdOk_not {P : List ByteArray} {k : Nat} (h : k < P.length) (hm : rdB (P.getD k ⟨#[]⟩) = false) : rdOk P = false := by
  unfold rdOk
  rw [List.all_eq_false]
  refine ⟨P[k], List.getElem_mem h, ?_⟩
  rw [show P.getD k ⟨#[]⟩ = P[k] by simp [List.getD, h]] at hm
  unfold rdB at hm
  rw [hm]; simp
theorem rdNs_at {P : List ByteArray} {j : Nat} (h : j < P.length) : atI (rdNs P) j = rdN (P.getD j ⟨#[]⟩) := by
  unfold atI rdNs rdN
  simp [List.getD, h]
theorem rdNs_length (P : List ByteArray) : (rdNs P).length = P.length := by simp [rdNs]
theorem rdNs_snoc {P : List ByteArray} {k : Nat} (h : k < P.length) : (rdNs P).take (k + 1) = (rdNs P).take k ++ [rdN (P.getD k ⟨#[]⟩)] := by
  rw [List.take_succ_eq_append_getElem (by rw [rdNs_length]; exact h)]
  congr 2
  rw [← rdNs_at h]; simp [atI, List.getD, rdNs_length, h]
theorem getD_some {P : List ByteArray} {k : Nat} (h : k < P.length) : P[k]? = some (P.getD k ⟨#[]⟩) := by simp [List.getD, h]

theorem piece_small {s x : ByteArray} (hs : s.size ≤ 1048576) {k : Nat} (h : (cutB s)[k]? = some x) : x.size ≤ 1048576 := by
  have key : ∀ (l p : List UInt8), p ∈ cutF l → p.length ≤ l.length := by
    intro l
    induction l with
    | nil => intro p hp; rw [show cutF [] = [[]] from rfl] at hp; rw [List.mem_singleton.1 hp]; simp
    | cons c r ih =>
      intro p hp
      by_cases hc : c = 44
      · subst hc
        rw [cutF_comma] at hp
        rcases List.mem_cons.1 hp with rfl | hp
        · simp
        · have := ih p hp; simp; omega
      · obtain ⟨q, qs, e⟩ := cutF_cons r
        rw [cutF_other hc e] at hp
        rcases List.mem_cons.1 hp with rfl | hp
        · have := ih q (by rw [e]; simp); simp; omega
        · have := ih p (by rw [e]; simp [hp]); simp; omega
  have hm := List.mem_of_getElem? h
  unfold cutB at hm
  obtain ⟨p, hp, rfl⟩ := List.mem_map.1 hm
  have := key _ p hp
  rw [size_list] at this
  show p.toArray.size ≤ _
  simp; omega

/-- integers that the call owns -/
def OwnL (w : World) (G : Nat) (L : List Int) (g c : Nat) : Prop := w.ownsRow G 2 1 (.slice (some ⟨g, 0, none⟩) L.length c) L.length (L.map (Value.int .i64))

theorem OwnL.of {w : World} {G n : Nat} {v : Value} {L : List Int} (h : w.ownsRow G 2 1 v n (L.map (Value.int .i64))) (hn : n = L.length) (hv : v ≠ .slice none 0 0) : ∃ g c, v = .slice (some ⟨g, 0, none⟩) L.length c ∧ OwnL w G L g c := by
  subst hn
  rcases h.2 with ⟨h1, _⟩ | ⟨g, cap, cur, rfl, _⟩
  · exact absurd h1 hv
  · exact ⟨g, cap, rfl, h⟩
theorem OwnL.own {w : World} {G g c : Nat} {L : List Int} (h : OwnL w G L g c) : OwnI w G (some ⟨g, 0, none⟩) L := by
  intro h0
  obtain ⟨h1, h2⟩ := World.ownsRow.lt h g rfl
  refine ⟨g, 0, rfl, h1, h2, fun j hj => ?_, fun j hj => World.ownsRow.frozenAt h _⟩
  rw [Nat.zero_add, World.ownsRow.cellAt h j (by omega), List.getElem?_map]
  simp [atI, List.getD, hj]

/-- rows of different kinds are apart -/
theorem own_apart {w : World} {G H g h c d : Nat} {L : List Int} {P : List ByteArray} (a : OwnL w G L g c) (b : OwnS w H P h d) : g ≠ h := by
  intro e
  subst e
  rcases a.2 with ⟨h1, _⟩ | ⟨g1, _, _, h1, _, h2, _⟩
  · cases h1
  · rcases b.2 with ⟨h3, _⟩ | ⟨g2, _, _, h3, _, h4, _⟩
    · cases h3
    · injection h1 with h1 _ _
      injection h1 with h1
      injection h1 with h1 _ _
      injection h3 with h3 _ _
      injection h3 with h3
      injection h3 with h3 _ _
      subst h1
      subst h3
      rw [h2] at h4
      injection h4 with h4
      injection h4 with _ h5 _
      revert h5
      decide

theorem liL_none {s : ByteArray} (h : s.data.toList = noneT) : liL s = [] ∧ liB s = true := by unfold liL liB; rw [if_pos h, if_pos h]; exact ⟨rfl, rfl⟩
theorem liL_no {s : ByteArray} (h : ¬ s.data.toList = noneT) (h2 : (decide ((cutB s).length ≤ 64) && rdOk (cutB s)) = false) : liL s = [] ∧ liB s = false := by
  have hb : liB s = false := by unfold liB; rw [if_neg h, h2]
  unfold liL
  rw [if_neg h, hb]
  exact ⟨rfl, rfl⟩
theorem liL_yes {s : ByteArray} (h : ¬ s.data.toList = noneT) (h1 : (cutB s).length ≤ 64) (h2 : rdOk (cutB s) = true) : liL s = rdNs (cutB s) ∧ liB s = true := by
  have hb : liB s = true := by unfold liB; rw [if_neg h, h2, decide_eq_true h1]; rfl
  unfold liL
  rw [if_neg h, hb]
  exact ⟨rfl, rfl⟩

theorem none_eq {s : ByteArray} (h : s.data.toList = noneT) : (s.toList == [110, 111, 110, 101]) = true := by rw [Go.ByteArray.toList_eq, h]; rfl
theorem none_ne {s : ByteArray} (h : ¬ s.data.toList = noneT) : (s.toList == [110, 111, 110, 101]) = false := by rw [beq_eq_false_iff_ne, Go.ByteArray.toList_eq]; exact h

theorem own_below {w w' : World} {G n size : Nat} {e : TypeId} {v : Value} {xs : List Value} (h : w.ownsRow G e size v n xs) (hb : Below w.heap.size w w') : w'.ownsRow G e size v n xs := by
  refine ⟨h.1, ?_⟩
  rcases h.2 with h1 | ⟨g, cap, cur, rfl, h2, h3, h4⟩
  · exact .inl h1
  · refine .inr ⟨g, cap, cur, rfl, h2, ?_, h4⟩
    have hlt : g < w.heap.size := by
      rcases Nat.lt_or_ge g w.heap.size with h | h
      · exact h
      · rw [Array.getElem?_eq_none h] at h3; cases h3
    rw [hb.block g hlt]; exact h3

theorem specRd2 (s : ByteArray) (hs : s.size ≤ 1048576) (w : World) : Calls Tryd.prog 96 #[.string s] w fun e w' => e = .returned (.tuple #[.int .i64 (rdN s), .bool (rdB s)]) ∧ Below w.heap.size w w' := specRd s hs w

set_option maxHeartbeats 2000000 in
theorem specLi (s : ByteArray) (hs : s.size ≤ 1048576) (w : World) :
    Calls Tryd.prog 86 #[.string s] w (LPost (liL s) (liB s) w) := by
  by_cases hnone : s.data.toList = noneT
  · have hsb := none_eq hnone
    have N := Lib.hid (liL_none hnone)
    clear hnone
    go_enter Tryd.func86, Tryd.ntmps86
    go_wp2_with fail
    go_ret2
    rw [N.out.2]
    exact lpost_no N.out.1 ((Below.refl _ _).alloc (Nat.le_refl _) _)
  have hsb := none_ne hnone
  obtain ⟨i0, hi, hz0, hz1, hz2⟩ := info_parts info_i64
  have HI := Lib.hid (And.intro hi (And.intro hz0 (And.intro hz1 hz2)))
  have O0 : Hid (OwnL (w.alloc (.cells #[] 2)) w.heap.size [] w.heap.size 0) := World.ownsRow_lit w #[] 0 (Nat.le_refl _) (by decide) rfl
  have B0 : Hid (Below w.heap.size w (w.alloc (.cells #[] 2))) := (Below.refl _ _).alloc (Nat.le_refl _) _
  have HN := Lib.hid hnone
  have hsm : Hid (∀ (k : Nat) (x : ByteArray), (cutB s)[k]? = some x → x.size ≤ 1048576) := fun k x h => piece_small hs h
  obtain ⟨P, hP⟩ : ∃ P : List ByteArray, P = cutB s := ⟨_, rfl⟩
  have HP := Lib.hid hP
  have hcut := fun W : World => (specCut s hs W)
  rw [← hP] at hcut hsm
  have HC := Lib.hid hcut
  clear hi hz0 hz1 hz2 hnone hP hcut
  by_cases h64 : 64 < P.length
  · have N := Lib.hid (liL_no HN.out (by rw [← HP.out, decide_eq_false (by omega)]; rfl))
    go_enter Tryd.func86, Tryd.ntmps86
    go_wp2_with (go_at_call 95; refine (HC.out _).mono ?_; rintro e w1 ⟨gp, cp, rfl, hS, hB1⟩)
    go_ret2
    rw [N.out.2]
    exact lpost_no N.out.1 (B0.out.trans (hB1.out.mono B0.out.size))
  have h64' : P.length ≤ 64 := by omega
  have h9 : decide ((64 : Int) < (P.length : Int)) = false := decide_eq_false (by omega)
  clear h64
  go_enter Tryd.func86, Tryd.ntmps86
  go_wp2_with (go_at_call 95; refine (HC.out _).mono ?_; rintro e w1 ⟨gp, cp, rfl, hS, hB1⟩)
  have O1 : Hid (OwnL w1 w.heap.size [] w.heap.size 0) := own_below O0.out hB1.out
  have B1 : Hid (Below w.heap.size w w1) := B0.out.trans (hB1.out.mono B0.out.size)
  have S1 : Hid (OwnS w1 w.heap.size P gp cp) := ⟨hS.out.1, hS.out.2.elim .inl fun ⟨g, cap, cur, h1, h2, h3⟩ => .inr ⟨g, cap, cur, h1, Nat.le_trans B0.out.size h2, h3⟩⟩
  clear h9 hS hB1 O0 B0
  generalize hG : w.heap.size = G at *
  have HG := Lib.hid hG
  clear hG
  go_loopw [4, 6] (fun o i wr => ∃ (k g c : Nat) (L : List Int), o = .slice (some ⟨g, 0, none⟩) L.length c ∧ i = .int .i64 k ∧ k ≤ P.length ∧ L.length ≤ 64 ∧ Hid (L = (rdNs P).take k) ∧ Hid (rdTo P k) ∧ Hid (OwnL wr G L g c) ∧ Hid (OwnS wr G P gp cp) ∧ Hid (Below G w wr)) (fun _ i _ => P.length - (intOf i).toNat)
  case atStart => exact ⟨0, G, 0, [], rfl, rfl, Nat.zero_le _, by simp, rfl, fun j hj => absurd hj (Nat.not_lt_zero _), O1, S1, B1⟩
  case round =>
    obtain ⟨k, g, c, L, rfl, rfl, hk, htl, hLk, hT, hO, hS, hB⟩ := hrel
    have hsz : Hid (G ≤ wr.heap.size) := by show G ≤ wr.heap.size; rw [← HG.out]; exact hB.out.size
    by_cases hlt : k < P.length
    · obtain ⟨x, hx, hno, hyes, hsn0⟩ : ∃ x : ByteArray, P[k]? = some x ∧ (rdB x = false → rdOk P = false) ∧ (rdB x = true → rdTo P (k + 1)) ∧ (rdNs P).take (k + 1) = (rdNs P).take k ++ [rdN x] :=
        ⟨P.getD k ⟨#[]⟩, getD_some hlt, rdOk_not hlt, fun hrb j hj => by
          by_cases e : j = k
          · rw [e]; exact hrb
          · exact hT.out j (by omega), rdNs_snoc hlt⟩
      have hc := hS.out.cell hx
      have hxs := hsm.out k _ hx
      have hcv := fun W : World => specRd2 x hxs W
      have HV := Lib.hid hcv
      have hsn := Lib.hid hsn0
      clear hx hxs hcv hsn0
      rcases Bool.eq_false_or_eq_true (rdB x) with hrb | hrb
      rotate_left 1
      · have N := Lib.hid (liL_no HN.out (by rw [← HP.out, hno hrb, Bool.and_false]))
        clear hno hyes
        go_wp2_with (go_at_call 96; refine (HV.out _).mono ?_; rintro e w3 ⟨rfl, hb3⟩; have HB3 := Lib.hid hb3; clear hb3)
        go_ret2
        rw [N.out.2]
        exact lpost_no N.out.1 (by rw [HG.out]; exact hB.out.trans (HB3.out.mono hsz.out))
      · have N : Hid (rdTo P (k + 1)) := hyes hrb
        clear hno hyes
        go_wp2_with (first | (go_at_call 96; refine (HV.out _).mono ?_; rintro e w3 ⟨rfl, hb3⟩; have HB3 := Lib.hid hb3; have hO2 := Lib.hid (own_below hO.out hb3); have hsz3 : Hid (G ≤ w3.heap.size) := Nat.le_trans hsz.out hb3.size; clear hb3) | (at_builtin; refine wpList_append_own _ rfl _ _ 53 rfl G 2 i0 (.int .i64 0) 1 8 Tryd.underlying53 HI.out.1 HI.out.2.1 HI.out.2.2.1 HI.out.2.2.2 rfl (by decide) _ L.length (L.map (Value.int .i64)) rfl (World.ownsRow.alloc hO2.out _) ⟨w3.heap.size, 0, none⟩ 1 1 [.int .i64 (rdN x)] rfl rfl (World.ownsRow.cells (World.ownsRow_lit (base := G) (e := 2) (size := 1) w3 #[.int .i64 (rdN x)] 1 hsz3.out (by decide) rfl) rfl) (by intro u hu; rw [List.mem_singleton.1 hu]; rfl) (by unfold maxLen; omega) (by omega) (by simp; exact Nat.le_succ_of_le hsz3.out) ?_))
        intro v' w4 h2 hg2 hv2
        obtain ⟨g2, c2, rfl, O2⟩ := OwnL.of (L := L ++ [rdN x]) (by rw [List.map_append]; exact h2) (by simp) hv2
        have hS2 := own_below hS.out HB3.out
        have hap := own_apart hO2.out hS2
        have HS4 : Hid (OwnS w4 G P gp cp) := World.ownsRow.kept (World.ownsRow.alloc hS2 _) hg2 (.inr (by intro e; exact hap (Option.some.inj e).symm))
        have HB4 := Lib.hid (((hB.out.trans (HB3.out.mono hsz.out)).alloc hsz3.out _).grown hg2 (by simp; exact Nat.le_succ_of_le hsz3.out) (fun q hq => by obtain rfl := Option.some.inj hq; exact (World.ownsRow.lt hO2.out g rfl).1))
        have HO4 := Lib.hid O2
        have HL4 : Hid (L ++ [rdN x] = (rdNs P).take (k + 1)) := by show _ = _; rw [hsn.out, hLk.out]
        have hl4 : (L ++ [rdN x]).length ≤ 64 := by rw [HL4.out]; exact Nat.le_trans (List.length_take_le' _ _) (by rw [rdNs_length]; exact h64')
        generalize L ++ [rdN x] = L2 at *
        clear hv2 hg2 h2 O2 hS2 hap hO hS hB hO2
        go_wp2_with fail
        go_roundw
        case rel => exact ⟨k + 1, g2, c2, L2, rfl, by go_num, by omega, hl4, HL4, N, HO4, HS4, HB4⟩
        case measure => simp [intOf]; omega
    · have HK : Hid (k = P.length) := by show k = P.length; omega
      have hall := rdTo_all (show rdTo P P.length from HK.out ▸ hT.out)
      have N := Lib.hid (liL_yes HN.out (by rw [← HP.out]; exact h64') (by rw [← HP.out]; exact hall))
      have HT2 : Hid (L = rdNs P) := by show L = rdNs P; rw [hLk.out]; exact List.take_of_length_le (by rw [rdNs_length]; have := HK.out; omega)
      clear hall
      go_wp2_with fail
      go_ret2
      rw [N.out.2, N.out.1, ← HP.out]
      exact ⟨some ⟨g, 0, none⟩, c, by rw [← HT2.out]; rfl, by rw [← HT2.out, HG.out]; exact hO.out.own, by rw [HG.out]; exact hB⟩

end Go.Proofs.YtegbclfjcckglaaDoor
